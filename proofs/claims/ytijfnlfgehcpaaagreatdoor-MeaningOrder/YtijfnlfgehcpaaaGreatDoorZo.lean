import Derived.Test.YtijfnlfgehcpaaaGreatDoorZr
import Derived.Test.YtijfnlfgehcpaaaGreatDoorJix
namespace Go.Proofs.YtijfnlfgehcpaaaGreatDoor
open Go.RowKit Go.Maps

set_option maxRecDepth 100000 in
set_option maxHeartbeats 8000000 in
theorem order_walk (S : List FieldA) (h : Bool) (vals : List ValA) (a b c : XE) (sv u av bv cv : Value) (w : World) (hT : Types w) (hF : Forms w) (hf : FldsAt w sv S) (hu : ValsAt w u vals) (ha : SlE (argZ w.heap.size) w 0 av a.kids) (hb : SlE (argZ w.heap.size) w 0 bv b.kids) (hc : SlE (argZ w.heap.size) w 0 cv c.kids) :
    Calls Tryz.prog 8 #[.agg #[sv], .agg #[.bool h, u], exV a.op a.n a.s av, exV b.op b.n b.s bv, exV c.op c.n c.s cv] w fun e w' => e = .returned (.bool true) ∧ Keeps (fun _ => False) w w' := by
  have HLAW := hide (order_law S h vals a b c)
  obtain ⟨so, sc, rfl⟩ := RowAt.form hf
  obtain ⟨uo, uc, rfl⟩ := RowAt.form hu
  obtain ⟨xo, xc, rfl, _⟩ := ha.head
  obtain ⟨yo, yc, rfl, _⟩ := hb.head
  obtain ⟨zo, zc, rfl, _⟩ := hc.head
  obtain ⟨X, hX⟩ : ∃ X, ((((w.alloc (.cells #[(.slice so S.length sc)] 24)).alloc (.cells #[.bool h, (.slice uo vals.length uc)] 31)).alloc (.cells #[.int .i64 a.op, .int .i64 a.n, str a.s, (.slice xo a.kids.len xc)] 27)).alloc (.cells #[.int .i64 b.op, .int .i64 b.n, str b.s, (.slice yo b.kids.len yc)] 27)).alloc (.cells #[.int .i64 c.op, .int .i64 c.n, str c.s, (.slice zo c.kids.len zc)] 27) = X := ⟨_, rfl⟩
  have PK : Keeps (fun _ => False) w X := hX ▸ ((((((Keeps.refl _ w).alloc _).alloc _).alloc _).alloc _).alloc _)
  have P5 : X.heap[w.heap.size]? = some (.cells #[(.slice so S.length sc)] 24 (0, 0)) := hX ▸ ((((((Keeps.refl (fun _ => False) _).alloc _).alloc _).alloc _).alloc _).block _ (by simp) id).trans (heap_alloc_new w _)
  have P6 : X.heap[w.heap.size + 1]? = some (.cells #[.bool h, (.slice uo vals.length uc)] 31 (0, 0)) := hX ▸ (((((Keeps.refl (fun _ => False) _).alloc _).alloc _).alloc _).block _ (by simp) id).trans (alloc_at _ _ _ (by simp))
  have P7 : X.heap[w.heap.size + 1 + 1]? = some (.cells #[.int .i64 a.op, .int .i64 a.n, str a.s, (.slice xo a.kids.len xc)] 27 (0, 0)) := hX ▸ ((((Keeps.refl (fun _ => False) _).alloc _).alloc _).block _ (by simp) id).trans (alloc_at _ _ _ (by simp))
  have P8 : X.heap[w.heap.size + 1 + 1 + 1]? = some (.cells #[.int .i64 b.op, .int .i64 b.n, str b.s, (.slice yo b.kids.len yc)] 27 (0, 0)) := hX ▸ (((Keeps.refl (fun _ => False) _).alloc _).block _ (by simp) id).trans (alloc_at _ _ _ (by simp))
  have P9 : X.heap[w.heap.size + 1 + 1 + 1 + 1]? = some (.cells #[.int .i64 c.op, .int .i64 c.n, str c.s, (.slice zo c.kids.len zc)] 27 (0, 0)) := hX ▸ alloc_at _ _ _ (by simp)
  have B5 := hide (fun (W' : World) (hk : Keeps (fun _ => False) X W') => (hk.block _ (lt_of_block P5) id).trans P5)
  have B6 := hide (fun (W' : World) (hk : Keeps (fun _ => False) X W') => (hk.block _ (lt_of_block P6) id).trans P6)
  have B7 := hide (fun (W' : World) (hk : Keeps (fun _ => False) X W') => (hk.block _ (lt_of_block P7) id).trans P7)
  have B8 := hide (fun (W' : World) (hk : Keeps (fun _ => False) X W') => (hk.block _ (lt_of_block P8) id).trans P8)
  have B9 := hide (fun (W' : World) (hk : Keeps (fun _ => False) X W') => (hk.block _ (lt_of_block P9) id).trans P9)
  have CL : ∀ W' : World, Keeps (fun _ => False) X W' → W'.cell? ⟨w.heap.size + 1 + 1, 0, none⟩ = some (.int .i64 a.op) ∧ W'.cell? ⟨w.heap.size + 1 + 1, 1, none⟩ = some (.int .i64 a.n) ∧ W'.cell? ⟨w.heap.size + 1 + 1, 2, none⟩ = some (str a.s) ∧ W'.cell? ⟨w.heap.size + 1 + 1, 3, none⟩ = some ((.slice xo a.kids.len xc)) ∧ W'.cell? ⟨w.heap.size + 1 + 1 + 1, 0, none⟩ = some (.int .i64 b.op) ∧ W'.cell? ⟨w.heap.size + 1 + 1 + 1, 1, none⟩ = some (.int .i64 b.n) ∧ W'.cell? ⟨w.heap.size + 1 + 1 + 1, 2, none⟩ = some (str b.s) ∧ W'.cell? ⟨w.heap.size + 1 + 1 + 1, 3, none⟩ = some ((.slice yo b.kids.len yc)) ∧ W'.cell? ⟨w.heap.size + 1 + 1 + 1 + 1, 0, none⟩ = some (.int .i64 c.op) ∧ W'.cell? ⟨w.heap.size + 1 + 1 + 1 + 1, 1, none⟩ = some (.int .i64 c.n) ∧ W'.cell? ⟨w.heap.size + 1 + 1 + 1 + 1, 2, none⟩ = some (str c.s) ∧ W'.cell? ⟨w.heap.size + 1 + 1 + 1 + 1, 3, none⟩ = some ((.slice zo c.kids.len zc)) := fun W' hk => by
    have q7 := unhide B7 W' hk
    have q8 := unhide B8 W' hk
    have q9 := unhide B9 W' hk
    exact ⟨(cell_of_blk q7 _).trans rfl, (cell_of_blk q7 _).trans rfl, (cell_of_blk q7 _).trans rfl, (cell_of_blk q7 _).trans rfl, (cell_of_blk q8 _).trans rfl, (cell_of_blk q8 _).trans rfl, (cell_of_blk q8 _).trans rfl, (cell_of_blk q8 _).trans rfl, (cell_of_blk q9 _).trans rfl, (cell_of_blk q9 _).trans rfl, (cell_of_blk q9 _).trans rfl, (cell_of_blk q9 _).trans rfl⟩
  have c0 := CL X (Keeps.refl _ _)
  have HCL := hide CL
  have HNR := hide (near_v _ 0 (a.el (b.el (c.el .nil))) (.slice (some ⟨X.heap.size, 0, none⟩) 3 3) (X.alloc (.cells #[.int .i64 a.op, .int .i64 a.n, str a.s, (.slice xo a.kids.len xc), .int .i64 b.op, .int .i64 b.n, str b.s, (.slice yo b.kids.len yc), .int .i64 c.op, .int .i64 c.n, str c.s, (.slice zo c.kids.len zc)] 27)) (Nat.le_refl _) (isL_new (w := X) (l := a.el (b.el (c.el .nil))) (xs := [.int .i64 a.op, .int .i64 a.n, str a.s, (.slice xo a.kids.len xc), .int .i64 b.op, .int .i64 b.n, str b.s, (.slice yo b.kids.len yc), .int .i64 c.op, .int .i64 c.n, str c.s, (.slice zo c.kids.len zc)]) ⟨_, _, rfl, sl_top ha PK, ⟨_, _, rfl, sl_top hb PK, ⟨_, _, rfl, sl_top hc PK, rfl⟩⟩⟩))
  have HWK := fun W' (hk : Keeps (fun _ => False) w W') => hide (works_v W' (hT.keepF hk) (hF.keepF hk))
  have HT := hide hT
  have HFM := hide hF
  have HFL := hide hf
  have HVA := hide hu
  have HA := hide ha
  have HB := hide hb
  have HC := hide hc
  have HPK := hide PK
  clear hT hF hf hu ha hb hc P5 P6 P7 P8 P9 PK CL
  go_enter Tryz.func8, Tryz.ntmps8
  go_wp2_with fail
  refine (unhide HNR).mono ?_
  rintro e w1 ⟨r1, rfl, hk1, hz1⟩
  have HK1 := hide ((kAlloc X _).trans hk1)
  clear hk1 c0 HNR
  cases r1 with
  | true =>
    clear hz1
    go_wp2_with fail
    go_ret
    exact ⟨rfl, (unhide HPK).trans (unhide HK1)⟩
  | false =>
    have hz := hz1 rfl
    clear hz1
    simp only [XE.el, EL.size] at hz
    have HZ := hide hz
    clear hz
    go_wp2_with fail
    refine (unhide (HWK _ ((unhide HPK).trans (unhide HK1)))).mono ?_
    rintro e w2 ⟨rfl, hk2⟩
    have HK2 := hide ((unhide HK1).trans hk2)
    clear hk2 HWK
    have c3 := unhide HCL w2 (unhide HK2)
    have HO3 : Hid (Calls Tryz.prog 26 #[.int .i64 12, (.slice (some ⟨w2.heap.size, 0, none⟩) 2 2)] (w2.alloc (.cells #[.int .i64 a.op, .int .i64 a.n, str a.s, (.slice xo a.kids.len xc), .int .i64 b.op, .int .i64 b.n, str b.s, (.slice yo b.kids.len yc)] 27)) fun e w' => ∃ ao k, e = .returned (.agg #[.int .i64 12, .int .i64 0, str [], .slice ao 2 k]) ∧ SlE (argZ w'.heap.size) w' 0 (.slice ao 2 k) (a.el (b.el .nil)) ∧ Keeps (fun _ => False) (w2.alloc (.cells #[.int .i64 a.op, .int .i64 a.n, str a.s, (.slice xo a.kids.len xc), .int .i64 b.op, .int .i64 b.n, str b.s, (.slice yo b.kids.len yc)] 27)) w') := op_v _ 12 (a.el (b.el .nil)) (Nat.le_of_ble_eq_true rfl) (.slice (some ⟨w2.heap.size, 0, none⟩) 2 2) (w2.alloc (.cells #[.int .i64 a.op, .int .i64 a.n, str a.s, (.slice xo a.kids.len xc), .int .i64 b.op, .int .i64 b.n, str b.s, (.slice yo b.kids.len yc)] 27)) (Nat.le_refl _) (isL_new (w := w2) (l := a.el (b.el .nil)) (xs := [.int .i64 a.op, .int .i64 a.n, str a.s, (.slice xo a.kids.len xc), .int .i64 b.op, .int .i64 b.n, str b.s, (.slice yo b.kids.len yc)]) ⟨_, _, rfl, sl_top (unhide HA) ((unhide HPK).trans (unhide HK2)), ⟨_, _, rfl, sl_top (unhide HB) ((unhide HPK).trans (unhide HK2)), rfl⟩⟩)
    go_wp2_with fail
    refine (unhide HO3).mono ?_
    rintro e w3 ⟨o3, k3, rfl, hs3, hk3⟩
    have HS3 := hide hs3
    have HKW3 := hide ((unhide HK2).trans ((kAlloc w2 _).trans hk3))
    clear hs3 hk3 c3 HO3
    obtain ⟨Y, hY⟩ : ∃ Y, w3.alloc (.cells #[.int .i64 12, .int .i64 0, str [], .slice o3 2 k3] 27) = Y := ⟨_, rfl⟩
    have HP3 := hide (hY ▸ heap_alloc_new w3 _ : Y.heap[w3.heap.size]? = some (.cells #[.int .i64 12, .int .i64 0, str [], .slice o3 2 k3] 27 (0, 0)))
    have HKY3 := hide (hY ▸ kAlloc w3 _ : Keeps (fun _ => False) w3 Y)
    have HKX3 := hide ((unhide HKW3).trans (unhide HKY3))
    have c4 := unhide HCL Y (unhide HKX3)
    have HO4 : Hid (Calls Tryz.prog 26 #[.int .i64 12, (.slice (some ⟨Y.heap.size, 0, none⟩) 2 2)] (Y.alloc (.cells #[.int .i64 b.op, .int .i64 b.n, str b.s, (.slice yo b.kids.len yc), .int .i64 a.op, .int .i64 a.n, str a.s, (.slice xo a.kids.len xc)] 27)) fun e w' => ∃ ao k, e = .returned (.agg #[.int .i64 12, .int .i64 0, str [], .slice ao 2 k]) ∧ SlE (argZ w'.heap.size) w' 0 (.slice ao 2 k) (b.el (a.el .nil)) ∧ Keeps (fun _ => False) (Y.alloc (.cells #[.int .i64 b.op, .int .i64 b.n, str b.s, (.slice yo b.kids.len yc), .int .i64 a.op, .int .i64 a.n, str a.s, (.slice xo a.kids.len xc)] 27)) w') := op_v _ 12 (b.el (a.el .nil)) (Nat.le_of_ble_eq_true rfl) (.slice (some ⟨Y.heap.size, 0, none⟩) 2 2) (Y.alloc (.cells #[.int .i64 b.op, .int .i64 b.n, str b.s, (.slice yo b.kids.len yc), .int .i64 a.op, .int .i64 a.n, str a.s, (.slice xo a.kids.len xc)] 27)) (Nat.le_refl _) (isL_new (w := Y) (l := b.el (a.el .nil)) (xs := [.int .i64 b.op, .int .i64 b.n, str b.s, (.slice yo b.kids.len yc), .int .i64 a.op, .int .i64 a.n, str a.s, (.slice xo a.kids.len xc)]) ⟨_, _, rfl, sl_top (unhide HB) ((unhide HPK).trans (unhide HKX3)), ⟨_, _, rfl, sl_top (unhide HA) ((unhide HPK).trans (unhide HKX3)), rfl⟩⟩)
    go_wp2_with fail
    refine (unhide HO4).mono ?_
    rintro e w4 ⟨o4, k4, rfl, hs4, hk4⟩
    have HS4 := hide hs4
    have HKW4 := hide ((unhide HKX3).trans ((kAlloc Y _).trans hk4))
    have HKA4 := hide ((kAlloc Y _).trans hk4)
    clear hs4 hk4 c4 HO4
    obtain ⟨Z, hZ⟩ : ∃ Y, w4.alloc (.cells #[.int .i64 12, .int .i64 0, str [], .slice o4 2 k4] 27) = Y := ⟨_, rfl⟩
    have HP4 := hide (hZ ▸ heap_alloc_new w4 _ : Z.heap[w4.heap.size]? = some (.cells #[.int .i64 12, .int .i64 0, str [], .slice o4 2 k4] 27 (0, 0)))
    have HKY4 := hide (hZ ▸ kAlloc w4 _ : Keeps (fun _ => False) w4 Z)
    have HKX4 := hide ((unhide HKW4).trans (unhide HKY4))
    have HYZ := hide ((unhide HKA4).trans (unhide HKY4))
    have HXZ := HKX4
    have HPZ := hide ((unhide HPK).trans (unhide HXZ))
    have D5 := hide (fun (W' : World) (hk : Keeps (fun _ => False) Z W') => unhide B5 W' ((unhide HXZ).trans hk))
    have D6 := hide (fun (W' : World) (hk : Keeps (fun _ => False) Z W') => unhide B6 W' ((unhide HXZ).trans hk))
    have D7 := hide (fun (W' : World) (hk : Keeps (fun _ => False) Z W') => unhide B7 W' ((unhide HXZ).trans hk))
    have D8 := hide (fun (W' : World) (hk : Keeps (fun _ => False) Z W') => unhide B8 W' ((unhide HXZ).trans hk))
    have D9 := hide (fun (W' : World) (hk : Keeps (fun _ => False) Z W') => unhide B9 W' ((unhide HXZ).trans hk))
    have D13 := hide (fun (W' : World) (hk : Keeps (fun _ => False) Z W') => (((unhide HYZ).trans hk).block _ (lt_of_block (unhide HP3)) id).trans (unhide HP3))
    have D14 := hide (fun (W' : World) (hk : Keeps (fun _ => False) Z W') => (hk.block _ (lt_of_block (unhide HP4)) id).trans (unhide HP4))
    have HK3Z := hide ((unhide HKY3).trans (unhide HYZ))
    have HK4Z := HKY4
    have HKZ := hide (Keeps.refl (fun _ => False) Z)
    clear B5 B6 B7 B8 B9 HCL
    go_wp2_with fail
    rename_i Q0 K0 hc0
    refine wp_region_table (X := Z) (by kernel_rfl) [40, 41, 42, 43, 44, 45, 46, 47, 15] (by decide) rfl (by first | rfl | kernel_rfl | simp [opsB]) (unhide HKZ) (fun i v W1 => match i with | 0 => v = .agg #[(.slice so S.length sc)] | 1 => v = .agg #[.bool h, (.slice uo vals.length uc)] | 2 => isE W1 v a | 3 => isE W1 v b | 4 => isL W1 v (a.el (b.el .nil)) | 5 => isE W1 v (mk2 14 a b) | 6 => isE W1 v (mk2 12 b a) | 7 => v = .bool true | 8 => v = .bool true | _ => True) ?_ ?_ ?_
    · intro i v w1 w2 hq hk
      rcases i with _ | _ | _ | _ | _ | _ | _ | _ | _ | i
      all_goals first | exact hq | exact isE.keep hq hk | exact isL.keep hq hk
    · intro i o A W1 ho hs hk hd K' hK
      rcases i with _ | _ | _ | _ | _ | _ | _ | _ | _ | i
      · obtain rfl := Option.some.inj ho
        exact step_load24 rfl ((hs.at rfl 5 (by decide)).trans rfl) (unhide D5 W1 hk) (hK _ _ rfl (Keeps.refl _ _))
      · obtain rfl := Option.some.inj ho
        exact step_load31 rfl ((hs.at rfl 6 (by decide)).trans rfl) (unhide D6 W1 hk) (hK _ _ rfl (Keeps.refl _ _))
      · obtain rfl := Option.some.inj ho
        exact step_load27 (e := a) rfl ((hs.at rfl 7 (by decide)).trans rfl) (unhide D7 W1 hk) (unhide HA) ((unhide HPZ).trans hk) (fun v' h1 => hK v' _ h1 (Keeps.refl _ _))
      · obtain rfl := Option.some.inj ho
        exact step_load27 (e := b) rfl ((hs.at rfl 8 (by decide)).trans rfl) (unhide D8 W1 hk) (unhide HB) ((unhide HPZ).trans hk) (fun v' h1 => hK v' _ h1 (Keeps.refl _ _))
      · obtain rfl := Option.some.inj ho
        exact step_slice2 rfl rfl rfl (hd ⟨2, .data⟩ (by simp) rfl) (hd ⟨3, .data⟩ (by simp) rfl) (fun v' w' h1 h2 => hK v' w' h1 h2)
      · obtain rfl := Option.some.inj ho
        exact step_call26 (l := a.el (b.el .nil)) rfl rfl (hd ⟨4, .data⟩ (by simp) rfl) (Nat.le_of_ble_eq_true rfl) (fun v' w' h1 h2 => hK v' w' h1 h2)
      · obtain rfl := Option.some.inj ho
        exact step_load27 (e := (mk2 12 b a)) rfl ((hs.at rfl 14 (by decide)).trans rfl) (unhide D14 W1 hk) (unhide HS4) ((unhide HK4Z).trans hk) (fun v' h1 => hK v' _ h1 (Keeps.refl _ _))
      · obtain rfl := Option.some.inj ho
        exact step_call25 (x := (mk2 14 a b)) (y := (mk2 12 b a)) rfl (hd ⟨0, .data⟩ (by simp) rfl) (hd ⟨1, .data⟩ (by simp) rfl) rfl rfl ((unhide HT).keepF ((unhide HPZ).trans hk)) ((unhide HFM).keepF ((unhide HPZ).trans hk)) ((unhide HFL).keepF ((unhide HPZ).trans hk)) ((unhide HVA).keepF ((unhide HPZ).trans hk)) (hd ⟨5, .data⟩ (by simp) rfl) (hd ⟨6, .data⟩ (by simp) rfl) (by have := unhide HZ; simp only [mk2, XE.el, EL.size]; omega) (by have := unhide HZ; simp only [mk2, XE.el, EL.size]; omega) ((unhide HLAW).1) (fun w' h2 => hK _ _ rfl h2)
      · obtain rfl := Option.some.inj ho
        exact step_assign rfl (hd ⟨7, .data⟩ (by simp) rfl) (hK _ _ rfl (Keeps.refl _ _))
      · simp at ho
    · intro A0 W0 hs hk hall
      have hl := hall 8 (by decide)
      have z0 : A0.tmps.size = 185 := hs.size
      have hdef := hs.defers
      have q5 := (hs.at rfl 5 (by decide)).trans rfl
      have q6 := (hs.at rfl 6 (by decide)).trans rfl
      have q7 := (hs.at rfl 7 (by decide)).trans rfl
      have q8 := (hs.at rfl 8 (by decide)).trans rfl
      have q9 := (hs.at rfl 9 (by decide)).trans rfl
      have q12 := (hs.at rfl 12 (by decide)).trans rfl
      have q13 := (hs.at rfl 13 (by decide)).trans rfl
      have q14 := (hs.at rfl 14 (by decide)).trans rfl
      have q15 : A0.tmps.getD 15 undef = .bool true := hl
      have HKN0 := hide hk
      clear hs hk hall hl
      refine hc0 _ _ ?_
      clear hc0
      try clear p5
      try clear p6
      try clear p7
      try clear p8
      try clear p9
      try clear p12
      try clear p13
      try clear p14
      try clear p15
      have p5 := q5
      clear q5
      have p6 := q6
      clear q6
      have p7 := q7
      clear q7
      have p8 := q8
      clear q8
      have p9 := q9
      clear q9
      have p12 := q12
      clear q12
      have p13 := q13
      clear q13
      have p14 := q14
      clear q14
      have p15 := q15
      clear q15
      have d0 : A0.defers = [] := hdef
      clear hdef
      go_wp2_with fail
      rename_i Q0 K0 hc0
      refine wp_region_table (X := Z) (by kernel_rfl) [48, 49, 50, 51, 52, 53, 54, 55, 56, 57, 16] (by decide) rfl (by rw [z0]; first | rfl | kernel_rfl | simp [opsB]) (unhide HKN0) (fun i v W1 => match i with | 0 => v = .agg #[(.slice so S.length sc)] | 1 => v = .agg #[.bool h, (.slice uo vals.length uc)] | 2 => isE W1 v a | 3 => isE W1 v b | 4 => isL W1 v (a.el (b.el .nil)) | 5 => isE W1 v (mk2 13 a b) | 6 => isE W1 v (mk2 12 b a) | 7 => isL W1 v ((mk2 12 b a).el .nil) | 8 => isE W1 v (mk1 7 (mk2 12 b a)) | 9 => v = .bool true | 10 => v = .bool true | _ => True) ?_ ?_ ?_
      · intro i v w1 w2 hq hk
        rcases i with _ | _ | _ | _ | _ | _ | _ | _ | _ | _ | _ | i
        all_goals first | exact hq | exact isE.keep hq hk | exact isL.keep hq hk
      · intro i o A W1 ho hs hk hd K' hK
        rcases i with _ | _ | _ | _ | _ | _ | _ | _ | _ | _ | _ | i
        · obtain rfl := Option.some.inj ho
          exact step_load24 rfl ((hs.at rfl 5 (by decide)).trans p5) (unhide D5 W1 hk) (hK _ _ rfl (Keeps.refl _ _))
        · obtain rfl := Option.some.inj ho
          exact step_load31 rfl ((hs.at rfl 6 (by decide)).trans p6) (unhide D6 W1 hk) (hK _ _ rfl (Keeps.refl _ _))
        · obtain rfl := Option.some.inj ho
          exact step_load27 (e := a) rfl ((hs.at rfl 7 (by decide)).trans p7) (unhide D7 W1 hk) (unhide HA) ((unhide HPZ).trans hk) (fun v' h1 => hK v' _ h1 (Keeps.refl _ _))
        · obtain rfl := Option.some.inj ho
          exact step_load27 (e := b) rfl ((hs.at rfl 8 (by decide)).trans p8) (unhide D8 W1 hk) (unhide HB) ((unhide HPZ).trans hk) (fun v' h1 => hK v' _ h1 (Keeps.refl _ _))
        · obtain rfl := Option.some.inj ho
          exact step_slice2 rfl rfl rfl (hd ⟨2, .data⟩ (by simp) rfl) (hd ⟨3, .data⟩ (by simp) rfl) (fun v' w' h1 h2 => hK v' w' h1 h2)
        · obtain rfl := Option.some.inj ho
          exact step_call26 (l := a.el (b.el .nil)) rfl rfl (hd ⟨4, .data⟩ (by simp) rfl) (Nat.le_of_ble_eq_true rfl) (fun v' w' h1 h2 => hK v' w' h1 h2)
        · obtain rfl := Option.some.inj ho
          exact step_load27 (e := (mk2 12 b a)) rfl ((hs.at rfl 14 (by decide)).trans p14) (unhide D14 W1 hk) (unhide HS4) ((unhide HK4Z).trans hk) (fun v' h1 => hK v' _ h1 (Keeps.refl _ _))
        · obtain rfl := Option.some.inj ho
          exact step_slice1 rfl rfl (hd ⟨6, .data⟩ (by simp) rfl) (fun v' w' h1 h2 => hK v' w' h1 h2)
        · obtain rfl := Option.some.inj ho
          exact step_call26 (l := (mk2 12 b a).el .nil) rfl rfl (hd ⟨7, .data⟩ (by simp) rfl) (Nat.le_of_ble_eq_true rfl) (fun v' w' h1 h2 => hK v' w' h1 h2)
        · obtain rfl := Option.some.inj ho
          exact step_call25 (x := (mk2 13 a b)) (y := (mk1 7 (mk2 12 b a))) rfl (hd ⟨0, .data⟩ (by simp) rfl) (hd ⟨1, .data⟩ (by simp) rfl) rfl rfl ((unhide HT).keepF ((unhide HPZ).trans hk)) ((unhide HFM).keepF ((unhide HPZ).trans hk)) ((unhide HFL).keepF ((unhide HPZ).trans hk)) ((unhide HVA).keepF ((unhide HPZ).trans hk)) (hd ⟨5, .data⟩ (by simp) rfl) (hd ⟨8, .data⟩ (by simp) rfl) (by have := unhide HZ; simp only [mk2, XE.el, EL.size]; omega) (by have := unhide HZ; simp only [mk1, mk2, XE.el, EL.size]; omega) ((unhide HLAW).2.1) (fun w' h2 => hK _ _ rfl h2)
        · obtain rfl := Option.some.inj ho
          exact step_assign rfl (hd ⟨9, .data⟩ (by simp) rfl) (hK _ _ rfl (Keeps.refl _ _))
        · simp at ho
      · intro A1 W1 hs hk hall
        have hl := hall 10 (by decide)
        have z1 : A1.tmps.size = 185 := hs.size.trans z0
        have hdef := hs.defers
        have q5 := (hs.at rfl 5 (by decide)).trans p5
        have q6 := (hs.at rfl 6 (by decide)).trans p6
        have q7 := (hs.at rfl 7 (by decide)).trans p7
        have q8 := (hs.at rfl 8 (by decide)).trans p8
        have q9 := (hs.at rfl 9 (by decide)).trans p9
        have q12 := (hs.at rfl 12 (by decide)).trans p12
        have q13 := (hs.at rfl 13 (by decide)).trans p13
        have q14 := (hs.at rfl 14 (by decide)).trans p14
        have q15 := (hs.at rfl 15 (by decide)).trans p15
        have q16 : A1.tmps.getD 16 undef = .bool true := hl
        have HKN1 := hide hk
        clear hs hk hall hl
        refine hc0 _ _ ?_
        clear hc0
        try clear p5
        try clear p6
        try clear p7
        try clear p8
        try clear p9
        try clear p12
        try clear p13
        try clear p14
        try clear p15
        try clear p16
        have p5 := q5
        clear q5
        have p6 := q6
        clear q6
        have p7 := q7
        clear q7
        have p8 := q8
        clear q8
        have p9 := q9
        clear q9
        have p12 := q12
        clear q12
        have p13 := q13
        clear q13
        have p14 := q14
        clear q14
        have p15 := q15
        clear q15
        have p16 := q16
        clear q16
        have d1 := hdef.trans d0
        clear hdef d0
        go_wp2_with fail
        rename_i Q0 K0 hc0
        refine wp_region_table (X := Z) (by kernel_rfl) [58, 59, 60, 61, 62, 63, 64, 65, 66, 67, 17] (by decide) rfl (by rw [z1]; first | rfl | kernel_rfl | simp [opsB]) (unhide HKN1) (fun i v W1 => match i with | 0 => v = .agg #[(.slice so S.length sc)] | 1 => v = .agg #[.bool h, (.slice uo vals.length uc)] | 2 => isE W1 v a | 3 => isE W1 v b | 4 => isL W1 v (a.el (b.el .nil)) | 5 => isE W1 v (mk2 15 a b) | 6 => isE W1 v (mk2 12 a b) | 7 => isL W1 v ((mk2 12 a b).el .nil) | 8 => isE W1 v (mk1 7 (mk2 12 a b)) | 9 => v = .bool true | 10 => v = .bool true | _ => True) ?_ ?_ ?_
        · intro i v w1 w2 hq hk
          rcases i with _ | _ | _ | _ | _ | _ | _ | _ | _ | _ | _ | i
          all_goals first | exact hq | exact isE.keep hq hk | exact isL.keep hq hk
        · intro i o A W1 ho hs hk hd K' hK
          rcases i with _ | _ | _ | _ | _ | _ | _ | _ | _ | _ | _ | i
          · obtain rfl := Option.some.inj ho
            exact step_load24 rfl ((hs.at rfl 5 (by decide)).trans p5) (unhide D5 W1 hk) (hK _ _ rfl (Keeps.refl _ _))
          · obtain rfl := Option.some.inj ho
            exact step_load31 rfl ((hs.at rfl 6 (by decide)).trans p6) (unhide D6 W1 hk) (hK _ _ rfl (Keeps.refl _ _))
          · obtain rfl := Option.some.inj ho
            exact step_load27 (e := a) rfl ((hs.at rfl 7 (by decide)).trans p7) (unhide D7 W1 hk) (unhide HA) ((unhide HPZ).trans hk) (fun v' h1 => hK v' _ h1 (Keeps.refl _ _))
          · obtain rfl := Option.some.inj ho
            exact step_load27 (e := b) rfl ((hs.at rfl 8 (by decide)).trans p8) (unhide D8 W1 hk) (unhide HB) ((unhide HPZ).trans hk) (fun v' h1 => hK v' _ h1 (Keeps.refl _ _))
          · obtain rfl := Option.some.inj ho
            exact step_slice2 rfl rfl rfl (hd ⟨2, .data⟩ (by simp) rfl) (hd ⟨3, .data⟩ (by simp) rfl) (fun v' w' h1 h2 => hK v' w' h1 h2)
          · obtain rfl := Option.some.inj ho
            exact step_call26 (l := a.el (b.el .nil)) rfl rfl (hd ⟨4, .data⟩ (by simp) rfl) (Nat.le_of_ble_eq_true rfl) (fun v' w' h1 h2 => hK v' w' h1 h2)
          · obtain rfl := Option.some.inj ho
            exact step_load27 (e := (mk2 12 a b)) rfl ((hs.at rfl 13 (by decide)).trans p13) (unhide D13 W1 hk) (unhide HS3) ((unhide HK3Z).trans hk) (fun v' h1 => hK v' _ h1 (Keeps.refl _ _))
          · obtain rfl := Option.some.inj ho
            exact step_slice1 rfl rfl (hd ⟨6, .data⟩ (by simp) rfl) (fun v' w' h1 h2 => hK v' w' h1 h2)
          · obtain rfl := Option.some.inj ho
            exact step_call26 (l := (mk2 12 a b).el .nil) rfl rfl (hd ⟨7, .data⟩ (by simp) rfl) (Nat.le_of_ble_eq_true rfl) (fun v' w' h1 h2 => hK v' w' h1 h2)
          · obtain rfl := Option.some.inj ho
            exact step_call25 (x := (mk2 15 a b)) (y := (mk1 7 (mk2 12 a b))) rfl (hd ⟨0, .data⟩ (by simp) rfl) (hd ⟨1, .data⟩ (by simp) rfl) rfl rfl ((unhide HT).keepF ((unhide HPZ).trans hk)) ((unhide HFM).keepF ((unhide HPZ).trans hk)) ((unhide HFL).keepF ((unhide HPZ).trans hk)) ((unhide HVA).keepF ((unhide HPZ).trans hk)) (hd ⟨5, .data⟩ (by simp) rfl) (hd ⟨8, .data⟩ (by simp) rfl) (by have := unhide HZ; simp only [mk2, XE.el, EL.size]; omega) (by have := unhide HZ; simp only [mk1, mk2, XE.el, EL.size]; omega) ((unhide HLAW).2.2.1) (fun w' h2 => hK _ _ rfl h2)
          · obtain rfl := Option.some.inj ho
            exact step_assign rfl (hd ⟨9, .data⟩ (by simp) rfl) (hK _ _ rfl (Keeps.refl _ _))
          · simp at ho
        · intro A2 W2 hs hk hall
          have hl := hall 10 (by decide)
          have z2 : A2.tmps.size = 185 := hs.size.trans z1
          have hdef := hs.defers
          have q5 := (hs.at rfl 5 (by decide)).trans p5
          have q6 := (hs.at rfl 6 (by decide)).trans p6
          have q7 := (hs.at rfl 7 (by decide)).trans p7
          have q8 := (hs.at rfl 8 (by decide)).trans p8
          have q9 := (hs.at rfl 9 (by decide)).trans p9
          have q12 := (hs.at rfl 12 (by decide)).trans p12
          have q13 := (hs.at rfl 13 (by decide)).trans p13
          have q14 := (hs.at rfl 14 (by decide)).trans p14
          have q15 := (hs.at rfl 15 (by decide)).trans p15
          have q16 := (hs.at rfl 16 (by decide)).trans p16
          have q17 : A2.tmps.getD 17 undef = .bool true := hl
          have HKN2 := hide hk
          clear hs hk hall hl
          refine hc0 _ _ ?_
          clear hc0
          try clear p5
          try clear p6
          try clear p7
          try clear p8
          try clear p9
          try clear p12
          try clear p13
          try clear p14
          try clear p15
          try clear p16
          try clear p17
          have p5 := q5
          clear q5
          have p6 := q6
          clear q6
          have p7 := q7
          clear q7
          have p8 := q8
          clear q8
          have p9 := q9
          clear q9
          have p12 := q12
          clear q12
          have p13 := q13
          clear q13
          have p14 := q14
          clear q14
          have p15 := q15
          clear q15
          have p16 := q16
          clear q16
          have p17 := q17
          clear q17
          have d2 := hdef.trans d1
          clear hdef d1
          go_wp2_with fail
          rename_i Q0 K0 hc0
          refine wp_region_table (X := Z) (by kernel_rfl) [68, 69, 70, 71, 72, 73, 74, 75, 76, 77, 78, 79, 80, 18] (by decide) rfl (by rw [z2]; first | rfl | kernel_rfl | simp [opsB]) (unhide HKN2) (fun i v W1 => match i with | 0 => v = .agg #[(.slice so S.length sc)] | 1 => v = .agg #[.bool h, (.slice uo vals.length uc)] | 2 => isE W1 v a | 3 => isE W1 v b | 4 => isL W1 v (a.el (b.el .nil)) | 5 => isE W1 v (mk2 17 a b) | 6 => isE W1 v a | 7 => isE W1 v b | 8 => isL W1 v (a.el (b.el .nil)) | 9 => isE W1 v (mk2 16 a b) | 10 => isL W1 v ((mk2 16 a b).el .nil) | 11 => isE W1 v (mk1 7 (mk2 16 a b)) | 12 => v = .bool true | 13 => v = .bool true | _ => True) ?_ ?_ ?_
          · intro i v w1 w2 hq hk
            rcases i with _ | _ | _ | _ | _ | _ | _ | _ | _ | _ | _ | _ | _ | _ | i
            all_goals first | exact hq | exact isE.keep hq hk | exact isL.keep hq hk
          · intro i o A W1 ho hs hk hd K' hK
            rcases i with _ | _ | _ | _ | _ | _ | _ | _ | _ | _ | _ | _ | _ | _ | i
            · obtain rfl := Option.some.inj ho
              exact step_load24 rfl ((hs.at rfl 5 (by decide)).trans p5) (unhide D5 W1 hk) (hK _ _ rfl (Keeps.refl _ _))
            · obtain rfl := Option.some.inj ho
              exact step_load31 rfl ((hs.at rfl 6 (by decide)).trans p6) (unhide D6 W1 hk) (hK _ _ rfl (Keeps.refl _ _))
            · obtain rfl := Option.some.inj ho
              exact step_load27 (e := a) rfl ((hs.at rfl 7 (by decide)).trans p7) (unhide D7 W1 hk) (unhide HA) ((unhide HPZ).trans hk) (fun v' h1 => hK v' _ h1 (Keeps.refl _ _))
            · obtain rfl := Option.some.inj ho
              exact step_load27 (e := b) rfl ((hs.at rfl 8 (by decide)).trans p8) (unhide D8 W1 hk) (unhide HB) ((unhide HPZ).trans hk) (fun v' h1 => hK v' _ h1 (Keeps.refl _ _))
            · obtain rfl := Option.some.inj ho
              exact step_slice2 rfl rfl rfl (hd ⟨2, .data⟩ (by simp) rfl) (hd ⟨3, .data⟩ (by simp) rfl) (fun v' w' h1 h2 => hK v' w' h1 h2)
            · obtain rfl := Option.some.inj ho
              exact step_call26 (l := a.el (b.el .nil)) rfl rfl (hd ⟨4, .data⟩ (by simp) rfl) (Nat.le_of_ble_eq_true rfl) (fun v' w' h1 h2 => hK v' w' h1 h2)
            · obtain rfl := Option.some.inj ho
              exact step_load27 (e := a) rfl ((hs.at rfl 7 (by decide)).trans p7) (unhide D7 W1 hk) (unhide HA) ((unhide HPZ).trans hk) (fun v' h1 => hK v' _ h1 (Keeps.refl _ _))
            · obtain rfl := Option.some.inj ho
              exact step_load27 (e := b) rfl ((hs.at rfl 8 (by decide)).trans p8) (unhide D8 W1 hk) (unhide HB) ((unhide HPZ).trans hk) (fun v' h1 => hK v' _ h1 (Keeps.refl _ _))
            · obtain rfl := Option.some.inj ho
              exact step_slice2 rfl rfl rfl (hd ⟨6, .data⟩ (by simp) rfl) (hd ⟨7, .data⟩ (by simp) rfl) (fun v' w' h1 h2 => hK v' w' h1 h2)
            · obtain rfl := Option.some.inj ho
              exact step_call26 (l := a.el (b.el .nil)) rfl rfl (hd ⟨8, .data⟩ (by simp) rfl) (Nat.le_of_ble_eq_true rfl) (fun v' w' h1 h2 => hK v' w' h1 h2)
            · obtain rfl := Option.some.inj ho
              exact step_slice1 rfl rfl (hd ⟨9, .data⟩ (by simp) rfl) (fun v' w' h1 h2 => hK v' w' h1 h2)
            · obtain rfl := Option.some.inj ho
              exact step_call26 (l := (mk2 16 a b).el .nil) rfl rfl (hd ⟨10, .data⟩ (by simp) rfl) (Nat.le_of_ble_eq_true rfl) (fun v' w' h1 h2 => hK v' w' h1 h2)
            · obtain rfl := Option.some.inj ho
              exact step_call25 (x := (mk2 17 a b)) (y := (mk1 7 (mk2 16 a b))) rfl (hd ⟨0, .data⟩ (by simp) rfl) (hd ⟨1, .data⟩ (by simp) rfl) rfl rfl ((unhide HT).keepF ((unhide HPZ).trans hk)) ((unhide HFM).keepF ((unhide HPZ).trans hk)) ((unhide HFL).keepF ((unhide HPZ).trans hk)) ((unhide HVA).keepF ((unhide HPZ).trans hk)) (hd ⟨5, .data⟩ (by simp) rfl) (hd ⟨11, .data⟩ (by simp) rfl) (by have := unhide HZ; simp only [mk2, XE.el, EL.size]; omega) (by have := unhide HZ; simp only [mk1, mk2, XE.el, EL.size]; omega) ((unhide HLAW).2.2.2.1) (fun w' h2 => hK _ _ rfl h2)
            · obtain rfl := Option.some.inj ho
              exact step_assign rfl (hd ⟨12, .data⟩ (by simp) rfl) (hK _ _ rfl (Keeps.refl _ _))
            · simp at ho
          · intro A3 W3 hs hk hall
            have hl := hall 13 (by decide)
            have z3 : A3.tmps.size = 185 := hs.size.trans z2
            have hdef := hs.defers
            have q5 := (hs.at rfl 5 (by decide)).trans p5
            have q6 := (hs.at rfl 6 (by decide)).trans p6
            have q7 := (hs.at rfl 7 (by decide)).trans p7
            have q8 := (hs.at rfl 8 (by decide)).trans p8
            have q9 := (hs.at rfl 9 (by decide)).trans p9
            have q12 := (hs.at rfl 12 (by decide)).trans p12
            have q13 := (hs.at rfl 13 (by decide)).trans p13
            have q14 := (hs.at rfl 14 (by decide)).trans p14
            have q15 := (hs.at rfl 15 (by decide)).trans p15
            have q16 := (hs.at rfl 16 (by decide)).trans p16
            have q17 := (hs.at rfl 17 (by decide)).trans p17
            have q18 : A3.tmps.getD 18 undef = .bool true := hl
            have HKN3 := hide hk
            clear hs hk hall hl
            refine hc0 _ _ ?_
            clear hc0
            try clear p5
            try clear p6
            try clear p7
            try clear p8
            try clear p9
            try clear p12
            try clear p13
            try clear p14
            try clear p15
            try clear p16
            try clear p17
            try clear p18
            have p5 := q5
            clear q5
            have p6 := q6
            clear q6
            have p7 := q7
            clear q7
            have p8 := q8
            clear q8
            have p9 := q9
            clear q9
            have p12 := q12
            clear q12
            have p13 := q13
            clear q13
            have p14 := q14
            clear q14
            have p15 := q15
            clear q15
            have p16 := q16
            clear q16
            have p17 := q17
            clear q17
            have p18 := q18
            clear q18
            have d3 := hdef.trans d2
            clear hdef d2
            go_wp2_with fail
            rename_i Q0 K0 hc0
            refine wp_region_table (X := Z) (by kernel_rfl) [81, 82, 83, 84, 85, 86, 87, 88, 89, 90, 91, 92, 93, 94, 95, 96, 97, 19] (by decide) rfl (by rw [z3]; first | rfl | kernel_rfl | simp [opsB]) (unhide HKN3) (fun i v W1 => match i with | 0 => v = .agg #[(.slice so S.length sc)] | 1 => v = .agg #[.bool h, (.slice uo vals.length uc)] | 2 => isE W1 v a | 3 => isE W1 v b | 4 => isL W1 v (a.el (b.el .nil)) | 5 => isE W1 v (mk2 13 a b) | 6 => isE W1 v b | 7 => isE W1 v a | 8 => isL W1 v (b.el (a.el .nil)) | 9 => isE W1 v (mk2 13 b a) | 10 => isL W1 v ((mk2 13 a b).el ((mk2 13 b a).el .nil)) | 11 => isE W1 v (mk2 18 (mk2 13 a b) (mk2 13 b a)) | 12 => isE W1 v a | 13 => isE W1 v b | 14 => isL W1 v (a.el (b.el .nil)) | 15 => isE W1 v (mk2 16 a b) | 16 => v = .bool true | 17 => v = .bool true | _ => True) ?_ ?_ ?_
            · intro i v w1 w2 hq hk
              rcases i with _ | _ | _ | _ | _ | _ | _ | _ | _ | _ | _ | _ | _ | _ | _ | _ | _ | _ | i
              all_goals first | exact hq | exact isE.keep hq hk | exact isL.keep hq hk
            · intro i o A W1 ho hs hk hd K' hK
              rcases i with _ | _ | _ | _ | _ | _ | _ | _ | _ | _ | _ | _ | _ | _ | _ | _ | _ | _ | i
              · obtain rfl := Option.some.inj ho
                exact step_load24 rfl ((hs.at rfl 5 (by decide)).trans p5) (unhide D5 W1 hk) (hK _ _ rfl (Keeps.refl _ _))
              · obtain rfl := Option.some.inj ho
                exact step_load31 rfl ((hs.at rfl 6 (by decide)).trans p6) (unhide D6 W1 hk) (hK _ _ rfl (Keeps.refl _ _))
              · obtain rfl := Option.some.inj ho
                exact step_load27 (e := a) rfl ((hs.at rfl 7 (by decide)).trans p7) (unhide D7 W1 hk) (unhide HA) ((unhide HPZ).trans hk) (fun v' h1 => hK v' _ h1 (Keeps.refl _ _))
              · obtain rfl := Option.some.inj ho
                exact step_load27 (e := b) rfl ((hs.at rfl 8 (by decide)).trans p8) (unhide D8 W1 hk) (unhide HB) ((unhide HPZ).trans hk) (fun v' h1 => hK v' _ h1 (Keeps.refl _ _))
              · obtain rfl := Option.some.inj ho
                exact step_slice2 rfl rfl rfl (hd ⟨2, .data⟩ (by simp) rfl) (hd ⟨3, .data⟩ (by simp) rfl) (fun v' w' h1 h2 => hK v' w' h1 h2)
              · obtain rfl := Option.some.inj ho
                exact step_call26 (l := a.el (b.el .nil)) rfl rfl (hd ⟨4, .data⟩ (by simp) rfl) (Nat.le_of_ble_eq_true rfl) (fun v' w' h1 h2 => hK v' w' h1 h2)
              · obtain rfl := Option.some.inj ho
                exact step_load27 (e := b) rfl ((hs.at rfl 8 (by decide)).trans p8) (unhide D8 W1 hk) (unhide HB) ((unhide HPZ).trans hk) (fun v' h1 => hK v' _ h1 (Keeps.refl _ _))
              · obtain rfl := Option.some.inj ho
                exact step_load27 (e := a) rfl ((hs.at rfl 7 (by decide)).trans p7) (unhide D7 W1 hk) (unhide HA) ((unhide HPZ).trans hk) (fun v' h1 => hK v' _ h1 (Keeps.refl _ _))
              · obtain rfl := Option.some.inj ho
                exact step_slice2 rfl rfl rfl (hd ⟨6, .data⟩ (by simp) rfl) (hd ⟨7, .data⟩ (by simp) rfl) (fun v' w' h1 h2 => hK v' w' h1 h2)
              · obtain rfl := Option.some.inj ho
                exact step_call26 (l := b.el (a.el .nil)) rfl rfl (hd ⟨8, .data⟩ (by simp) rfl) (Nat.le_of_ble_eq_true rfl) (fun v' w' h1 h2 => hK v' w' h1 h2)
              · obtain rfl := Option.some.inj ho
                exact step_slice2 rfl rfl rfl (hd ⟨5, .data⟩ (by simp) rfl) (hd ⟨9, .data⟩ (by simp) rfl) (fun v' w' h1 h2 => hK v' w' h1 h2)
              · obtain rfl := Option.some.inj ho
                exact step_call26 (l := (mk2 13 a b).el ((mk2 13 b a).el .nil)) rfl rfl (hd ⟨10, .data⟩ (by simp) rfl) (Nat.le_of_ble_eq_true rfl) (fun v' w' h1 h2 => hK v' w' h1 h2)
              · obtain rfl := Option.some.inj ho
                exact step_load27 (e := a) rfl ((hs.at rfl 7 (by decide)).trans p7) (unhide D7 W1 hk) (unhide HA) ((unhide HPZ).trans hk) (fun v' h1 => hK v' _ h1 (Keeps.refl _ _))
              · obtain rfl := Option.some.inj ho
                exact step_load27 (e := b) rfl ((hs.at rfl 8 (by decide)).trans p8) (unhide D8 W1 hk) (unhide HB) ((unhide HPZ).trans hk) (fun v' h1 => hK v' _ h1 (Keeps.refl _ _))
              · obtain rfl := Option.some.inj ho
                exact step_slice2 rfl rfl rfl (hd ⟨12, .data⟩ (by simp) rfl) (hd ⟨13, .data⟩ (by simp) rfl) (fun v' w' h1 h2 => hK v' w' h1 h2)
              · obtain rfl := Option.some.inj ho
                exact step_call26 (l := a.el (b.el .nil)) rfl rfl (hd ⟨14, .data⟩ (by simp) rfl) (Nat.le_of_ble_eq_true rfl) (fun v' w' h1 h2 => hK v' w' h1 h2)
              · obtain rfl := Option.some.inj ho
                exact step_call25 (x := (mk2 18 (mk2 13 a b) (mk2 13 b a))) (y := (mk2 16 a b)) rfl (hd ⟨0, .data⟩ (by simp) rfl) (hd ⟨1, .data⟩ (by simp) rfl) rfl rfl ((unhide HT).keepF ((unhide HPZ).trans hk)) ((unhide HFM).keepF ((unhide HPZ).trans hk)) ((unhide HFL).keepF ((unhide HPZ).trans hk)) ((unhide HVA).keepF ((unhide HPZ).trans hk)) (hd ⟨11, .data⟩ (by simp) rfl) (hd ⟨15, .data⟩ (by simp) rfl) (by have := unhide HZ; simp only [mk2, XE.el, EL.size]; omega) (by have := unhide HZ; simp only [mk2, XE.el, EL.size]; omega) ((unhide HLAW).2.2.2.2.1) (fun w' h2 => hK _ _ rfl h2)
              · obtain rfl := Option.some.inj ho
                exact step_assign rfl (hd ⟨16, .data⟩ (by simp) rfl) (hK _ _ rfl (Keeps.refl _ _))
              · simp at ho
            · intro A4 W4 hs hk hall
              have hl := hall 17 (by decide)
              have z4 : A4.tmps.size = 185 := hs.size.trans z3
              have hdef := hs.defers
              have q5 := (hs.at rfl 5 (by decide)).trans p5
              have q6 := (hs.at rfl 6 (by decide)).trans p6
              have q7 := (hs.at rfl 7 (by decide)).trans p7
              have q8 := (hs.at rfl 8 (by decide)).trans p8
              have q9 := (hs.at rfl 9 (by decide)).trans p9
              have q12 := (hs.at rfl 12 (by decide)).trans p12
              have q13 := (hs.at rfl 13 (by decide)).trans p13
              have q14 := (hs.at rfl 14 (by decide)).trans p14
              have q15 := (hs.at rfl 15 (by decide)).trans p15
              have q16 := (hs.at rfl 16 (by decide)).trans p16
              have q17 := (hs.at rfl 17 (by decide)).trans p17
              have q18 := (hs.at rfl 18 (by decide)).trans p18
              have q19 : A4.tmps.getD 19 undef = .bool true := hl
              have HKN4 := hide hk
              clear hs hk hall hl
              refine hc0 _ _ ?_
              clear hc0
              try clear p5
              try clear p6
              try clear p7
              try clear p8
              try clear p9
              try clear p12
              try clear p13
              try clear p14
              try clear p15
              try clear p16
              try clear p17
              try clear p18
              try clear p19
              have p5 := q5
              clear q5
              have p6 := q6
              clear q6
              have p7 := q7
              clear q7
              have p8 := q8
              clear q8
              have p9 := q9
              clear q9
              have p12 := q12
              clear q12
              have p13 := q13
              clear q13
              have p14 := q14
              clear q14
              have p15 := q15
              clear q15
              have p16 := q16
              clear q16
              have p17 := q17
              clear q17
              have p18 := q18
              clear q18
              have p19 := q19
              clear q19
              have d4 := hdef.trans d3
              clear hdef d3
              go_wp2_with fail
              rename_i Q0 K0 hc0
              refine wp_region_table (X := Z) (by kernel_rfl) [98, 99, 100, 101, 102, 103, 104, 105, 106, 107, 108, 109, 20] (by decide) rfl (by rw [z4]; first | rfl | kernel_rfl | simp [opsB]) (unhide HKN4) (fun i v W1 => match i with | 0 => v = .agg #[(.slice so S.length sc)] | 1 => v = .agg #[.bool h, (.slice uo vals.length uc)] | 2 => isE W1 v a | 3 => isE W1 v b | 4 => isL W1 v (a.el (b.el .nil)) | 5 => isE W1 v (mk2 21 a b) | 6 => isE W1 v (mk2 12 a b) | 7 => isE W1 v a | 8 => isE W1 v b | 9 => isL W1 v ((mk2 12 a b).el (a.el (b.el .nil))) | 10 => isE W1 v (mk3 25 (mk2 12 a b) a b) | 11 => v = .bool true | 12 => v = .bool true | _ => True) ?_ ?_ ?_
              · intro i v w1 w2 hq hk
                rcases i with _ | _ | _ | _ | _ | _ | _ | _ | _ | _ | _ | _ | _ | i
                all_goals first | exact hq | exact isE.keep hq hk | exact isL.keep hq hk
              · intro i o A W1 ho hs hk hd K' hK
                rcases i with _ | _ | _ | _ | _ | _ | _ | _ | _ | _ | _ | _ | _ | i
                · obtain rfl := Option.some.inj ho
                  exact step_load24 rfl ((hs.at rfl 5 (by decide)).trans p5) (unhide D5 W1 hk) (hK _ _ rfl (Keeps.refl _ _))
                · obtain rfl := Option.some.inj ho
                  exact step_load31 rfl ((hs.at rfl 6 (by decide)).trans p6) (unhide D6 W1 hk) (hK _ _ rfl (Keeps.refl _ _))
                · obtain rfl := Option.some.inj ho
                  exact step_load27 (e := a) rfl ((hs.at rfl 7 (by decide)).trans p7) (unhide D7 W1 hk) (unhide HA) ((unhide HPZ).trans hk) (fun v' h1 => hK v' _ h1 (Keeps.refl _ _))
                · obtain rfl := Option.some.inj ho
                  exact step_load27 (e := b) rfl ((hs.at rfl 8 (by decide)).trans p8) (unhide D8 W1 hk) (unhide HB) ((unhide HPZ).trans hk) (fun v' h1 => hK v' _ h1 (Keeps.refl _ _))
                · obtain rfl := Option.some.inj ho
                  exact step_slice2 rfl rfl rfl (hd ⟨2, .data⟩ (by simp) rfl) (hd ⟨3, .data⟩ (by simp) rfl) (fun v' w' h1 h2 => hK v' w' h1 h2)
                · obtain rfl := Option.some.inj ho
                  exact step_call26 (l := a.el (b.el .nil)) rfl rfl (hd ⟨4, .data⟩ (by simp) rfl) (Nat.le_of_ble_eq_true rfl) (fun v' w' h1 h2 => hK v' w' h1 h2)
                · obtain rfl := Option.some.inj ho
                  exact step_load27 (e := (mk2 12 a b)) rfl ((hs.at rfl 13 (by decide)).trans p13) (unhide D13 W1 hk) (unhide HS3) ((unhide HK3Z).trans hk) (fun v' h1 => hK v' _ h1 (Keeps.refl _ _))
                · obtain rfl := Option.some.inj ho
                  exact step_load27 (e := a) rfl ((hs.at rfl 7 (by decide)).trans p7) (unhide D7 W1 hk) (unhide HA) ((unhide HPZ).trans hk) (fun v' h1 => hK v' _ h1 (Keeps.refl _ _))
                · obtain rfl := Option.some.inj ho
                  exact step_load27 (e := b) rfl ((hs.at rfl 8 (by decide)).trans p8) (unhide D8 W1 hk) (unhide HB) ((unhide HPZ).trans hk) (fun v' h1 => hK v' _ h1 (Keeps.refl _ _))
                · obtain rfl := Option.some.inj ho
                  exact step_slice3 rfl rfl rfl rfl (hd ⟨6, .data⟩ (by simp) rfl) (hd ⟨7, .data⟩ (by simp) rfl) (hd ⟨8, .data⟩ (by simp) rfl) (fun v' w' h1 h2 => hK v' w' h1 h2)
                · obtain rfl := Option.some.inj ho
                  exact step_call26 (l := (mk2 12 a b).el (a.el (b.el .nil))) rfl rfl (hd ⟨9, .data⟩ (by simp) rfl) (Nat.le_of_ble_eq_true rfl) (fun v' w' h1 h2 => hK v' w' h1 h2)
                · obtain rfl := Option.some.inj ho
                  exact step_call25 (x := (mk2 21 a b)) (y := (mk3 25 (mk2 12 a b) a b)) rfl (hd ⟨0, .data⟩ (by simp) rfl) (hd ⟨1, .data⟩ (by simp) rfl) rfl rfl ((unhide HT).keepF ((unhide HPZ).trans hk)) ((unhide HFM).keepF ((unhide HPZ).trans hk)) ((unhide HFL).keepF ((unhide HPZ).trans hk)) ((unhide HVA).keepF ((unhide HPZ).trans hk)) (hd ⟨5, .data⟩ (by simp) rfl) (hd ⟨10, .data⟩ (by simp) rfl) (by have := unhide HZ; simp only [mk2, XE.el, EL.size]; omega) (by have := unhide HZ; simp only [mk2, mk3, XE.el, EL.size]; omega) ((unhide HLAW).2.2.2.2.2.1) (fun w' h2 => hK _ _ rfl h2)
                · obtain rfl := Option.some.inj ho
                  exact step_assign rfl (hd ⟨11, .data⟩ (by simp) rfl) (hK _ _ rfl (Keeps.refl _ _))
                · simp at ho
              · intro A5 W5 hs hk hall
                have hl := hall 12 (by decide)
                have z5 : A5.tmps.size = 185 := hs.size.trans z4
                have hdef := hs.defers
                have q5 := (hs.at rfl 5 (by decide)).trans p5
                have q6 := (hs.at rfl 6 (by decide)).trans p6
                have q7 := (hs.at rfl 7 (by decide)).trans p7
                have q8 := (hs.at rfl 8 (by decide)).trans p8
                have q9 := (hs.at rfl 9 (by decide)).trans p9
                have q12 := (hs.at rfl 12 (by decide)).trans p12
                have q13 := (hs.at rfl 13 (by decide)).trans p13
                have q14 := (hs.at rfl 14 (by decide)).trans p14
                have q15 := (hs.at rfl 15 (by decide)).trans p15
                have q16 := (hs.at rfl 16 (by decide)).trans p16
                have q17 := (hs.at rfl 17 (by decide)).trans p17
                have q18 := (hs.at rfl 18 (by decide)).trans p18
                have q19 := (hs.at rfl 19 (by decide)).trans p19
                have q20 : A5.tmps.getD 20 undef = .bool true := hl
                have HKN5 := hide hk
                clear hs hk hall hl
                refine hc0 _ _ ?_
                clear hc0
                try clear p5
                try clear p6
                try clear p7
                try clear p8
                try clear p9
                try clear p12
                try clear p13
                try clear p14
                try clear p15
                try clear p16
                try clear p17
                try clear p18
                try clear p19
                try clear p20
                have p5 := q5
                clear q5
                have p6 := q6
                clear q6
                have p7 := q7
                clear q7
                have p8 := q8
                clear q8
                have p9 := q9
                clear q9
                have p12 := q12
                clear q12
                have p13 := q13
                clear q13
                have p14 := q14
                clear q14
                have p15 := q15
                clear q15
                have p16 := q16
                clear q16
                have p17 := q17
                clear q17
                have p18 := q18
                clear q18
                have p19 := q19
                clear q19
                have p20 := q20
                clear q20
                have d5 := hdef.trans d4
                clear hdef d4
                go_wp2_with fail
                rename_i Q0 K0 hc0
                refine wp_region_table (X := Z) (by kernel_rfl) [110, 111, 112, 113, 114, 115, 116, 117, 118, 119, 120, 121, 21] (by decide) rfl (by rw [z5]; first | rfl | kernel_rfl | simp [opsB]) (unhide HKN5) (fun i v W1 => match i with | 0 => v = .agg #[(.slice so S.length sc)] | 1 => v = .agg #[.bool h, (.slice uo vals.length uc)] | 2 => isE W1 v a | 3 => isE W1 v b | 4 => isL W1 v (a.el (b.el .nil)) | 5 => isE W1 v (mk2 22 a b) | 6 => isE W1 v (mk2 12 a b) | 7 => isE W1 v b | 8 => isE W1 v a | 9 => isL W1 v ((mk2 12 a b).el (b.el (a.el .nil))) | 10 => isE W1 v (mk3 25 (mk2 12 a b) b a) | 11 => v = .bool true | 12 => v = .bool true | _ => True) ?_ ?_ ?_
                · intro i v w1 w2 hq hk
                  rcases i with _ | _ | _ | _ | _ | _ | _ | _ | _ | _ | _ | _ | _ | i
                  all_goals first | exact hq | exact isE.keep hq hk | exact isL.keep hq hk
                · intro i o A W1 ho hs hk hd K' hK
                  rcases i with _ | _ | _ | _ | _ | _ | _ | _ | _ | _ | _ | _ | _ | i
                  · obtain rfl := Option.some.inj ho
                    exact step_load24 rfl ((hs.at rfl 5 (by decide)).trans p5) (unhide D5 W1 hk) (hK _ _ rfl (Keeps.refl _ _))
                  · obtain rfl := Option.some.inj ho
                    exact step_load31 rfl ((hs.at rfl 6 (by decide)).trans p6) (unhide D6 W1 hk) (hK _ _ rfl (Keeps.refl _ _))
                  · obtain rfl := Option.some.inj ho
                    exact step_load27 (e := a) rfl ((hs.at rfl 7 (by decide)).trans p7) (unhide D7 W1 hk) (unhide HA) ((unhide HPZ).trans hk) (fun v' h1 => hK v' _ h1 (Keeps.refl _ _))
                  · obtain rfl := Option.some.inj ho
                    exact step_load27 (e := b) rfl ((hs.at rfl 8 (by decide)).trans p8) (unhide D8 W1 hk) (unhide HB) ((unhide HPZ).trans hk) (fun v' h1 => hK v' _ h1 (Keeps.refl _ _))
                  · obtain rfl := Option.some.inj ho
                    exact step_slice2 rfl rfl rfl (hd ⟨2, .data⟩ (by simp) rfl) (hd ⟨3, .data⟩ (by simp) rfl) (fun v' w' h1 h2 => hK v' w' h1 h2)
                  · obtain rfl := Option.some.inj ho
                    exact step_call26 (l := a.el (b.el .nil)) rfl rfl (hd ⟨4, .data⟩ (by simp) rfl) (Nat.le_of_ble_eq_true rfl) (fun v' w' h1 h2 => hK v' w' h1 h2)
                  · obtain rfl := Option.some.inj ho
                    exact step_load27 (e := (mk2 12 a b)) rfl ((hs.at rfl 13 (by decide)).trans p13) (unhide D13 W1 hk) (unhide HS3) ((unhide HK3Z).trans hk) (fun v' h1 => hK v' _ h1 (Keeps.refl _ _))
                  · obtain rfl := Option.some.inj ho
                    exact step_load27 (e := b) rfl ((hs.at rfl 8 (by decide)).trans p8) (unhide D8 W1 hk) (unhide HB) ((unhide HPZ).trans hk) (fun v' h1 => hK v' _ h1 (Keeps.refl _ _))
                  · obtain rfl := Option.some.inj ho
                    exact step_load27 (e := a) rfl ((hs.at rfl 7 (by decide)).trans p7) (unhide D7 W1 hk) (unhide HA) ((unhide HPZ).trans hk) (fun v' h1 => hK v' _ h1 (Keeps.refl _ _))
                  · obtain rfl := Option.some.inj ho
                    exact step_slice3 rfl rfl rfl rfl (hd ⟨6, .data⟩ (by simp) rfl) (hd ⟨7, .data⟩ (by simp) rfl) (hd ⟨8, .data⟩ (by simp) rfl) (fun v' w' h1 h2 => hK v' w' h1 h2)
                  · obtain rfl := Option.some.inj ho
                    exact step_call26 (l := (mk2 12 a b).el (b.el (a.el .nil))) rfl rfl (hd ⟨9, .data⟩ (by simp) rfl) (Nat.le_of_ble_eq_true rfl) (fun v' w' h1 h2 => hK v' w' h1 h2)
                  · obtain rfl := Option.some.inj ho
                    exact step_call25 (x := (mk2 22 a b)) (y := (mk3 25 (mk2 12 a b) b a)) rfl (hd ⟨0, .data⟩ (by simp) rfl) (hd ⟨1, .data⟩ (by simp) rfl) rfl rfl ((unhide HT).keepF ((unhide HPZ).trans hk)) ((unhide HFM).keepF ((unhide HPZ).trans hk)) ((unhide HFL).keepF ((unhide HPZ).trans hk)) ((unhide HVA).keepF ((unhide HPZ).trans hk)) (hd ⟨5, .data⟩ (by simp) rfl) (hd ⟨10, .data⟩ (by simp) rfl) (by have := unhide HZ; simp only [mk2, XE.el, EL.size]; omega) (by have := unhide HZ; simp only [mk2, mk3, XE.el, EL.size]; omega) ((unhide HLAW).2.2.2.2.2.2.1) (fun w' h2 => hK _ _ rfl h2)
                  · obtain rfl := Option.some.inj ho
                    exact step_assign rfl (hd ⟨11, .data⟩ (by simp) rfl) (hK _ _ rfl (Keeps.refl _ _))
                  · simp at ho
                · intro A6 W6 hs hk hall
                  have hl := hall 12 (by decide)
                  have z6 : A6.tmps.size = 185 := hs.size.trans z5
                  have hdef := hs.defers
                  have q5 := (hs.at rfl 5 (by decide)).trans p5
                  have q6 := (hs.at rfl 6 (by decide)).trans p6
                  have q7 := (hs.at rfl 7 (by decide)).trans p7
                  have q8 := (hs.at rfl 8 (by decide)).trans p8
                  have q9 := (hs.at rfl 9 (by decide)).trans p9
                  have q12 := (hs.at rfl 12 (by decide)).trans p12
                  have q13 := (hs.at rfl 13 (by decide)).trans p13
                  have q14 := (hs.at rfl 14 (by decide)).trans p14
                  have q15 := (hs.at rfl 15 (by decide)).trans p15
                  have q16 := (hs.at rfl 16 (by decide)).trans p16
                  have q17 := (hs.at rfl 17 (by decide)).trans p17
                  have q18 := (hs.at rfl 18 (by decide)).trans p18
                  have q19 := (hs.at rfl 19 (by decide)).trans p19
                  have q20 := (hs.at rfl 20 (by decide)).trans p20
                  have q21 : A6.tmps.getD 21 undef = .bool true := hl
                  have HKN6 := hide hk
                  clear hs hk hall hl
                  refine hc0 _ _ ?_
                  clear hc0
                  try clear p5
                  try clear p6
                  try clear p7
                  try clear p8
                  try clear p9
                  try clear p12
                  try clear p13
                  try clear p14
                  try clear p15
                  try clear p16
                  try clear p17
                  try clear p18
                  try clear p19
                  try clear p20
                  try clear p21
                  have p5 := q5
                  clear q5
                  have p6 := q6
                  clear q6
                  have p7 := q7
                  clear q7
                  have p8 := q8
                  clear q8
                  have p9 := q9
                  clear q9
                  have p12 := q12
                  clear q12
                  have p13 := q13
                  clear q13
                  have p14 := q14
                  clear q14
                  have p15 := q15
                  clear q15
                  have p16 := q16
                  clear q16
                  have p17 := q17
                  clear q17
                  have p18 := q18
                  clear q18
                  have p19 := q19
                  clear q19
                  have p20 := q20
                  clear q20
                  have p21 := q21
                  clear q21
                  have d6 := hdef.trans d5
                  clear hdef d5
                  go_wp2_with fail
                  rename_i Q0 K0 hc0
                  refine wp_region_table (X := Z) (by kernel_rfl) [122, 123, 124, 125, 126, 127, 128, 129, 130, 131, 132, 133, 134, 135, 136, 137, 138, 22] (by decide) rfl (by rw [z6]; first | rfl | kernel_rfl | simp [opsB]) (unhide HKN6) (fun i v W1 => match i with | 0 => v = .agg #[(.slice so S.length sc)] | 1 => v = .agg #[.bool h, (.slice uo vals.length uc)] | 2 => isE W1 v a | 3 => isE W1 v b | 4 => isL W1 v (a.el (b.el .nil)) | 5 => isE W1 v (mk2 19 a b) | 6 => isE W1 v a | 7 => isL W1 v (a.el .nil) | 8 => isE W1 v (mk1 7 a) | 9 => isE W1 v b | 10 => isL W1 v (b.el .nil) | 11 => isE W1 v (mk1 7 b) | 12 => isL W1 v ((mk1 7 a).el ((mk1 7 b).el .nil)) | 13 => isE W1 v (mk2 18 (mk1 7 a) (mk1 7 b)) | 14 => isL W1 v ((mk2 18 (mk1 7 a) (mk1 7 b)).el .nil) | 15 => isE W1 v (mk1 7 (mk2 18 (mk1 7 a) (mk1 7 b))) | 16 => v = .bool true | 17 => v = .bool true | _ => True) ?_ ?_ ?_
                  · intro i v w1 w2 hq hk
                    rcases i with _ | _ | _ | _ | _ | _ | _ | _ | _ | _ | _ | _ | _ | _ | _ | _ | _ | _ | i
                    all_goals first | exact hq | exact isE.keep hq hk | exact isL.keep hq hk
                  · intro i o A W1 ho hs hk hd K' hK
                    rcases i with _ | _ | _ | _ | _ | _ | _ | _ | _ | _ | _ | _ | _ | _ | _ | _ | _ | _ | i
                    · obtain rfl := Option.some.inj ho
                      exact step_load24 rfl ((hs.at rfl 5 (by decide)).trans p5) (unhide D5 W1 hk) (hK _ _ rfl (Keeps.refl _ _))
                    · obtain rfl := Option.some.inj ho
                      exact step_load31 rfl ((hs.at rfl 6 (by decide)).trans p6) (unhide D6 W1 hk) (hK _ _ rfl (Keeps.refl _ _))
                    · obtain rfl := Option.some.inj ho
                      exact step_load27 (e := a) rfl ((hs.at rfl 7 (by decide)).trans p7) (unhide D7 W1 hk) (unhide HA) ((unhide HPZ).trans hk) (fun v' h1 => hK v' _ h1 (Keeps.refl _ _))
                    · obtain rfl := Option.some.inj ho
                      exact step_load27 (e := b) rfl ((hs.at rfl 8 (by decide)).trans p8) (unhide D8 W1 hk) (unhide HB) ((unhide HPZ).trans hk) (fun v' h1 => hK v' _ h1 (Keeps.refl _ _))
                    · obtain rfl := Option.some.inj ho
                      exact step_slice2 rfl rfl rfl (hd ⟨2, .data⟩ (by simp) rfl) (hd ⟨3, .data⟩ (by simp) rfl) (fun v' w' h1 h2 => hK v' w' h1 h2)
                    · obtain rfl := Option.some.inj ho
                      exact step_call26 (l := a.el (b.el .nil)) rfl rfl (hd ⟨4, .data⟩ (by simp) rfl) (Nat.le_of_ble_eq_true rfl) (fun v' w' h1 h2 => hK v' w' h1 h2)
                    · obtain rfl := Option.some.inj ho
                      exact step_load27 (e := a) rfl ((hs.at rfl 7 (by decide)).trans p7) (unhide D7 W1 hk) (unhide HA) ((unhide HPZ).trans hk) (fun v' h1 => hK v' _ h1 (Keeps.refl _ _))
                    · obtain rfl := Option.some.inj ho
                      exact step_slice1 rfl rfl (hd ⟨6, .data⟩ (by simp) rfl) (fun v' w' h1 h2 => hK v' w' h1 h2)
                    · obtain rfl := Option.some.inj ho
                      exact step_call26 (l := a.el .nil) rfl rfl (hd ⟨7, .data⟩ (by simp) rfl) (Nat.le_of_ble_eq_true rfl) (fun v' w' h1 h2 => hK v' w' h1 h2)
                    · obtain rfl := Option.some.inj ho
                      exact step_load27 (e := b) rfl ((hs.at rfl 8 (by decide)).trans p8) (unhide D8 W1 hk) (unhide HB) ((unhide HPZ).trans hk) (fun v' h1 => hK v' _ h1 (Keeps.refl _ _))
                    · obtain rfl := Option.some.inj ho
                      exact step_slice1 rfl rfl (hd ⟨9, .data⟩ (by simp) rfl) (fun v' w' h1 h2 => hK v' w' h1 h2)
                    · obtain rfl := Option.some.inj ho
                      exact step_call26 (l := b.el .nil) rfl rfl (hd ⟨10, .data⟩ (by simp) rfl) (Nat.le_of_ble_eq_true rfl) (fun v' w' h1 h2 => hK v' w' h1 h2)
                    · obtain rfl := Option.some.inj ho
                      exact step_slice2 rfl rfl rfl (hd ⟨8, .data⟩ (by simp) rfl) (hd ⟨11, .data⟩ (by simp) rfl) (fun v' w' h1 h2 => hK v' w' h1 h2)
                    · obtain rfl := Option.some.inj ho
                      exact step_call26 (l := (mk1 7 a).el ((mk1 7 b).el .nil)) rfl rfl (hd ⟨12, .data⟩ (by simp) rfl) (Nat.le_of_ble_eq_true rfl) (fun v' w' h1 h2 => hK v' w' h1 h2)
                    · obtain rfl := Option.some.inj ho
                      exact step_slice1 rfl rfl (hd ⟨13, .data⟩ (by simp) rfl) (fun v' w' h1 h2 => hK v' w' h1 h2)
                    · obtain rfl := Option.some.inj ho
                      exact step_call26 (l := (mk2 18 (mk1 7 a) (mk1 7 b)).el .nil) rfl rfl (hd ⟨14, .data⟩ (by simp) rfl) (Nat.le_of_ble_eq_true rfl) (fun v' w' h1 h2 => hK v' w' h1 h2)
                    · obtain rfl := Option.some.inj ho
                      exact step_call25 (x := (mk2 19 a b)) (y := (mk1 7 (mk2 18 (mk1 7 a) (mk1 7 b)))) rfl (hd ⟨0, .data⟩ (by simp) rfl) (hd ⟨1, .data⟩ (by simp) rfl) rfl rfl ((unhide HT).keepF ((unhide HPZ).trans hk)) ((unhide HFM).keepF ((unhide HPZ).trans hk)) ((unhide HFL).keepF ((unhide HPZ).trans hk)) ((unhide HVA).keepF ((unhide HPZ).trans hk)) (hd ⟨5, .data⟩ (by simp) rfl) (hd ⟨15, .data⟩ (by simp) rfl) (by have := unhide HZ; simp only [mk2, XE.el, EL.size]; omega) (by have := unhide HZ; simp only [mk1, mk2, XE.el, EL.size]; omega) ((unhide HLAW).2.2.2.2.2.2.2.1) (fun w' h2 => hK _ _ rfl h2)
                    · obtain rfl := Option.some.inj ho
                      exact step_assign rfl (hd ⟨16, .data⟩ (by simp) rfl) (hK _ _ rfl (Keeps.refl _ _))
                    · simp at ho
                  · intro A7 W7 hs hk hall
                    have hl := hall 17 (by decide)
                    have z7 : A7.tmps.size = 185 := hs.size.trans z6
                    have hdef := hs.defers
                    have q5 := (hs.at rfl 5 (by decide)).trans p5
                    have q6 := (hs.at rfl 6 (by decide)).trans p6
                    have q7 := (hs.at rfl 7 (by decide)).trans p7
                    have q8 := (hs.at rfl 8 (by decide)).trans p8
                    have q9 := (hs.at rfl 9 (by decide)).trans p9
                    have q12 := (hs.at rfl 12 (by decide)).trans p12
                    have q13 := (hs.at rfl 13 (by decide)).trans p13
                    have q14 := (hs.at rfl 14 (by decide)).trans p14
                    have q15 := (hs.at rfl 15 (by decide)).trans p15
                    have q16 := (hs.at rfl 16 (by decide)).trans p16
                    have q17 := (hs.at rfl 17 (by decide)).trans p17
                    have q18 := (hs.at rfl 18 (by decide)).trans p18
                    have q19 := (hs.at rfl 19 (by decide)).trans p19
                    have q20 := (hs.at rfl 20 (by decide)).trans p20
                    have q21 := (hs.at rfl 21 (by decide)).trans p21
                    have q22 : A7.tmps.getD 22 undef = .bool true := hl
                    have HKN7 := hide hk
                    clear hs hk hall hl
                    refine hc0 _ _ ?_
                    clear hc0
                    try clear p5
                    try clear p6
                    try clear p7
                    try clear p8
                    try clear p9
                    try clear p12
                    try clear p13
                    try clear p14
                    try clear p15
                    try clear p16
                    try clear p17
                    try clear p18
                    try clear p19
                    try clear p20
                    try clear p21
                    try clear p22
                    have p5 := q5
                    clear q5
                    have p6 := q6
                    clear q6
                    have p7 := q7
                    clear q7
                    have p8 := q8
                    clear q8
                    have p9 := q9
                    clear q9
                    have p12 := q12
                    clear q12
                    have p13 := q13
                    clear q13
                    have p14 := q14
                    clear q14
                    have p15 := q15
                    clear q15
                    have p16 := q16
                    clear q16
                    have p17 := q17
                    clear q17
                    have p18 := q18
                    clear q18
                    have p19 := q19
                    clear q19
                    have p20 := q20
                    clear q20
                    have p21 := q21
                    clear q21
                    have p22 := q22
                    clear q22
                    have d7 := hdef.trans d6
                    clear hdef d6
                    go_wp2_with fail
                    rename_i Q0 K0 hc0
                    refine wp_region_last (X := Z) (by kernel_rfl) 8 rfl _ rfl rfl (by decide) (by kernel_rfl) [139, 140, 141, 142, 143, 144, 145, 23] (by decide) rfl (by rw [z7]; first | rfl | kernel_rfl | simp [opsB]) (unhide HKN7) (fun i v W1 => match i with | 0 => isEz Z.heap.size W1 v (mk2 12 a b) | 1 => isEz Z.heap.size W1 v b | 2 => isEz Z.heap.size W1 v c | 3 => isLz Z.heap.size W1 v (b.el (c.el .nil)) | 4 => isEz Z.heap.size W1 v (mk2 12 b c) | 5 => isLz Z.heap.size W1 v ((mk2 12 a b).el ((mk2 12 b c).el .nil)) | 6 => isEz Z.heap.size W1 v (mk2 18 (mk2 12 a b) (mk2 12 b c)) | 7 => isBz Z.heap.size W1 v | _ => True) ?_ ?_ ?_
                    · intro i v w1 w2 hq hk
                      rcases i with _ | _ | _ | _ | _ | _ | _ | _ | i
                      all_goals first | exact hq | exact isEz.keep hq hk | exact isLz.keep hq hk | exact isBz.keep hq hk
                    · intro i o A W1 him ho hs hk hd K' hK
                      rcases i with _ | _ | _ | _ | _ | _ | _ | _ | i
                      · obtain rfl := Option.some.inj ho
                        exact step_load27z (e := (mk2 12 a b)) rfl ((hs.at rfl 13 (by decide)).trans p13) (unhide D13 W1 hk) (unhide HS3) (unhide HK3Z).size ((unhide HK3Z).trans hk) (fun v' h1 => hK v' _ h1 (Keeps.refl _ _))
                      · obtain rfl := Option.some.inj ho
                        exact step_load27z (e := b) rfl ((hs.at rfl 8 (by decide)).trans p8) (unhide D8 W1 hk) (unhide HB) (unhide HPZ).size ((unhide HPZ).trans hk) (fun v' h1 => hK v' _ h1 (Keeps.refl _ _))
                      · obtain rfl := Option.some.inj ho
                        exact step_load27z (e := c) rfl ((hs.at rfl 9 (by decide)).trans p9) (unhide D9 W1 hk) (unhide HC) (unhide HPZ).size ((unhide HPZ).trans hk) (fun v' h1 => hK v' _ h1 (Keeps.refl _ _))
                      · obtain rfl := Option.some.inj ho
                        exact step_slice2z rfl rfl rfl (hd ⟨1, .data⟩ (by simp) rfl) (hd ⟨2, .data⟩ (by simp) rfl) (fun v' w' h1 h2 => hK v' w' h1 h2)
                      · obtain rfl := Option.some.inj ho
                        exact step_call26z (l := b.el (c.el .nil)) rfl rfl (hd ⟨3, .data⟩ (by simp) rfl) (Nat.le_of_ble_eq_true rfl) (Nat.le_of_ble_eq_true rfl) (fun v' w' h1 h2 => hK v' w' h1 h2)
                      · obtain rfl := Option.some.inj ho
                        exact step_slice2z rfl rfl rfl (hd ⟨0, .data⟩ (by simp) rfl) (hd ⟨4, .data⟩ (by simp) rfl) (fun v' w' h1 h2 => hK v' w' h1 h2)
                      · obtain rfl := Option.some.inj ho
                        exact step_call26z (l := (mk2 12 a b).el ((mk2 12 b c).el .nil)) rfl rfl (hd ⟨5, .data⟩ (by simp) rfl) (Nat.le_of_ble_eq_true rfl) (Nat.le_of_ble_eq_true rfl) (fun v' w' h1 h2 => hK v' w' h1 h2)
                      · obtain rfl := Option.some.inj ho
                        exact step_alloc27 rfl hk.size (fun v' w' h1 h2 => hK v' w' h1 h2)
                      · omega
                    · intro A8 W8 hs hk hall K' hK
                      have hb : isBz Z.heap.size W8 (A8.tmps.getD 23 undef) := hall 7 (by decide)
                      have hv : isEz Z.heap.size W8 (A8.tmps.getD 145 undef) (mk2 18 (mk2 12 a b) (mk2 12 b c)) := hall 6 (by decide)
                      refine step_store27z (X := Z) (e := (mk2 18 (mk2 12 a b) (mk2 12 b c))) rfl rfl rfl rfl hb hv rfl hk ?_
                      intro g23 kv23 V hp23 hg23 hs23 hkV
                      refine hK _ _ (hc0 _ _ ?_)
                      have z8 : A8.tmps.size = 185 := hs.size.trans z7
                      have hdef := hs.defers
                      have q5 := (hs.at rfl 5 (by decide)).trans p5
                      have q6 := (hs.at rfl 6 (by decide)).trans p6
                      have q7 := (hs.at rfl 7 (by decide)).trans p7
                      have q8 := (hs.at rfl 8 (by decide)).trans p8
                      have q9 := (hs.at rfl 9 (by decide)).trans p9
                      have q12 := (hs.at rfl 12 (by decide)).trans p12
                      have q13 := (hs.at rfl 13 (by decide)).trans p13
                      have q14 := (hs.at rfl 14 (by decide)).trans p14
                      have q15 := (hs.at rfl 15 (by decide)).trans p15
                      have q16 := (hs.at rfl 16 (by decide)).trans p16
                      have q17 := (hs.at rfl 17 (by decide)).trans p17
                      have q18 := (hs.at rfl 18 (by decide)).trans p18
                      have q19 := (hs.at rfl 19 (by decide)).trans p19
                      have q20 := (hs.at rfl 20 (by decide)).trans p20
                      have q21 := (hs.at rfl 21 (by decide)).trans p21
                      have q22 := (hs.at rfl 22 (by decide)).trans p22
                      have q23 := hp23
                      have HZV := hide hkV
                      have HS23 := hide hs23
                      have HP23 := hide hg23
                      clear hs hk hall hb hv hc0 hK hp23 hg23 hs23 hkV
                      try clear p5
                      try clear p6
                      try clear p7
                      try clear p8
                      try clear p9
                      try clear p12
                      try clear p13
                      try clear p14
                      try clear p15
                      try clear p16
                      try clear p17
                      try clear p18
                      try clear p19
                      try clear p20
                      try clear p21
                      try clear p22
                      try clear p23
                      have p5 := q5
                      clear q5
                      have p6 := q6
                      clear q6
                      have p7 := q7
                      clear q7
                      have p8 := q8
                      clear q8
                      have p9 := q9
                      clear q9
                      have p12 := q12
                      clear q12
                      have p13 := q13
                      clear q13
                      have p14 := q14
                      clear q14
                      have p15 := q15
                      clear q15
                      have p16 := q16
                      clear q16
                      have p17 := q17
                      clear q17
                      have p18 := q18
                      clear q18
                      have p19 := q19
                      clear q19
                      have p20 := q20
                      clear q20
                      have p21 := q21
                      clear q21
                      have p22 := q22
                      clear q22
                      have p23 := q23
                      clear q23
                      have d8 := hdef.trans d7
                      clear hdef d7
                      have E5 := hide (fun (W' : World) (hk : Keeps (fun _ => False) V W') => unhide D5 W' ((unhide HZV).trans hk))
                      have E6 := hide (fun (W' : World) (hk : Keeps (fun _ => False) V W') => unhide D6 W' ((unhide HZV).trans hk))
                      have E7 := hide (fun (W' : World) (hk : Keeps (fun _ => False) V W') => unhide D7 W' ((unhide HZV).trans hk))
                      have E8 := hide (fun (W' : World) (hk : Keeps (fun _ => False) V W') => unhide D8 W' ((unhide HZV).trans hk))
                      have E9 := hide (fun (W' : World) (hk : Keeps (fun _ => False) V W') => unhide D9 W' ((unhide HZV).trans hk))
                      have E13 := hide (fun (W' : World) (hk : Keeps (fun _ => False) V W') => unhide D13 W' ((unhide HZV).trans hk))
                      have E14 := hide (fun (W' : World) (hk : Keeps (fun _ => False) V W') => unhide D14 W' ((unhide HZV).trans hk))
                      have E23 := hide (fun (W' : World) (hk : Keeps (fun _ => False) V W') => (hk.block _ (lt_of_block (unhide HP23)) id).trans (unhide HP23))
                      have HPV := hide ((unhide HPZ).trans (unhide HZV))
                      have HK3V := hide ((unhide HK3Z).trans (unhide HZV))
                      have HK4V := hide ((unhide HK4Z).trans (unhide HZV))
                      have HKV := hide (Keeps.refl (fun _ => False) V)
                      clear D5 D6 D7 D8 D9 D13 D14
                      go_wp2_with fail
                      rename_i Q0 K0 hc0
                      refine wp_region_table (X := V) (by kernel_rfl) [146, 147, 148, 149, 150, 151, 152, 153, 154, 155, 156, 24] (by decide) rfl (by rw [z8]; first | rfl | kernel_rfl | simp [opsB]) (unhide HKV) (fun i v W1 => match i with | 0 => v = .agg #[(.slice so S.length sc)] | 1 => v = .agg #[.bool h, (.slice uo vals.length uc)] | 2 => isE W1 v (mk2 18 (mk2 12 a b) (mk2 12 b c)) | 3 => isE W1 v a | 4 => isE W1 v c | 5 => isL W1 v (a.el (c.el .nil)) | 6 => isE W1 v (mk2 12 a c) | 7 => isL W1 v ((mk2 18 (mk2 12 a b) (mk2 12 b c)).el ((mk2 12 a c).el .nil)) | 8 => isE W1 v (mk2 18 (mk2 18 (mk2 12 a b) (mk2 12 b c)) (mk2 12 a c)) | 9 => isE W1 v (mk2 18 (mk2 12 a b) (mk2 12 b c)) | 10 => v = .bool true | 11 => v = .bool true | _ => True) ?_ ?_ ?_
                      · intro i v w1 w2 hq hk
                        rcases i with _ | _ | _ | _ | _ | _ | _ | _ | _ | _ | _ | _ | i
                        all_goals first | exact hq | exact isE.keep hq hk | exact isL.keep hq hk
                      · intro i o A W1 ho hs hk hd K' hK
                        rcases i with _ | _ | _ | _ | _ | _ | _ | _ | _ | _ | _ | _ | i
                        · obtain rfl := Option.some.inj ho
                          exact step_load24 rfl ((hs.at rfl 5 (by decide)).trans p5) (unhide E5 W1 hk) (hK _ _ rfl (Keeps.refl _ _))
                        · obtain rfl := Option.some.inj ho
                          exact step_load31 rfl ((hs.at rfl 6 (by decide)).trans p6) (unhide E6 W1 hk) (hK _ _ rfl (Keeps.refl _ _))
                        · obtain rfl := Option.some.inj ho
                          exact step_load27 (e := (mk2 18 (mk2 12 a b) (mk2 12 b c))) rfl ((hs.at rfl 23 (by decide)).trans p23) (unhide E23 W1 hk) (unhide HS23) ((unhide HKV).trans hk) (fun v' h1 => hK v' _ h1 (Keeps.refl _ _))
                        · obtain rfl := Option.some.inj ho
                          exact step_load27 (e := a) rfl ((hs.at rfl 7 (by decide)).trans p7) (unhide E7 W1 hk) (unhide HA) ((unhide HPV).trans hk) (fun v' h1 => hK v' _ h1 (Keeps.refl _ _))
                        · obtain rfl := Option.some.inj ho
                          exact step_load27 (e := c) rfl ((hs.at rfl 9 (by decide)).trans p9) (unhide E9 W1 hk) (unhide HC) ((unhide HPV).trans hk) (fun v' h1 => hK v' _ h1 (Keeps.refl _ _))
                        · obtain rfl := Option.some.inj ho
                          exact step_slice2 rfl rfl rfl (hd ⟨3, .data⟩ (by simp) rfl) (hd ⟨4, .data⟩ (by simp) rfl) (fun v' w' h1 h2 => hK v' w' h1 h2)
                        · obtain rfl := Option.some.inj ho
                          exact step_call26 (l := a.el (c.el .nil)) rfl rfl (hd ⟨5, .data⟩ (by simp) rfl) (Nat.le_of_ble_eq_true rfl) (fun v' w' h1 h2 => hK v' w' h1 h2)
                        · obtain rfl := Option.some.inj ho
                          exact step_slice2 rfl rfl rfl (hd ⟨2, .data⟩ (by simp) rfl) (hd ⟨6, .data⟩ (by simp) rfl) (fun v' w' h1 h2 => hK v' w' h1 h2)
                        · obtain rfl := Option.some.inj ho
                          exact step_call26 (l := (mk2 18 (mk2 12 a b) (mk2 12 b c)).el ((mk2 12 a c).el .nil)) rfl rfl (hd ⟨7, .data⟩ (by simp) rfl) (Nat.le_of_ble_eq_true rfl) (fun v' w' h1 h2 => hK v' w' h1 h2)
                        · obtain rfl := Option.some.inj ho
                          exact step_load27 (e := (mk2 18 (mk2 12 a b) (mk2 12 b c))) rfl ((hs.at rfl 23 (by decide)).trans p23) (unhide E23 W1 hk) (unhide HS23) ((unhide HKV).trans hk) (fun v' h1 => hK v' _ h1 (Keeps.refl _ _))
                        · obtain rfl := Option.some.inj ho
                          exact step_call25 (x := (mk2 18 (mk2 18 (mk2 12 a b) (mk2 12 b c)) (mk2 12 a c))) (y := (mk2 18 (mk2 12 a b) (mk2 12 b c))) rfl (hd ⟨0, .data⟩ (by simp) rfl) (hd ⟨1, .data⟩ (by simp) rfl) rfl rfl ((unhide HT).keepF ((unhide HPV).trans hk)) ((unhide HFM).keepF ((unhide HPV).trans hk)) ((unhide HFL).keepF ((unhide HPV).trans hk)) ((unhide HVA).keepF ((unhide HPV).trans hk)) (hd ⟨8, .data⟩ (by simp) rfl) (hd ⟨9, .data⟩ (by simp) rfl) (by have := unhide HZ; simp only [mk2, XE.el, EL.size]; omega) (by have := unhide HZ; simp only [mk2, XE.el, EL.size]; omega) ((unhide HLAW).2.2.2.2.2.2.2.2) (fun w' h2 => hK _ _ rfl h2)
                        · obtain rfl := Option.some.inj ho
                          exact step_assign rfl (hd ⟨10, .data⟩ (by simp) rfl) (hK _ _ rfl (Keeps.refl _ _))
                        · simp at ho
                      · intro A9 W9 hs hk hall
                        have hl := hall 11 (by decide)
                        have z9 : A9.tmps.size = 185 := hs.size.trans z8
                        have hdef := hs.defers
                        have q5 := (hs.at rfl 5 (by decide)).trans p5
                        have q6 := (hs.at rfl 6 (by decide)).trans p6
                        have q7 := (hs.at rfl 7 (by decide)).trans p7
                        have q8 := (hs.at rfl 8 (by decide)).trans p8
                        have q9 := (hs.at rfl 9 (by decide)).trans p9
                        have q12 := (hs.at rfl 12 (by decide)).trans p12
                        have q13 := (hs.at rfl 13 (by decide)).trans p13
                        have q14 := (hs.at rfl 14 (by decide)).trans p14
                        have q15 := (hs.at rfl 15 (by decide)).trans p15
                        have q16 := (hs.at rfl 16 (by decide)).trans p16
                        have q17 := (hs.at rfl 17 (by decide)).trans p17
                        have q18 := (hs.at rfl 18 (by decide)).trans p18
                        have q19 := (hs.at rfl 19 (by decide)).trans p19
                        have q20 := (hs.at rfl 20 (by decide)).trans p20
                        have q21 := (hs.at rfl 21 (by decide)).trans p21
                        have q22 := (hs.at rfl 22 (by decide)).trans p22
                        have q23 := (hs.at rfl 23 (by decide)).trans p23
                        have q24 : A9.tmps.getD 24 undef = .bool true := hl
                        have HKN9 := hide hk
                        clear hs hk hall hl
                        refine hc0 _ _ ?_
                        clear hc0
                        try clear p5
                        try clear p6
                        try clear p7
                        try clear p8
                        try clear p9
                        try clear p12
                        try clear p13
                        try clear p14
                        try clear p15
                        try clear p16
                        try clear p17
                        try clear p18
                        try clear p19
                        try clear p20
                        try clear p21
                        try clear p22
                        try clear p23
                        try clear p24
                        have p5 := q5
                        clear q5
                        have p6 := q6
                        clear q6
                        have p7 := q7
                        clear q7
                        have p8 := q8
                        clear q8
                        have p9 := q9
                        clear q9
                        have p12 := q12
                        clear q12
                        have p13 := q13
                        clear q13
                        have p14 := q14
                        clear q14
                        have p15 := q15
                        clear q15
                        have p16 := q16
                        clear q16
                        have p17 := q17
                        clear q17
                        have p18 := q18
                        clear q18
                        have p19 := q19
                        clear q19
                        have p20 := q20
                        clear q20
                        have p21 := q21
                        clear q21
                        have p22 := q22
                        clear q22
                        have p23 := q23
                        clear q23
                        have p24 := q24
                        clear q24
                        have d9 := hdef.trans d8
                        clear hdef d8
                        have e12 : A9.tmps[12]'(by omega) = .bool true := slot_lt (by omega) p12
                        have e15 : A9.tmps[15]'(by omega) = .bool true := slot_lt (by omega) p15
                        have e16 : A9.tmps[16]'(by omega) = .bool true := slot_lt (by omega) p16
                        have e17 : A9.tmps[17]'(by omega) = .bool true := slot_lt (by omega) p17
                        have e18 : A9.tmps[18]'(by omega) = .bool true := slot_lt (by omega) p18
                        have e19 : A9.tmps[19]'(by omega) = .bool true := slot_lt (by omega) p19
                        have e20 : A9.tmps[20]'(by omega) = .bool true := slot_lt (by omega) p20
                        have e21 : A9.tmps[21]'(by omega) = .bool true := slot_lt (by omega) p21
                        have e22 : A9.tmps[22]'(by omega) = .bool true := slot_lt (by omega) p22
                        have e24 : A9.tmps[24]'(by omega) = .bool true := slot_lt (by omega) p24
                        go_wp2_with fail
                        have HE := hide ((unhide HPV).trans (unhide HKN9))
                        refine bodyPost_ret (v := .bool true) (by simp [results, go_sem, z9]) rfl ?_
                        exact ⟨rfl, unhide HE⟩
theorem order_door (S : List FieldA) (h : Bool) (vals : List ValA) (op n : Int) (s : Txt) (kids : EL) (op2 n2 : Int) (s2 : Txt) (kids2 : EL) (op3 n3 : Int) (s3 : Txt) (kids3 : EL) (sv u av bv cv : Value) (w : World) (hT : Types w) (hF : Forms w) (hf : FldsAt w sv S) (hu : ValsAt w u vals) (ha : SlE (argZ w.heap.size) w 0 av kids) (hb : SlE (argZ w.heap.size) w 0 bv kids2) (hc : SlE (argZ w.heap.size) w 0 cv kids3) (_ : ∀ x ∈ vals, I64 x.n) (_ : I64 n ∧ intE kids) (_ : I64 n2 ∧ intE kids2) (_ : I64 n3 ∧ intE kids3) :
    Calls Tryz.prog 8 #[.agg #[sv], .agg #[.bool h, u], exV op n s av, exV op2 n2 s2 bv, exV op3 n3 s3 cv] w fun e w' => e = .returned (.bool true) ∧ Keeps (fun _ => False) w w' :=
  order_walk S h vals ⟨op, n, s, kids⟩ ⟨op2, n2, s2, kids2⟩ ⟨op3, n3, s3, kids3⟩ sv u av bv cv w hT hF hf hu ha hb hc
end Go.Proofs.YtijfnlfgehcpaaaGreatDoor
