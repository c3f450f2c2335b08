import Derived.Test.YtijfnlfgehcpaaaGreatDoorDs
import Derived.Test.YtijfnlfgehcpaaaGreatDoorJix
namespace Go.Proofs.YtijfnlfgehcpaaaGreatDoor
open Go.RowKit Go.Maps

theorem slot_lt {A : Act} {t : Nat} {v : Value} (ht : t < A.tmps.size) (h : A.tmps.getD t undef = v) : A.tmps[t] = v := by
  rw [Array.getD_eq_getD_getElem?, Array.getElem?_eq_getElem ht] at h
  exact h
theorem Same.at {a0 a : Act} {n : Nat} {dl : List Nat} (h : Same a0 n (fun i => dl.getD i 0) a) (hn : dl.length = n) (t : Nat) (ht : t ∉ dl) : a.tmps.getD t undef = a0.tmps.getD t undef :=
  h.slot t fun i hi e => ht (by rw [← e]; subst hn; rw [List.getD_eq_getElem?_getD, List.getElem?_eq_getElem hi]; exact List.getElem_mem hi)
set_option maxRecDepth 100000 in
set_option maxHeartbeats 8000000 in
theorem ring_walk (S : List FieldA) (h : Bool) (vals : List ValA) (a b c : XE) (sv u av bv cv : Value) (w : World) (hT : Types w) (hF : Forms w) (hf : FldsAt w sv S) (hu : ValsAt w u vals) (ha : SlE (argZ w.heap.size) w 0 av a.kids) (hb : SlE (argZ w.heap.size) w 0 bv b.kids) (hc : SlE (argZ w.heap.size) w 0 cv c.kids) (hv : ∀ x ∈ vals, I64 x.n) (hia : a.int) :
    Calls Tryz.prog 7 #[.agg #[sv], .agg #[.bool h, u], exV a.op a.n a.s av, exV b.op b.n b.s bv, exV c.op c.n c.s cv] w fun e w' => e = .returned (.bool true) ∧ Keeps (fun _ => False) w w' := by
  have HLAW := hide (ring_law S h vals hv a b c hia)
  obtain ⟨so, sc, rfl⟩ := RowAt.form hf
  obtain ⟨uo, uc, rfl⟩ := RowAt.form hu
  obtain ⟨xo, xc, rfl, _⟩ := ha.head
  obtain ⟨yo, yc, rfl, _⟩ := hb.head
  obtain ⟨zo, zc, rfl, _⟩ := hc.head
  obtain ⟨X, hX⟩ : ∃ X, ((((w.alloc (.cells #[(.slice so S.length sc)] 24)).alloc (.cells #[.bool h, (.slice uo vals.length uc)] 31)).alloc (.cells #[.int .i64 a.op, .int .i64 a.n, str a.s, (.slice xo a.kids.len xc)] 27)).alloc (.cells #[.int .i64 b.op, .int .i64 b.n, str b.s, (.slice yo b.kids.len yc)] 27)).alloc (.cells #[.int .i64 c.op, .int .i64 c.n, str c.s, (.slice zo c.kids.len zc)] 27) = X := ⟨_, rfl⟩
  have PK : Keeps (fun _ => False) w X := hX ▸ ((((((Keeps.refl _ w).alloc _).alloc _).alloc _).alloc _).alloc _)
  have P5 : X.heap[w.heap.size]? = some (.cells #[(.slice so S.length sc)] 24 (0, 0)) := hX ▸ ((((((Keeps.refl (fun _ => False) _).alloc _).alloc _).alloc _).alloc _).block _ (by simp) id).trans (heap_alloc_new w _)
  have P6 : X.heap[w.heap.size + 1]? = some (.cells #[.bool h, (.slice uo vals.length uc)] 31 (0, 0)) := hX ▸ (((((Keeps.refl (fun _ => False) _).alloc _).alloc _).alloc _).block _ (by simp) id).trans (alloc_at _ _ _ (by simp))
  have P7 : X.heap[w.heap.size + 1 + 1]? = some (.cells #[.int .i64 a.op, .int .i64 a.n, str a.s, (.slice xo a.kids.len xc)] 27 (0, 0)) := hX ▸ ((((Keeps.refl (fun _ => False) _).alloc _).alloc _).block _ (by simp) id).trans (alloc_at _ _ _ (by simp))
  have P8 : X.heap[w.heap.size + 1 + 1 + 1]? = some (.cells #[.int .i64 b.op, .int .i64 b.n, str b.s, (.slice yo b.kids.len yc)] 27 (0, 0)) := hX ▸ (((Keeps.refl (fun _ => False) _).alloc _).block _ (by simp) id).trans (alloc_at _ _ _ (by simp))
  have P9 : X.heap[w.heap.size + 1 + 1 + 1 + 1]? = some (.cells #[.int .i64 c.op, .int .i64 c.n, str c.s, (.slice zo c.kids.len zc)] 27 (0, 0)) := hX ▸ alloc_at _ _ _ (by simp)
  have B5 := hide (fun (W' : World) (hk : Keeps (fun _ => False) X W') => (hk.block _ (lt_of_block P5) id).trans P5)
  have B6 := hide (fun (W' : World) (hk : Keeps (fun _ => False) X W') => (hk.block _ (lt_of_block P6) id).trans P6)
  have B7 := hide (fun (W' : World) (hk : Keeps (fun _ => False) X W') => (hk.block _ (lt_of_block P7) id).trans P7)
  have B8 := hide (fun (W' : World) (hk : Keeps (fun _ => False) X W') => (hk.block _ (lt_of_block P8) id).trans P8)
  have B9 := hide (fun (W' : World) (hk : Keeps (fun _ => False) X W') => (hk.block _ (lt_of_block P9) id).trans P9)
  have CL : ∀ W' : World, Keeps (fun _ => False) X W' → W'.cell? ⟨w.heap.size + 1 + 1, 0, none⟩ = some (.int .i64 a.op) ∧ W'.cell? ⟨w.heap.size + 1 + 1, 1, none⟩ = some (.int .i64 a.n) ∧ W'.cell? ⟨w.heap.size + 1 + 1, 2, none⟩ = some (str a.s) ∧ W'.cell? ⟨w.heap.size + 1 + 1, 3, none⟩ = some ((.slice xo a.kids.len xc)) ∧ W'.cell? ⟨w.heap.size + 1 + 1 + 1, 0, none⟩ = some (.int .i64 b.op) ∧ W'.cell? ⟨w.heap.size + 1 + 1 + 1, 1, none⟩ = some (.int .i64 b.n) ∧ W'.cell? ⟨w.heap.size + 1 + 1 + 1, 2, none⟩ = some (str b.s) ∧ W'.cell? ⟨w.heap.size + 1 + 1 + 1, 3, none⟩ = some ((.slice yo b.kids.len yc)) ∧ W'.cell? ⟨w.heap.size + 1 + 1 + 1 + 1, 0, none⟩ = some (.int .i64 c.op) ∧ W'.cell? ⟨w.heap.size + 1 + 1 + 1 + 1, 1, none⟩ = some (.int .i64 c.n) ∧ W'.cell? ⟨w.heap.size + 1 + 1 + 1 + 1, 2, none⟩ = some (str c.s) ∧ W'.cell? ⟨w.heap.size + 1 + 1 + 1 + 1, 3, none⟩ = some ((.slice zo c.kids.len zc)) := fun W' hk => by
    have q7 := unhide B7 W' hk
    have q8 := unhide B8 W' hk
    have q9 := unhide B9 W' hk
    exact ⟨(cell_of_blk q7 _).trans rfl, (cell_of_blk q7 _).trans rfl, (cell_of_blk q7 _).trans rfl, (cell_of_blk q7 _).trans rfl, (cell_of_blk q8 _).trans rfl, (cell_of_blk q8 _).trans rfl, (cell_of_blk q8 _).trans rfl, (cell_of_blk q8 _).trans rfl, (cell_of_blk q9 _).trans rfl, (cell_of_blk q9 _).trans rfl, (cell_of_blk q9 _).trans rfl, (cell_of_blk q9 _).trans rfl⟩
  have c0 := CL X (Keeps.refl _ _)
  have HNR := hide (near_v _ 0 (a.el (b.el (c.el .nil))) (.slice (some ⟨X.heap.size, 0, none⟩) 3 3) (X.alloc (.cells #[.int .i64 a.op, .int .i64 a.n, str a.s, (.slice xo a.kids.len xc), .int .i64 b.op, .int .i64 b.n, str b.s, (.slice yo b.kids.len yc), .int .i64 c.op, .int .i64 c.n, str c.s, (.slice zo c.kids.len zc)] 27)) (Nat.le_refl _) (isL_new (w := X) (l := a.el (b.el (c.el .nil))) (xs := [.int .i64 a.op, .int .i64 a.n, str a.s, (.slice xo a.kids.len xc), .int .i64 b.op, .int .i64 b.n, str b.s, (.slice yo b.kids.len yc), .int .i64 c.op, .int .i64 c.n, str c.s, (.slice zo c.kids.len zc)]) ⟨_, _, rfl, sl_top ha PK, ⟨_, _, rfl, sl_top hb PK, ⟨_, _, rfl, sl_top hc PK, rfl⟩⟩⟩))
  have HWK := fun W' (hk : Keeps (fun _ => False) w W') => hide (works_v W' (hT.keepF hk) (hF.keepF hk))
  have HT := hide hT
  have HFM := hide hF
  have HFL := hide hf
  have HVA := hide hu
  have HA := hide ha
  have HB := hide hb
  have HC := hide hc
  have HPK := hide PK
  clear hT hF hf hu ha hb hc P5 P6 P7 P8 P9 PK CL hv hia
  go_enter Tryz.func7, Tryz.ntmps7
  go_wp2_with fail
  refine (unhide HNR).mono ?_
  rintro e w1 ⟨r1, rfl, hk1, hz1⟩
  have HK1 := hide ((kAlloc X _).trans hk1)
  clear hk1 c0 HNR
  cases r1 with
  | true =>
    clear hz1
    go_wp2_with fail
    go_ret
    exact ⟨rfl, (unhide HPK).trans (unhide HK1)⟩
  | false =>
    have hz := hz1 rfl
    clear hz1
    simp only [XE.el, EL.size] at hz
    have HZ := hide hz
    clear hz
    go_wp2_with fail
    refine (unhide (HWK _ ((unhide HPK).trans (unhide HK1)))).mono ?_
    rintro e w2 ⟨rfl, hk2⟩
    have HK2 := hide ((unhide HK1).trans hk2)
    clear hk2 HWK
    go_wp2_with fail
    rename_i Q0 K0 hc0
    refine wp_region_table (X := X) (by kernel_rfl) [27, 28, 29, 30, 31, 32, 33, 34, 35, 36, 37, 38, 39, 13] (by decide) rfl (by first | rfl | kernel_rfl | simp [opsB]) (unhide HK2) (fun i v W1 => match i with | 0 => v = .agg #[(.slice so S.length sc)] | 1 => v = .agg #[.bool h, (.slice uo vals.length uc)] | 2 => isE W1 v a | 3 => isE W1 v b | 4 => isL W1 v (a.el (b.el .nil)) | 5 => isE W1 v (mk2 10 a b) | 6 => isE W1 v a | 7 => isE W1 v b | 8 => isL W1 v (b.el .nil) | 9 => isE W1 v (mk1 8 b) | 10 => isL W1 v (a.el ((mk1 8 b).el .nil)) | 11 => isE W1 v (mk2 9 a (mk1 8 b)) | 12 => v = .bool true | 13 => v = .bool true | _ => True) ?_ ?_ ?_
    · intro i v w1 w2 hq hk
      rcases i with _ | _ | _ | _ | _ | _ | _ | _ | _ | _ | _ | _ | _ | _ | i
      all_goals first | exact hq | exact isE.keep hq hk | exact isL.keep hq hk
    · intro i o A W1 ho hs hk hd K' hK
      skip
      rcases i with _ | _ | _ | _ | _ | _ | _ | _ | _ | _ | _ | _ | _ | _ | i
      · obtain rfl := Option.some.inj ho
        exact step_load24 rfl ((hs.at rfl 5 (by decide)).trans rfl) (unhide B5 W1 hk) (hK _ _ rfl (Keeps.refl _ _))
      · obtain rfl := Option.some.inj ho
        exact step_load31 rfl ((hs.at rfl 6 (by decide)).trans rfl) (unhide B6 W1 hk) (hK _ _ rfl (Keeps.refl _ _))
      · obtain rfl := Option.some.inj ho
        exact step_load27 rfl ((hs.at rfl 7 (by decide)).trans rfl) (unhide B7 W1 hk) (unhide HA) ((unhide HPK).trans hk) (fun v' h1 => hK v' _ h1 (Keeps.refl _ _))
      · obtain rfl := Option.some.inj ho
        exact step_load27 rfl ((hs.at rfl 8 (by decide)).trans rfl) (unhide B8 W1 hk) (unhide HB) ((unhide HPK).trans hk) (fun v' h1 => hK v' _ h1 (Keeps.refl _ _))
      · obtain rfl := Option.some.inj ho
        exact step_slice2 rfl rfl rfl (hd ⟨2, .data⟩ (by simp) rfl) (hd ⟨3, .data⟩ (by simp) rfl) (fun v' w' h1 h2 => hK v' w' h1 h2)
      · obtain rfl := Option.some.inj ho
        exact step_call26 (l := a.el (b.el .nil)) rfl rfl (hd ⟨4, .data⟩ (by simp) rfl) (Nat.le_of_ble_eq_true rfl) (fun v' w' h1 h2 => hK v' w' h1 h2)
      · obtain rfl := Option.some.inj ho
        exact step_load27 rfl ((hs.at rfl 7 (by decide)).trans rfl) (unhide B7 W1 hk) (unhide HA) ((unhide HPK).trans hk) (fun v' h1 => hK v' _ h1 (Keeps.refl _ _))
      · obtain rfl := Option.some.inj ho
        exact step_load27 rfl ((hs.at rfl 8 (by decide)).trans rfl) (unhide B8 W1 hk) (unhide HB) ((unhide HPK).trans hk) (fun v' h1 => hK v' _ h1 (Keeps.refl _ _))
      · obtain rfl := Option.some.inj ho
        exact step_slice1 rfl rfl (hd ⟨7, .data⟩ (by simp) rfl) (fun v' w' h1 h2 => hK v' w' h1 h2)
      · obtain rfl := Option.some.inj ho
        exact step_call26 (l := b.el .nil) rfl rfl (hd ⟨8, .data⟩ (by simp) rfl) (Nat.le_of_ble_eq_true rfl) (fun v' w' h1 h2 => hK v' w' h1 h2)
      · obtain rfl := Option.some.inj ho
        exact step_slice2 rfl rfl rfl (hd ⟨6, .data⟩ (by simp) rfl) (hd ⟨9, .data⟩ (by simp) rfl) (fun v' w' h1 h2 => hK v' w' h1 h2)
      · obtain rfl := Option.some.inj ho
        exact step_call26 (l := a.el ((mk1 8 b).el .nil)) rfl rfl (hd ⟨10, .data⟩ (by simp) rfl) (Nat.le_of_ble_eq_true rfl) (fun v' w' h1 h2 => hK v' w' h1 h2)
      · obtain rfl := Option.some.inj ho
        exact step_call25 (x := (mk2 10 a b)) (y := (mk2 9 a (mk1 8 b))) rfl (hd ⟨0, .data⟩ (by simp) rfl) (hd ⟨1, .data⟩ (by simp) rfl) rfl rfl ((unhide HT).keepF ((unhide HPK).trans hk)) ((unhide HFM).keepF ((unhide HPK).trans hk)) ((unhide HFL).keepF ((unhide HPK).trans hk)) ((unhide HVA).keepF ((unhide HPK).trans hk)) (hd ⟨5, .data⟩ (by simp) rfl) (hd ⟨11, .data⟩ (by simp) rfl) (by have := unhide HZ; simp only [mk2, XE.el, EL.size]; omega) (by have := unhide HZ; simp only [mk1, mk2, XE.el, EL.size]; omega) ((unhide HLAW).1) (fun w' h2 => hK _ _ rfl h2)
      · obtain rfl := Option.some.inj ho
        exact step_assign rfl (hd ⟨12, .data⟩ (by simp) rfl) (hK _ _ rfl (Keeps.refl _ _))
      · simp at ho
    · intro A0 W0 hs hk hall
      have hl := hall 13 (by decide)
      have z0 : A0.tmps.size = 141 := hs.size
      have hdef := hs.defers
      have q5 := (hs.at rfl 5 (by decide)).trans rfl
      have q6 := (hs.at rfl 6 (by decide)).trans rfl
      have q7 := (hs.at rfl 7 (by decide)).trans rfl
      have q8 := (hs.at rfl 8 (by decide)).trans rfl
      have q9 := (hs.at rfl 9 (by decide)).trans rfl
      have q12 := (hs.at rfl 12 (by decide)).trans rfl
      have q13 : A0.tmps.getD 13 undef = .bool true := hl
      have HKN0 := hide hk
      clear hs hk hall hl
      refine hc0 _ _ ?_
      clear hc0
      try clear p5
      try clear p6
      try clear p7
      try clear p8
      try clear p9
      try clear p12
      try clear p13
      have p5 := q5
      clear q5
      have p6 := q6
      clear q6
      have p7 := q7
      clear q7
      have p8 := q8
      clear q8
      have p9 := q9
      clear q9
      have p12 := q12
      clear q12
      have p13 := q13
      clear q13
      have d0 : A0.defers = [] := hdef
      clear hdef
      go_wp2_with fail
      rename_i Q0 K0 hc0
      refine wp_region_table (X := X) (by kernel_rfl) [40, 41, 42, 43, 44, 45, 46, 47, 48, 49, 50, 14] (by decide) rfl (by rw [z0]; first | rfl | kernel_rfl | simp [opsB]) (unhide HKN0) (fun i v W1 => match i with | 0 => v = .agg #[(.slice so S.length sc)] | 1 => v = .agg #[.bool h, (.slice uo vals.length uc)] | 2 => isE W1 v a | 3 => isE W1 v b | 4 => isL W1 v (a.el (b.el .nil)) | 5 => isE W1 v (mk2 9 a b) | 6 => isE W1 v b | 7 => isL W1 v ((mk2 9 a b).el (b.el .nil)) | 8 => isE W1 v (mk2 10 (mk2 9 a b) b) | 9 => isE W1 v a | 10 => v = .bool true | 11 => v = .bool true | _ => True) ?_ ?_ ?_
      · intro i v w1 w2 hq hk
        rcases i with _ | _ | _ | _ | _ | _ | _ | _ | _ | _ | _ | _ | i
        all_goals first | exact hq | exact isE.keep hq hk | exact isL.keep hq hk
      · intro i o A W1 ho hs hk hd K' hK
        skip
        rcases i with _ | _ | _ | _ | _ | _ | _ | _ | _ | _ | _ | _ | i
        · obtain rfl := Option.some.inj ho
          exact step_load24 rfl ((hs.at rfl 5 (by decide)).trans p5) (unhide B5 W1 hk) (hK _ _ rfl (Keeps.refl _ _))
        · obtain rfl := Option.some.inj ho
          exact step_load31 rfl ((hs.at rfl 6 (by decide)).trans p6) (unhide B6 W1 hk) (hK _ _ rfl (Keeps.refl _ _))
        · obtain rfl := Option.some.inj ho
          exact step_load27 rfl ((hs.at rfl 7 (by decide)).trans p7) (unhide B7 W1 hk) (unhide HA) ((unhide HPK).trans hk) (fun v' h1 => hK v' _ h1 (Keeps.refl _ _))
        · obtain rfl := Option.some.inj ho
          exact step_load27 rfl ((hs.at rfl 8 (by decide)).trans p8) (unhide B8 W1 hk) (unhide HB) ((unhide HPK).trans hk) (fun v' h1 => hK v' _ h1 (Keeps.refl _ _))
        · obtain rfl := Option.some.inj ho
          exact step_slice2 rfl rfl rfl (hd ⟨2, .data⟩ (by simp) rfl) (hd ⟨3, .data⟩ (by simp) rfl) (fun v' w' h1 h2 => hK v' w' h1 h2)
        · obtain rfl := Option.some.inj ho
          exact step_call26 (l := a.el (b.el .nil)) rfl rfl (hd ⟨4, .data⟩ (by simp) rfl) (Nat.le_of_ble_eq_true rfl) (fun v' w' h1 h2 => hK v' w' h1 h2)
        · obtain rfl := Option.some.inj ho
          exact step_load27 rfl ((hs.at rfl 8 (by decide)).trans p8) (unhide B8 W1 hk) (unhide HB) ((unhide HPK).trans hk) (fun v' h1 => hK v' _ h1 (Keeps.refl _ _))
        · obtain rfl := Option.some.inj ho
          exact step_slice2 rfl rfl rfl (hd ⟨5, .data⟩ (by simp) rfl) (hd ⟨6, .data⟩ (by simp) rfl) (fun v' w' h1 h2 => hK v' w' h1 h2)
        · obtain rfl := Option.some.inj ho
          exact step_call26 (l := (mk2 9 a b).el (b.el .nil)) rfl rfl (hd ⟨7, .data⟩ (by simp) rfl) (Nat.le_of_ble_eq_true rfl) (fun v' w' h1 h2 => hK v' w' h1 h2)
        · obtain rfl := Option.some.inj ho
          exact step_load27 rfl ((hs.at rfl 7 (by decide)).trans p7) (unhide B7 W1 hk) (unhide HA) ((unhide HPK).trans hk) (fun v' h1 => hK v' _ h1 (Keeps.refl _ _))
        · obtain rfl := Option.some.inj ho
          exact step_call25 (x := (mk2 10 (mk2 9 a b) b)) (y := a) rfl (hd ⟨0, .data⟩ (by simp) rfl) (hd ⟨1, .data⟩ (by simp) rfl) rfl rfl ((unhide HT).keepF ((unhide HPK).trans hk)) ((unhide HFM).keepF ((unhide HPK).trans hk)) ((unhide HFL).keepF ((unhide HPK).trans hk)) ((unhide HVA).keepF ((unhide HPK).trans hk)) (hd ⟨8, .data⟩ (by simp) rfl) (hd ⟨9, .data⟩ (by simp) rfl) (by have := unhide HZ; simp only [mk2, XE.el, EL.size]; omega) (by have := unhide HZ; omega) ((unhide HLAW).2.1) (fun w' h2 => hK _ _ rfl h2)
        · obtain rfl := Option.some.inj ho
          exact step_assign rfl (hd ⟨10, .data⟩ (by simp) rfl) (hK _ _ rfl (Keeps.refl _ _))
        · simp at ho
      · intro A1 W1 hs hk hall
        have hl := hall 11 (by decide)
        have z1 : A1.tmps.size = 141 := hs.size.trans z0
        have hdef := hs.defers
        have q5 := (hs.at rfl 5 (by decide)).trans p5
        have q6 := (hs.at rfl 6 (by decide)).trans p6
        have q7 := (hs.at rfl 7 (by decide)).trans p7
        have q8 := (hs.at rfl 8 (by decide)).trans p8
        have q9 := (hs.at rfl 9 (by decide)).trans p9
        have q12 := (hs.at rfl 12 (by decide)).trans p12
        have q13 := (hs.at rfl 13 (by decide)).trans p13
        have q14 : A1.tmps.getD 14 undef = .bool true := hl
        have HKN1 := hide hk
        clear hs hk hall hl
        refine hc0 _ _ ?_
        clear hc0
        try clear p5
        try clear p6
        try clear p7
        try clear p8
        try clear p9
        try clear p12
        try clear p13
        try clear p14
        have p5 := q5
        clear q5
        have p6 := q6
        clear q6
        have p7 := q7
        clear q7
        have p8 := q8
        clear q8
        have p9 := q9
        clear q9
        have p12 := q12
        clear q12
        have p13 := q13
        clear q13
        have p14 := q14
        clear q14
        have d1 := hdef.trans d0
        clear hdef d0
        go_wp2_with fail
        rename_i Q0 K0 hc0
        refine wp_region_table (X := X) (by kernel_rfl) [51, 52, 53, 54, 55, 56, 57, 58, 59, 60, 61, 15] (by decide) rfl (by rw [z1]; first | rfl | kernel_rfl | simp [opsB]) (unhide HKN1) (fun i v W1 => match i with | 0 => v = .agg #[(.slice so S.length sc)] | 1 => v = .agg #[.bool h, (.slice uo vals.length uc)] | 2 => isE W1 v a | 3 => isE W1 v b | 4 => isL W1 v (a.el (b.el .nil)) | 5 => isE W1 v (mk2 9 a b) | 6 => isE W1 v b | 7 => isE W1 v a | 8 => isL W1 v (b.el (a.el .nil)) | 9 => isE W1 v (mk2 9 b a) | 10 => v = .bool true | 11 => v = .bool true | _ => True) ?_ ?_ ?_
        · intro i v w1 w2 hq hk
          rcases i with _ | _ | _ | _ | _ | _ | _ | _ | _ | _ | _ | _ | i
          all_goals first | exact hq | exact isE.keep hq hk | exact isL.keep hq hk
        · intro i o A W1 ho hs hk hd K' hK
          skip
          rcases i with _ | _ | _ | _ | _ | _ | _ | _ | _ | _ | _ | _ | i
          · obtain rfl := Option.some.inj ho
            exact step_load24 rfl ((hs.at rfl 5 (by decide)).trans p5) (unhide B5 W1 hk) (hK _ _ rfl (Keeps.refl _ _))
          · obtain rfl := Option.some.inj ho
            exact step_load31 rfl ((hs.at rfl 6 (by decide)).trans p6) (unhide B6 W1 hk) (hK _ _ rfl (Keeps.refl _ _))
          · obtain rfl := Option.some.inj ho
            exact step_load27 rfl ((hs.at rfl 7 (by decide)).trans p7) (unhide B7 W1 hk) (unhide HA) ((unhide HPK).trans hk) (fun v' h1 => hK v' _ h1 (Keeps.refl _ _))
          · obtain rfl := Option.some.inj ho
            exact step_load27 rfl ((hs.at rfl 8 (by decide)).trans p8) (unhide B8 W1 hk) (unhide HB) ((unhide HPK).trans hk) (fun v' h1 => hK v' _ h1 (Keeps.refl _ _))
          · obtain rfl := Option.some.inj ho
            exact step_slice2 rfl rfl rfl (hd ⟨2, .data⟩ (by simp) rfl) (hd ⟨3, .data⟩ (by simp) rfl) (fun v' w' h1 h2 => hK v' w' h1 h2)
          · obtain rfl := Option.some.inj ho
            exact step_call26 (l := a.el (b.el .nil)) rfl rfl (hd ⟨4, .data⟩ (by simp) rfl) (Nat.le_of_ble_eq_true rfl) (fun v' w' h1 h2 => hK v' w' h1 h2)
          · obtain rfl := Option.some.inj ho
            exact step_load27 rfl ((hs.at rfl 8 (by decide)).trans p8) (unhide B8 W1 hk) (unhide HB) ((unhide HPK).trans hk) (fun v' h1 => hK v' _ h1 (Keeps.refl _ _))
          · obtain rfl := Option.some.inj ho
            exact step_load27 rfl ((hs.at rfl 7 (by decide)).trans p7) (unhide B7 W1 hk) (unhide HA) ((unhide HPK).trans hk) (fun v' h1 => hK v' _ h1 (Keeps.refl _ _))
          · obtain rfl := Option.some.inj ho
            exact step_slice2 rfl rfl rfl (hd ⟨6, .data⟩ (by simp) rfl) (hd ⟨7, .data⟩ (by simp) rfl) (fun v' w' h1 h2 => hK v' w' h1 h2)
          · obtain rfl := Option.some.inj ho
            exact step_call26 (l := b.el (a.el .nil)) rfl rfl (hd ⟨8, .data⟩ (by simp) rfl) (Nat.le_of_ble_eq_true rfl) (fun v' w' h1 h2 => hK v' w' h1 h2)
          · obtain rfl := Option.some.inj ho
            exact step_call25 (x := (mk2 9 a b)) (y := (mk2 9 b a)) rfl (hd ⟨0, .data⟩ (by simp) rfl) (hd ⟨1, .data⟩ (by simp) rfl) rfl rfl ((unhide HT).keepF ((unhide HPK).trans hk)) ((unhide HFM).keepF ((unhide HPK).trans hk)) ((unhide HFL).keepF ((unhide HPK).trans hk)) ((unhide HVA).keepF ((unhide HPK).trans hk)) (hd ⟨5, .data⟩ (by simp) rfl) (hd ⟨9, .data⟩ (by simp) rfl) (by have := unhide HZ; simp only [mk2, XE.el, EL.size]; omega) (by have := unhide HZ; simp only [mk2, XE.el, EL.size]; omega) ((unhide HLAW).2.2.1) (fun w' h2 => hK _ _ rfl h2)
          · obtain rfl := Option.some.inj ho
            exact step_assign rfl (hd ⟨10, .data⟩ (by simp) rfl) (hK _ _ rfl (Keeps.refl _ _))
          · simp at ho
        · intro A2 W2 hs hk hall
          have hl := hall 11 (by decide)
          have z2 : A2.tmps.size = 141 := hs.size.trans z1
          have hdef := hs.defers
          have q5 := (hs.at rfl 5 (by decide)).trans p5
          have q6 := (hs.at rfl 6 (by decide)).trans p6
          have q7 := (hs.at rfl 7 (by decide)).trans p7
          have q8 := (hs.at rfl 8 (by decide)).trans p8
          have q9 := (hs.at rfl 9 (by decide)).trans p9
          have q12 := (hs.at rfl 12 (by decide)).trans p12
          have q13 := (hs.at rfl 13 (by decide)).trans p13
          have q14 := (hs.at rfl 14 (by decide)).trans p14
          have q15 : A2.tmps.getD 15 undef = .bool true := hl
          have HKN2 := hide hk
          clear hs hk hall hl
          refine hc0 _ _ ?_
          clear hc0
          try clear p5
          try clear p6
          try clear p7
          try clear p8
          try clear p9
          try clear p12
          try clear p13
          try clear p14
          try clear p15
          have p5 := q5
          clear q5
          have p6 := q6
          clear q6
          have p7 := q7
          clear q7
          have p8 := q8
          clear q8
          have p9 := q9
          clear q9
          have p12 := q12
          clear q12
          have p13 := q13
          clear q13
          have p14 := q14
          clear q14
          have p15 := q15
          clear q15
          have d2 := hdef.trans d1
          clear hdef d1
          go_wp2_with fail
          rename_i Q0 K0 hc0
          refine wp_region_table (X := X) (by kernel_rfl) [62, 63, 64, 65, 66, 67, 68, 69, 70, 71, 72, 16] (by decide) rfl (by rw [z2]; first | rfl | kernel_rfl | simp [opsB]) (unhide HKN2) (fun i v W1 => match i with | 0 => v = .agg #[(.slice so S.length sc)] | 1 => v = .agg #[.bool h, (.slice uo vals.length uc)] | 2 => isE W1 v a | 3 => isE W1 v b | 4 => isL W1 v (a.el (b.el .nil)) | 5 => isE W1 v (mk2 11 a b) | 6 => isE W1 v b | 7 => isE W1 v a | 8 => isL W1 v (b.el (a.el .nil)) | 9 => isE W1 v (mk2 11 b a) | 10 => v = .bool true | 11 => v = .bool true | _ => True) ?_ ?_ ?_
          · intro i v w1 w2 hq hk
            rcases i with _ | _ | _ | _ | _ | _ | _ | _ | _ | _ | _ | _ | i
            all_goals first | exact hq | exact isE.keep hq hk | exact isL.keep hq hk
          · intro i o A W1 ho hs hk hd K' hK
            skip
            rcases i with _ | _ | _ | _ | _ | _ | _ | _ | _ | _ | _ | _ | i
            · obtain rfl := Option.some.inj ho
              exact step_load24 rfl ((hs.at rfl 5 (by decide)).trans p5) (unhide B5 W1 hk) (hK _ _ rfl (Keeps.refl _ _))
            · obtain rfl := Option.some.inj ho
              exact step_load31 rfl ((hs.at rfl 6 (by decide)).trans p6) (unhide B6 W1 hk) (hK _ _ rfl (Keeps.refl _ _))
            · obtain rfl := Option.some.inj ho
              exact step_load27 rfl ((hs.at rfl 7 (by decide)).trans p7) (unhide B7 W1 hk) (unhide HA) ((unhide HPK).trans hk) (fun v' h1 => hK v' _ h1 (Keeps.refl _ _))
            · obtain rfl := Option.some.inj ho
              exact step_load27 rfl ((hs.at rfl 8 (by decide)).trans p8) (unhide B8 W1 hk) (unhide HB) ((unhide HPK).trans hk) (fun v' h1 => hK v' _ h1 (Keeps.refl _ _))
            · obtain rfl := Option.some.inj ho
              exact step_slice2 rfl rfl rfl (hd ⟨2, .data⟩ (by simp) rfl) (hd ⟨3, .data⟩ (by simp) rfl) (fun v' w' h1 h2 => hK v' w' h1 h2)
            · obtain rfl := Option.some.inj ho
              exact step_call26 (l := a.el (b.el .nil)) rfl rfl (hd ⟨4, .data⟩ (by simp) rfl) (Nat.le_of_ble_eq_true rfl) (fun v' w' h1 h2 => hK v' w' h1 h2)
            · obtain rfl := Option.some.inj ho
              exact step_load27 rfl ((hs.at rfl 8 (by decide)).trans p8) (unhide B8 W1 hk) (unhide HB) ((unhide HPK).trans hk) (fun v' h1 => hK v' _ h1 (Keeps.refl _ _))
            · obtain rfl := Option.some.inj ho
              exact step_load27 rfl ((hs.at rfl 7 (by decide)).trans p7) (unhide B7 W1 hk) (unhide HA) ((unhide HPK).trans hk) (fun v' h1 => hK v' _ h1 (Keeps.refl _ _))
            · obtain rfl := Option.some.inj ho
              exact step_slice2 rfl rfl rfl (hd ⟨6, .data⟩ (by simp) rfl) (hd ⟨7, .data⟩ (by simp) rfl) (fun v' w' h1 h2 => hK v' w' h1 h2)
            · obtain rfl := Option.some.inj ho
              exact step_call26 (l := b.el (a.el .nil)) rfl rfl (hd ⟨8, .data⟩ (by simp) rfl) (Nat.le_of_ble_eq_true rfl) (fun v' w' h1 h2 => hK v' w' h1 h2)
            · obtain rfl := Option.some.inj ho
              exact step_call25 (x := (mk2 11 a b)) (y := (mk2 11 b a)) rfl (hd ⟨0, .data⟩ (by simp) rfl) (hd ⟨1, .data⟩ (by simp) rfl) rfl rfl ((unhide HT).keepF ((unhide HPK).trans hk)) ((unhide HFM).keepF ((unhide HPK).trans hk)) ((unhide HFL).keepF ((unhide HPK).trans hk)) ((unhide HVA).keepF ((unhide HPK).trans hk)) (hd ⟨5, .data⟩ (by simp) rfl) (hd ⟨9, .data⟩ (by simp) rfl) (by have := unhide HZ; simp only [mk2, XE.el, EL.size]; omega) (by have := unhide HZ; simp only [mk2, XE.el, EL.size]; omega) ((unhide HLAW).2.2.2.1) (fun w' h2 => hK _ _ rfl h2)
            · obtain rfl := Option.some.inj ho
              exact step_assign rfl (hd ⟨10, .data⟩ (by simp) rfl) (hK _ _ rfl (Keeps.refl _ _))
            · simp at ho
          · intro A3 W3 hs hk hall
            have hl := hall 11 (by decide)
            have z3 : A3.tmps.size = 141 := hs.size.trans z2
            have hdef := hs.defers
            have q5 := (hs.at rfl 5 (by decide)).trans p5
            have q6 := (hs.at rfl 6 (by decide)).trans p6
            have q7 := (hs.at rfl 7 (by decide)).trans p7
            have q8 := (hs.at rfl 8 (by decide)).trans p8
            have q9 := (hs.at rfl 9 (by decide)).trans p9
            have q12 := (hs.at rfl 12 (by decide)).trans p12
            have q13 := (hs.at rfl 13 (by decide)).trans p13
            have q14 := (hs.at rfl 14 (by decide)).trans p14
            have q15 := (hs.at rfl 15 (by decide)).trans p15
            have q16 : A3.tmps.getD 16 undef = .bool true := hl
            have HKN3 := hide hk
            clear hs hk hall hl
            refine hc0 _ _ ?_
            clear hc0
            try clear p5
            try clear p6
            try clear p7
            try clear p8
            try clear p9
            try clear p12
            try clear p13
            try clear p14
            try clear p15
            try clear p16
            have p5 := q5
            clear q5
            have p6 := q6
            clear q6
            have p7 := q7
            clear q7
            have p8 := q8
            clear q8
            have p9 := q9
            clear q9
            have p12 := q12
            clear q12
            have p13 := q13
            clear q13
            have p14 := q14
            clear q14
            have p15 := q15
            clear q15
            have p16 := q16
            clear q16
            have d3 := hdef.trans d2
            clear hdef d2
            go_wp2_with fail
            rename_i Q0 K0 hc0
            refine wp_region_table (X := X) (by kernel_rfl) [73, 74, 75, 76, 77, 78, 79, 80, 81, 82, 83, 84, 85, 86, 87, 88, 89, 90, 91, 92, 17] (by decide) rfl (by rw [z3]; first | rfl | kernel_rfl | simp [opsB]) (unhide HKN3) (fun i v W1 => match i with | 0 => v = .agg #[(.slice so S.length sc)] | 1 => v = .agg #[.bool h, (.slice uo vals.length uc)] | 2 => isE W1 v a | 3 => isE W1 v b | 4 => isE W1 v c | 5 => isL W1 v (b.el (c.el .nil)) | 6 => isE W1 v (mk2 9 b c) | 7 => isL W1 v (a.el ((mk2 9 b c).el .nil)) | 8 => isE W1 v (mk2 11 a (mk2 9 b c)) | 9 => isE W1 v a | 10 => isE W1 v b | 11 => isL W1 v (a.el (b.el .nil)) | 12 => isE W1 v (mk2 11 a b) | 13 => isE W1 v a | 14 => isE W1 v c | 15 => isL W1 v (a.el (c.el .nil)) | 16 => isE W1 v (mk2 11 a c) | 17 => isL W1 v ((mk2 11 a b).el ((mk2 11 a c).el .nil)) | 18 => isE W1 v (mk2 9 (mk2 11 a b) (mk2 11 a c)) | 19 => v = .bool true | 20 => v = .bool true | _ => True) ?_ ?_ ?_
            · intro i v w1 w2 hq hk
              rcases i with _ | _ | _ | _ | _ | _ | _ | _ | _ | _ | _ | _ | _ | _ | _ | _ | _ | _ | _ | _ | _ | i
              all_goals first | exact hq | exact isE.keep hq hk | exact isL.keep hq hk
            · intro i o A W1 ho hs hk hd K' hK
              skip
              rcases i with _ | _ | _ | _ | _ | _ | _ | _ | _ | _ | _ | _ | _ | _ | _ | _ | _ | _ | _ | _ | _ | i
              · obtain rfl := Option.some.inj ho
                exact step_load24 rfl ((hs.at rfl 5 (by decide)).trans p5) (unhide B5 W1 hk) (hK _ _ rfl (Keeps.refl _ _))
              · obtain rfl := Option.some.inj ho
                exact step_load31 rfl ((hs.at rfl 6 (by decide)).trans p6) (unhide B6 W1 hk) (hK _ _ rfl (Keeps.refl _ _))
              · obtain rfl := Option.some.inj ho
                exact step_load27 rfl ((hs.at rfl 7 (by decide)).trans p7) (unhide B7 W1 hk) (unhide HA) ((unhide HPK).trans hk) (fun v' h1 => hK v' _ h1 (Keeps.refl _ _))
              · obtain rfl := Option.some.inj ho
                exact step_load27 rfl ((hs.at rfl 8 (by decide)).trans p8) (unhide B8 W1 hk) (unhide HB) ((unhide HPK).trans hk) (fun v' h1 => hK v' _ h1 (Keeps.refl _ _))
              · obtain rfl := Option.some.inj ho
                exact step_load27 rfl ((hs.at rfl 9 (by decide)).trans p9) (unhide B9 W1 hk) (unhide HC) ((unhide HPK).trans hk) (fun v' h1 => hK v' _ h1 (Keeps.refl _ _))
              · obtain rfl := Option.some.inj ho
                exact step_slice2 rfl rfl rfl (hd ⟨3, .data⟩ (by simp) rfl) (hd ⟨4, .data⟩ (by simp) rfl) (fun v' w' h1 h2 => hK v' w' h1 h2)
              · obtain rfl := Option.some.inj ho
                exact step_call26 (l := b.el (c.el .nil)) rfl rfl (hd ⟨5, .data⟩ (by simp) rfl) (Nat.le_of_ble_eq_true rfl) (fun v' w' h1 h2 => hK v' w' h1 h2)
              · obtain rfl := Option.some.inj ho
                exact step_slice2 rfl rfl rfl (hd ⟨2, .data⟩ (by simp) rfl) (hd ⟨6, .data⟩ (by simp) rfl) (fun v' w' h1 h2 => hK v' w' h1 h2)
              · obtain rfl := Option.some.inj ho
                exact step_call26 (l := a.el ((mk2 9 b c).el .nil)) rfl rfl (hd ⟨7, .data⟩ (by simp) rfl) (Nat.le_of_ble_eq_true rfl) (fun v' w' h1 h2 => hK v' w' h1 h2)
              · obtain rfl := Option.some.inj ho
                exact step_load27 rfl ((hs.at rfl 7 (by decide)).trans p7) (unhide B7 W1 hk) (unhide HA) ((unhide HPK).trans hk) (fun v' h1 => hK v' _ h1 (Keeps.refl _ _))
              · obtain rfl := Option.some.inj ho
                exact step_load27 rfl ((hs.at rfl 8 (by decide)).trans p8) (unhide B8 W1 hk) (unhide HB) ((unhide HPK).trans hk) (fun v' h1 => hK v' _ h1 (Keeps.refl _ _))
              · obtain rfl := Option.some.inj ho
                exact step_slice2 rfl rfl rfl (hd ⟨9, .data⟩ (by simp) rfl) (hd ⟨10, .data⟩ (by simp) rfl) (fun v' w' h1 h2 => hK v' w' h1 h2)
              · obtain rfl := Option.some.inj ho
                exact step_call26 (l := a.el (b.el .nil)) rfl rfl (hd ⟨11, .data⟩ (by simp) rfl) (Nat.le_of_ble_eq_true rfl) (fun v' w' h1 h2 => hK v' w' h1 h2)
              · obtain rfl := Option.some.inj ho
                exact step_load27 rfl ((hs.at rfl 7 (by decide)).trans p7) (unhide B7 W1 hk) (unhide HA) ((unhide HPK).trans hk) (fun v' h1 => hK v' _ h1 (Keeps.refl _ _))
              · obtain rfl := Option.some.inj ho
                exact step_load27 rfl ((hs.at rfl 9 (by decide)).trans p9) (unhide B9 W1 hk) (unhide HC) ((unhide HPK).trans hk) (fun v' h1 => hK v' _ h1 (Keeps.refl _ _))
              · obtain rfl := Option.some.inj ho
                exact step_slice2 rfl rfl rfl (hd ⟨13, .data⟩ (by simp) rfl) (hd ⟨14, .data⟩ (by simp) rfl) (fun v' w' h1 h2 => hK v' w' h1 h2)
              · obtain rfl := Option.some.inj ho
                exact step_call26 (l := a.el (c.el .nil)) rfl rfl (hd ⟨15, .data⟩ (by simp) rfl) (Nat.le_of_ble_eq_true rfl) (fun v' w' h1 h2 => hK v' w' h1 h2)
              · obtain rfl := Option.some.inj ho
                exact step_slice2 rfl rfl rfl (hd ⟨12, .data⟩ (by simp) rfl) (hd ⟨16, .data⟩ (by simp) rfl) (fun v' w' h1 h2 => hK v' w' h1 h2)
              · obtain rfl := Option.some.inj ho
                exact step_call26 (l := (mk2 11 a b).el ((mk2 11 a c).el .nil)) rfl rfl (hd ⟨17, .data⟩ (by simp) rfl) (Nat.le_of_ble_eq_true rfl) (fun v' w' h1 h2 => hK v' w' h1 h2)
              · obtain rfl := Option.some.inj ho
                exact step_call25 (x := (mk2 11 a (mk2 9 b c))) (y := (mk2 9 (mk2 11 a b) (mk2 11 a c))) rfl (hd ⟨0, .data⟩ (by simp) rfl) (hd ⟨1, .data⟩ (by simp) rfl) rfl rfl ((unhide HT).keepF ((unhide HPK).trans hk)) ((unhide HFM).keepF ((unhide HPK).trans hk)) ((unhide HFL).keepF ((unhide HPK).trans hk)) ((unhide HVA).keepF ((unhide HPK).trans hk)) (hd ⟨8, .data⟩ (by simp) rfl) (hd ⟨18, .data⟩ (by simp) rfl) (by have := unhide HZ; simp only [mk2, XE.el, EL.size]; omega) (by have := unhide HZ; simp only [mk2, XE.el, EL.size]; omega) ((unhide HLAW).2.2.2.2.1) (fun w' h2 => hK _ _ rfl h2)
              · obtain rfl := Option.some.inj ho
                exact step_assign rfl (hd ⟨19, .data⟩ (by simp) rfl) (hK _ _ rfl (Keeps.refl _ _))
              · simp at ho
            · intro A4 W4 hs hk hall
              have hl := hall 20 (by decide)
              have z4 : A4.tmps.size = 141 := hs.size.trans z3
              have hdef := hs.defers
              have q5 := (hs.at rfl 5 (by decide)).trans p5
              have q6 := (hs.at rfl 6 (by decide)).trans p6
              have q7 := (hs.at rfl 7 (by decide)).trans p7
              have q8 := (hs.at rfl 8 (by decide)).trans p8
              have q9 := (hs.at rfl 9 (by decide)).trans p9
              have q12 := (hs.at rfl 12 (by decide)).trans p12
              have q13 := (hs.at rfl 13 (by decide)).trans p13
              have q14 := (hs.at rfl 14 (by decide)).trans p14
              have q15 := (hs.at rfl 15 (by decide)).trans p15
              have q16 := (hs.at rfl 16 (by decide)).trans p16
              have q17 : A4.tmps.getD 17 undef = .bool true := hl
              have HKN4 := hide hk
              clear hs hk hall hl
              refine hc0 _ _ ?_
              clear hc0
              try clear p5
              try clear p6
              try clear p7
              try clear p8
              try clear p9
              try clear p12
              try clear p13
              try clear p14
              try clear p15
              try clear p16
              try clear p17
              have p5 := q5
              clear q5
              have p6 := q6
              clear q6
              have p7 := q7
              clear q7
              have p8 := q8
              clear q8
              have p9 := q9
              clear q9
              have p12 := q12
              clear q12
              have p13 := q13
              clear q13
              have p14 := q14
              clear q14
              have p15 := q15
              clear q15
              have p16 := q16
              clear q16
              have p17 := q17
              clear q17
              have d4 := hdef.trans d3
              clear hdef d3
              go_wp2_with fail
              rename_i Q0 K0 hc0
              refine wp_region_table (X := X) (by kernel_rfl) [93, 94, 95, 96, 97, 98, 99, 100, 101, 18] (by decide) rfl (by rw [z4]; first | rfl | kernel_rfl | simp [opsB]) (unhide HKN4) (fun i v W1 => match i with | 0 => v = .agg #[(.slice so S.length sc)] | 1 => v = .agg #[.bool h, (.slice uo vals.length uc)] | 2 => isE W1 v a | 3 => isL W1 v (a.el .nil) | 4 => isE W1 v (mk1 8 a) | 5 => isL W1 v ((mk1 8 a).el .nil) | 6 => isE W1 v (mk1 8 (mk1 8 a)) | 7 => isE W1 v a | 8 => v = .bool true | 9 => v = .bool true | _ => True) ?_ ?_ ?_
              · intro i v w1 w2 hq hk
                rcases i with _ | _ | _ | _ | _ | _ | _ | _ | _ | _ | i
                all_goals first | exact hq | exact isE.keep hq hk | exact isL.keep hq hk
              · intro i o A W1 ho hs hk hd K' hK
                skip
                rcases i with _ | _ | _ | _ | _ | _ | _ | _ | _ | _ | i
                · obtain rfl := Option.some.inj ho
                  exact step_load24 rfl ((hs.at rfl 5 (by decide)).trans p5) (unhide B5 W1 hk) (hK _ _ rfl (Keeps.refl _ _))
                · obtain rfl := Option.some.inj ho
                  exact step_load31 rfl ((hs.at rfl 6 (by decide)).trans p6) (unhide B6 W1 hk) (hK _ _ rfl (Keeps.refl _ _))
                · obtain rfl := Option.some.inj ho
                  exact step_load27 rfl ((hs.at rfl 7 (by decide)).trans p7) (unhide B7 W1 hk) (unhide HA) ((unhide HPK).trans hk) (fun v' h1 => hK v' _ h1 (Keeps.refl _ _))
                · obtain rfl := Option.some.inj ho
                  exact step_slice1 rfl rfl (hd ⟨2, .data⟩ (by simp) rfl) (fun v' w' h1 h2 => hK v' w' h1 h2)
                · obtain rfl := Option.some.inj ho
                  exact step_call26 (l := a.el .nil) rfl rfl (hd ⟨3, .data⟩ (by simp) rfl) (Nat.le_of_ble_eq_true rfl) (fun v' w' h1 h2 => hK v' w' h1 h2)
                · obtain rfl := Option.some.inj ho
                  exact step_slice1 rfl rfl (hd ⟨4, .data⟩ (by simp) rfl) (fun v' w' h1 h2 => hK v' w' h1 h2)
                · obtain rfl := Option.some.inj ho
                  exact step_call26 (l := (mk1 8 a).el .nil) rfl rfl (hd ⟨5, .data⟩ (by simp) rfl) (Nat.le_of_ble_eq_true rfl) (fun v' w' h1 h2 => hK v' w' h1 h2)
                · obtain rfl := Option.some.inj ho
                  exact step_load27 rfl ((hs.at rfl 7 (by decide)).trans p7) (unhide B7 W1 hk) (unhide HA) ((unhide HPK).trans hk) (fun v' h1 => hK v' _ h1 (Keeps.refl _ _))
                · obtain rfl := Option.some.inj ho
                  exact step_call25 (x := (mk1 8 (mk1 8 a))) (y := a) rfl (hd ⟨0, .data⟩ (by simp) rfl) (hd ⟨1, .data⟩ (by simp) rfl) rfl rfl ((unhide HT).keepF ((unhide HPK).trans hk)) ((unhide HFM).keepF ((unhide HPK).trans hk)) ((unhide HFL).keepF ((unhide HPK).trans hk)) ((unhide HVA).keepF ((unhide HPK).trans hk)) (hd ⟨6, .data⟩ (by simp) rfl) (hd ⟨7, .data⟩ (by simp) rfl) (by have := unhide HZ; simp only [mk1, XE.el, EL.size]; omega) (by have := unhide HZ; omega) ((unhide HLAW).2.2.2.2.2.1) (fun w' h2 => hK _ _ rfl h2)
                · obtain rfl := Option.some.inj ho
                  exact step_assign rfl (hd ⟨8, .data⟩ (by simp) rfl) (hK _ _ rfl (Keeps.refl _ _))
                · simp at ho
              · intro A5 W5 hs hk hall
                have hl := hall 9 (by decide)
                have z5 : A5.tmps.size = 141 := hs.size.trans z4
                have hdef := hs.defers
                have q5 := (hs.at rfl 5 (by decide)).trans p5
                have q6 := (hs.at rfl 6 (by decide)).trans p6
                have q7 := (hs.at rfl 7 (by decide)).trans p7
                have q8 := (hs.at rfl 8 (by decide)).trans p8
                have q9 := (hs.at rfl 9 (by decide)).trans p9
                have q12 := (hs.at rfl 12 (by decide)).trans p12
                have q13 := (hs.at rfl 13 (by decide)).trans p13
                have q14 := (hs.at rfl 14 (by decide)).trans p14
                have q15 := (hs.at rfl 15 (by decide)).trans p15
                have q16 := (hs.at rfl 16 (by decide)).trans p16
                have q17 := (hs.at rfl 17 (by decide)).trans p17
                have q18 : A5.tmps.getD 18 undef = .bool true := hl
                have HKN5 := hide hk
                clear hs hk hall hl
                refine hc0 _ _ ?_
                clear hc0
                try clear p5
                try clear p6
                try clear p7
                try clear p8
                try clear p9
                try clear p12
                try clear p13
                try clear p14
                try clear p15
                try clear p16
                try clear p17
                try clear p18
                have p5 := q5
                clear q5
                have p6 := q6
                clear q6
                have p7 := q7
                clear q7
                have p8 := q8
                clear q8
                have p9 := q9
                clear q9
                have p12 := q12
                clear q12
                have p13 := q13
                clear q13
                have p14 := q14
                clear q14
                have p15 := q15
                clear q15
                have p16 := q16
                clear q16
                have p17 := q17
                clear q17
                have p18 := q18
                clear q18
                have d5 := hdef.trans d4
                clear hdef d4
                go_wp2_with fail
                rename_i Q0 K0 hc0
                refine wp_region_table (X := X) (by kernel_rfl) [102, 103, 104, 105, 106, 107, 108, 109, 110, 111, 112, 113, 114, 115, 116, 117, 118, 19] (by decide) rfl (by rw [z5]; first | rfl | kernel_rfl | simp [opsB]) (unhide HKN5) (fun i v W1 => match i with | 0 => v = .agg #[(.slice so S.length sc)] | 1 => v = .agg #[.bool h, (.slice uo vals.length uc)] | 2 => isE W1 v a | 3 => isE W1 v b | 4 => isL W1 v (a.el (b.el .nil)) | 5 => isE W1 v (mk2 9 a b) | 6 => isE W1 v c | 7 => isL W1 v ((mk2 9 a b).el (c.el .nil)) | 8 => isE W1 v (mk2 9 (mk2 9 a b) c) | 9 => isE W1 v a | 10 => isE W1 v b | 11 => isE W1 v c | 12 => isL W1 v (b.el (c.el .nil)) | 13 => isE W1 v (mk2 9 b c) | 14 => isL W1 v (a.el ((mk2 9 b c).el .nil)) | 15 => isE W1 v (mk2 9 a (mk2 9 b c)) | 16 => v = .bool true | 17 => v = .bool true | _ => True) ?_ ?_ ?_
                · intro i v w1 w2 hq hk
                  rcases i with _ | _ | _ | _ | _ | _ | _ | _ | _ | _ | _ | _ | _ | _ | _ | _ | _ | _ | i
                  all_goals first | exact hq | exact isE.keep hq hk | exact isL.keep hq hk
                · intro i o A W1 ho hs hk hd K' hK
                  skip
                  rcases i with _ | _ | _ | _ | _ | _ | _ | _ | _ | _ | _ | _ | _ | _ | _ | _ | _ | _ | i
                  · obtain rfl := Option.some.inj ho
                    exact step_load24 rfl ((hs.at rfl 5 (by decide)).trans p5) (unhide B5 W1 hk) (hK _ _ rfl (Keeps.refl _ _))
                  · obtain rfl := Option.some.inj ho
                    exact step_load31 rfl ((hs.at rfl 6 (by decide)).trans p6) (unhide B6 W1 hk) (hK _ _ rfl (Keeps.refl _ _))
                  · obtain rfl := Option.some.inj ho
                    exact step_load27 rfl ((hs.at rfl 7 (by decide)).trans p7) (unhide B7 W1 hk) (unhide HA) ((unhide HPK).trans hk) (fun v' h1 => hK v' _ h1 (Keeps.refl _ _))
                  · obtain rfl := Option.some.inj ho
                    exact step_load27 rfl ((hs.at rfl 8 (by decide)).trans p8) (unhide B8 W1 hk) (unhide HB) ((unhide HPK).trans hk) (fun v' h1 => hK v' _ h1 (Keeps.refl _ _))
                  · obtain rfl := Option.some.inj ho
                    exact step_slice2 rfl rfl rfl (hd ⟨2, .data⟩ (by simp) rfl) (hd ⟨3, .data⟩ (by simp) rfl) (fun v' w' h1 h2 => hK v' w' h1 h2)
                  · obtain rfl := Option.some.inj ho
                    exact step_call26 (l := a.el (b.el .nil)) rfl rfl (hd ⟨4, .data⟩ (by simp) rfl) (Nat.le_of_ble_eq_true rfl) (fun v' w' h1 h2 => hK v' w' h1 h2)
                  · obtain rfl := Option.some.inj ho
                    exact step_load27 rfl ((hs.at rfl 9 (by decide)).trans p9) (unhide B9 W1 hk) (unhide HC) ((unhide HPK).trans hk) (fun v' h1 => hK v' _ h1 (Keeps.refl _ _))
                  · obtain rfl := Option.some.inj ho
                    exact step_slice2 rfl rfl rfl (hd ⟨5, .data⟩ (by simp) rfl) (hd ⟨6, .data⟩ (by simp) rfl) (fun v' w' h1 h2 => hK v' w' h1 h2)
                  · obtain rfl := Option.some.inj ho
                    exact step_call26 (l := (mk2 9 a b).el (c.el .nil)) rfl rfl (hd ⟨7, .data⟩ (by simp) rfl) (Nat.le_of_ble_eq_true rfl) (fun v' w' h1 h2 => hK v' w' h1 h2)
                  · obtain rfl := Option.some.inj ho
                    exact step_load27 rfl ((hs.at rfl 7 (by decide)).trans p7) (unhide B7 W1 hk) (unhide HA) ((unhide HPK).trans hk) (fun v' h1 => hK v' _ h1 (Keeps.refl _ _))
                  · obtain rfl := Option.some.inj ho
                    exact step_load27 rfl ((hs.at rfl 8 (by decide)).trans p8) (unhide B8 W1 hk) (unhide HB) ((unhide HPK).trans hk) (fun v' h1 => hK v' _ h1 (Keeps.refl _ _))
                  · obtain rfl := Option.some.inj ho
                    exact step_load27 rfl ((hs.at rfl 9 (by decide)).trans p9) (unhide B9 W1 hk) (unhide HC) ((unhide HPK).trans hk) (fun v' h1 => hK v' _ h1 (Keeps.refl _ _))
                  · obtain rfl := Option.some.inj ho
                    exact step_slice2 rfl rfl rfl (hd ⟨10, .data⟩ (by simp) rfl) (hd ⟨11, .data⟩ (by simp) rfl) (fun v' w' h1 h2 => hK v' w' h1 h2)
                  · obtain rfl := Option.some.inj ho
                    exact step_call26 (l := b.el (c.el .nil)) rfl rfl (hd ⟨12, .data⟩ (by simp) rfl) (Nat.le_of_ble_eq_true rfl) (fun v' w' h1 h2 => hK v' w' h1 h2)
                  · obtain rfl := Option.some.inj ho
                    exact step_slice2 rfl rfl rfl (hd ⟨9, .data⟩ (by simp) rfl) (hd ⟨13, .data⟩ (by simp) rfl) (fun v' w' h1 h2 => hK v' w' h1 h2)
                  · obtain rfl := Option.some.inj ho
                    exact step_call26 (l := a.el ((mk2 9 b c).el .nil)) rfl rfl (hd ⟨14, .data⟩ (by simp) rfl) (Nat.le_of_ble_eq_true rfl) (fun v' w' h1 h2 => hK v' w' h1 h2)
                  · obtain rfl := Option.some.inj ho
                    exact step_call25 (x := (mk2 9 (mk2 9 a b) c)) (y := (mk2 9 a (mk2 9 b c))) rfl (hd ⟨0, .data⟩ (by simp) rfl) (hd ⟨1, .data⟩ (by simp) rfl) rfl rfl ((unhide HT).keepF ((unhide HPK).trans hk)) ((unhide HFM).keepF ((unhide HPK).trans hk)) ((unhide HFL).keepF ((unhide HPK).trans hk)) ((unhide HVA).keepF ((unhide HPK).trans hk)) (hd ⟨8, .data⟩ (by simp) rfl) (hd ⟨15, .data⟩ (by simp) rfl) (by have := unhide HZ; simp only [mk2, XE.el, EL.size]; omega) (by have := unhide HZ; simp only [mk2, XE.el, EL.size]; omega) ((unhide HLAW).2.2.2.2.2.2) (fun w' h2 => hK _ _ rfl h2)
                  · obtain rfl := Option.some.inj ho
                    exact step_assign rfl (hd ⟨16, .data⟩ (by simp) rfl) (hK _ _ rfl (Keeps.refl _ _))
                  · simp at ho
                · intro A6 W6 hs hk hall
                  have hl := hall 17 (by decide)
                  have z6 : A6.tmps.size = 141 := hs.size.trans z5
                  have hdef := hs.defers
                  have q5 := (hs.at rfl 5 (by decide)).trans p5
                  have q6 := (hs.at rfl 6 (by decide)).trans p6
                  have q7 := (hs.at rfl 7 (by decide)).trans p7
                  have q8 := (hs.at rfl 8 (by decide)).trans p8
                  have q9 := (hs.at rfl 9 (by decide)).trans p9
                  have q12 := (hs.at rfl 12 (by decide)).trans p12
                  have q13 := (hs.at rfl 13 (by decide)).trans p13
                  have q14 := (hs.at rfl 14 (by decide)).trans p14
                  have q15 := (hs.at rfl 15 (by decide)).trans p15
                  have q16 := (hs.at rfl 16 (by decide)).trans p16
                  have q17 := (hs.at rfl 17 (by decide)).trans p17
                  have q18 := (hs.at rfl 18 (by decide)).trans p18
                  have q19 : A6.tmps.getD 19 undef = .bool true := hl
                  have HKN6 := hide hk
                  clear hs hk hall hl
                  refine hc0 _ _ ?_
                  clear hc0
                  try clear p5
                  try clear p6
                  try clear p7
                  try clear p8
                  try clear p9
                  try clear p12
                  try clear p13
                  try clear p14
                  try clear p15
                  try clear p16
                  try clear p17
                  try clear p18
                  try clear p19
                  have p5 := q5
                  clear q5
                  have p6 := q6
                  clear q6
                  have p7 := q7
                  clear q7
                  have p8 := q8
                  clear q8
                  have p9 := q9
                  clear q9
                  have p12 := q12
                  clear q12
                  have p13 := q13
                  clear q13
                  have p14 := q14
                  clear q14
                  have p15 := q15
                  clear q15
                  have p16 := q16
                  clear q16
                  have p17 := q17
                  clear q17
                  have p18 := q18
                  clear q18
                  have p19 := q19
                  clear q19
                  have d6 := hdef.trans d5
                  clear hdef d5
                  have e12 : A6.tmps[12]'(by omega) = .bool true := slot_lt (by omega) p12
                  have e13 : A6.tmps[13]'(by omega) = .bool true := slot_lt (by omega) p13
                  have e14 : A6.tmps[14]'(by omega) = .bool true := slot_lt (by omega) p14
                  have e15 : A6.tmps[15]'(by omega) = .bool true := slot_lt (by omega) p15
                  have e16 : A6.tmps[16]'(by omega) = .bool true := slot_lt (by omega) p16
                  have e17 : A6.tmps[17]'(by omega) = .bool true := slot_lt (by omega) p17
                  have e18 : A6.tmps[18]'(by omega) = .bool true := slot_lt (by omega) p18
                  have e19 : A6.tmps[19]'(by omega) = .bool true := slot_lt (by omega) p19
                  go_wp2_with fail
                  have HE := hide ((unhide HPK).trans (unhide HKN6))
                  refine bodyPost_ret (v := .bool true) (by simp [results, go_sem, z6]) rfl ?_
                  exact ⟨rfl, unhide HE⟩
theorem ring_door (S : List FieldA) (h : Bool) (vals : List ValA) (op n : Int) (s : Txt) (kids : EL) (op2 n2 : Int) (s2 : Txt) (kids2 : EL) (op3 n3 : Int) (s3 : Txt) (kids3 : EL) (sv u av bv cv : Value) (w : World) (hT : Types w) (hF : Forms w) (hf : FldsAt w sv S) (hu : ValsAt w u vals) (ha : SlE (argZ w.heap.size) w 0 av kids) (hb : SlE (argZ w.heap.size) w 0 bv kids2) (hc : SlE (argZ w.heap.size) w 0 cv kids3) (hv : ∀ x ∈ vals, I64 x.n) (hia : I64 n ∧ intE kids) (_ : I64 n2 ∧ intE kids2) (_ : I64 n3 ∧ intE kids3) :
    Calls Tryz.prog 7 #[.agg #[sv], .agg #[.bool h, u], exV op n s av, exV op2 n2 s2 bv, exV op3 n3 s3 cv] w fun e w' => e = .returned (.bool true) ∧ Keeps (fun _ => False) w w' :=
  ring_walk S h vals ⟨op, n, s, kids⟩ ⟨op2, n2, s2, kids2⟩ ⟨op3, n3, s3, kids3⟩ sv u av bv cv w hT hF hf hu ha hb hc hv hia
end Go.Proofs.YtijfnlfgehcpaaaGreatDoor
