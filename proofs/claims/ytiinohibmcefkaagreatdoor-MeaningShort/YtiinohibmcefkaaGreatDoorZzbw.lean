import Derived.Test.YtiinohibmcefkaaGreatDoorZzbv
import Derived.Deep.DeepCutAuto
namespace Go.Proofs.YtiinohibmcefkaaGreatDoor
open Go.RowKit Go.Maps

theorem sz_st1 (k : Int) (nm : Txt) (x : XE) (r : SL) : (st1 k nm x r).size = x.kids.size + r.size + 2 := by
  simp only [st1, SL.size, XE.el, EL.size]
  omega
theorem sz_mk2 (k : Int) (a b : XE) : (mk2 k a b).kids.size = a.kids.size + b.kids.size + 2 := by
  simp only [mk2, XE.el, EL.size]
  omega
theorem sz_plain (f : FieldA) (o : XE) : (plainOrX f o).kids.size ≤ o.kids.size + 2 := by
  unfold plainOrX
  split
  · simp only [sz_mk2, fldX, EL.size]
    omega
  · simp [fldX, EL.size]
theorem fields_short (S : List FieldA) (l : SL) : (fieldsP S l).1.length ≤ 1000 := by
  unfold fieldsP
  split
  · simp
  · rename_i hc
    have hc' : (checkP S l).1 = 0 := Decidable.byContradiction hc
    have h1 := pick_le S (fun s => decide (0 < rdF (flatS l) s))
    have h2 := (schemaB_len (checkP_zero hc').1).2
    simp only
    omega
set_option maxRecDepth 100000 in
set_option maxHeartbeats 16000000 in
theorem short_walk (S : List FieldA) (h : Bool) (vals : List ValA) (fi : Int) (e d : XE) (sv u ev dv : Value) (w : World) (hT : Types w) (hF : Forms w) (hf : FldsAt w sv S) (hu : ValsAt w u vals) (he : SlE (argZ w.heap.size) w 0 ev e.kids) (hd : SlE (argZ w.heap.size) w 0 dv d.kids) (hv : ∀ v ∈ vals, I64 v.n) (hei : e.int) :
    Calls Tryz.prog 4 #[.agg #[sv], .agg #[.bool h, u], .int .i64 fi, exV e.op e.n e.s ev, exV d.op d.n d.s dv] w fun r w' => r = .returned (.bool true) ∧ Keeps (fun _ => False) w w' := by
  have HF0 := hide hf
  obtain ⟨so, sc, rfl⟩ := RowAt.form hf
  obtain ⟨uo, uc, rfl⟩ := RowAt.form hu
  obtain ⟨eo, ec, rfl, _⟩ := he.head
  obtain ⟨dq, dc, rfl, _⟩ := hd.head
  unfold exV
  obtain ⟨X, hX, hkX, g5, g6, g8, g9⟩ := boxA4 w #[.slice so S.length sc] #[.bool h, .slice uo vals.length uc] #[.int .i64 e.op, .int .i64 e.n, str e.s, .slice eo e.kids.len ec] #[.int .i64 d.op, .int .i64 d.n, str d.s, .slice dq d.kids.len dc] 24 31 27 27
  have HPK := hide hkX
  have HNR := hide (near_v _ 0 (e.el (d.el .nil)) (.slice (some ⟨X.heap.size, 0, none⟩) 2 2) (X.alloc (.cells #[.int .i64 e.op, .int .i64 e.n, str e.s, .slice eo e.kids.len ec, .int .i64 d.op, .int .i64 d.n, str d.s, .slice dq d.kids.len dc] 27)) (Nat.le_refl _) (isL_new (w := X) (l := e.el (d.el .nil)) (xs := [.int .i64 e.op, .int .i64 e.n, str e.s, .slice eo e.kids.len ec, .int .i64 d.op, .int .i64 d.n, str d.s, .slice dq d.kids.len dc]) ⟨_, _, rfl, sl_top he hkX, ⟨_, _, rfl, sl_top hd hkX, rfl⟩⟩))
  have HT := hide hT
  have HFM := hide hF
  have HFL := hide hf
  have HVA := hide hu
  have HE := hide he
  have HDX := hide hd
  have HV64 := hide hv
  have HEI := hide hei
  have A5 := hide (fun (W' : World) (hk : Keeps (fun _ => False) X W') => blk_keep g5 hk)
  have A6 := hide (fun (W' : World) (hk : Keeps (fun _ => False) X W') => blk_keep g6 hk)
  have A8 := hide (fun (W' : World) (hk : Keeps (fun _ => False) X W') => blk_keep g8 hk)
  have A9 := hide (fun (W' : World) (hk : Keeps (fun _ => False) X W') => blk_keep g9 hk)
  obtain ⟨c0, c1, c2, c3⟩ := cl4 g8
  obtain ⟨d0, d1, d2, d3⟩ := cl4 g9
  clear hT hF hf hu he hd hv hei g5 g6 g8 g9 hkX
  go_enter Tryz.func4, Tryz.ntmps4
  go_wp2_with fail
  refine (unhide HNR).mono ?_
  rintro r w1 ⟨r1, rfl, hk1, hz1⟩
  have HK1 := hide ((kAlloc X _).trans hk1)
  clear hk1 HNR c0 c1 c2 c3 d0 d1 d2 d3
  cases r1 with
  | true =>
    clear hz1
    go_wp2_with fail
    go_ret
    exact ⟨rfl, (unhide HPK).trans (unhide HK1)⟩
  | false =>
    have HZ : Hid (e.kids.size + d.kids.size ≤ 67108864) := by
      have := hz1 rfl
      simp only [XE.el, EL.size] at this
      exact (by omega : e.kids.size + d.kids.size ≤ 67108864)
    clear hz1
    have HWK := hide (works_v w1 ((unhide HT).keepF ((unhide HPK).trans (unhide HK1))) ((unhide HFM).keepF ((unhide HPK).trans (unhide HK1))))
    go_wp2_with fail
    refine (unhide HWK).mono ?_
    rintro r w2 ⟨rfl, hk2⟩
    have HX2 := hide ((unhide HK1).trans hk2)
    have p0 := cl1 (unhide A5 w2 (unhide HX2))
    clear hk2 HWK HK1
    by_cases hneg : fi < 0
    · have q1 : decide (fi < 0) = true := decide_eq_true hneg
      go_wp2_with fail
      go_ret
      exact ⟨rfl, (unhide HPK).trans (unhide HX2)⟩
    have q1 : decide (fi < 0) = false := decide_eq_false hneg
    by_cases hge : (S.length : Int) ≤ fi
    · have q2 : decide ((S.length : Int) ≤ fi) = true := decide_eq_true hge
      go_wp2_with fail
      go_ret
      exact ⟨rfl, (unhide HPK).trans (unhide HX2)⟩
    have q2 : decide ((S.length : Int) ≤ fi) = false := decide_eq_false hge
    obtain ⟨k, rfl⟩ : ∃ k : Nat, fi = (k : Int) := ⟨fi.toNat, by omega⟩
    have hkl : k < S.length := by omega
    obtain ⟨f, hkf⟩ : ∃ f, S[k]? = some f := ⟨_, List.getElem?_eq_getElem hkl⟩
    have HKF := hide hkf
    obtain ⟨fb, foff, fc, fe, hfb, hfc⟩ := FldsAt.cells (unhide HF0) (by omega)
    simp only [Value.slice.injEq] at fe
    obtain ⟨rfl, _, rfl⟩ := fe
    obtain ⟨f0, f1, f2⟩ := hfc k f hkf
    have hKw := (unhide HPK).trans (unhide HX2)
    replace f0 := (hKw.cell hfb id).trans f0
    replace f1 := (hKw.cell hfb id).trans f1
    replace f2 := (hKw.cell hfb id).trans f2
    have i1 : (k : Int) < (S.length : Int) := by omega
    have i0 : (0 : Int) ≤ (k : Int) := by omega
    obtain ⟨Y1, hY1⟩ : ∃ Y, w2.alloc (.cells #[str f.name, .int .i64 f.type, .bool f.opt] 47) = Y := ⟨_, rfl⟩
    have k1 : Keeps (fun _ => False) w2 Y1 := hY1 ▸ kAlloc w2 _
    have b13 : Y1.heap[w2.heap.size]? = some (.cells #[str f.name, .int .i64 f.type, .bool f.opt] 47 (0, 0)) := hY1 ▸ heap_alloc_new w2 _
    obtain ⟨y0, y1, y2⟩ := cl3 b13
    have HY1 := hide ((unhide HX2).trans k1)
    have A13 := hide b13
    clear hkf hfc hKw k1 b13 HF0
    go_wp2_with fail
    refine (stmt_v 1 f.name Y1).mono ?_
    rintro r w3 ⟨rfl, hk3⟩
    unfold stB
    obtain ⟨Y2, hY2⟩ : ∃ Y, w3.alloc (.cells #[.int .i64 1, str f.name, .slice none 0 0, .slice none 0 0, .slice none 0 0] 39) = Y := ⟨_, rfl⟩
    have k2 : Keeps (fun _ => False) w3 Y2 := hY2 ▸ kAlloc w3 _
    have b14 : Y2.heap[w3.heap.size]? = some (.cells #[.int .i64 1, str f.name, .slice none 0 0, .slice none 0 0, .slice none 0 0] 39 (0, 0)) := hY2 ▸ heap_alloc_new w3 _
    obtain ⟨W0, hW0⟩ : ∃ Y, Y2.alloc (.cells #[.int .i64 1, .int .i64 0, .string ⟨#[]⟩, .slice none 0 0] 27) = Y := ⟨_, rfl⟩
    have k4 : Keeps (fun _ => False) Y2 W0 := hW0 ▸ kAlloc Y2 _
    have s2 : Y2.heap.size = w3.heap.size + 1 := by rw [← hY2]; simp
    have b15 : W0.heap[w3.heap.size + 1]? = some (.cells #[.int .i64 1, .int .i64 0, .string ⟨#[]⟩, .slice none 0 0] 27 (0, 0)) := by rw [← s2]; exact hW0 ▸ heap_alloc_new Y2 _
    have HX0 := hide (((unhide HY1).trans hk3).trans (k2.trans k4))
    have KW0 := hide ((unhide HPK).trans (unhide HX0))
    have B5 := hide (fun (W' : World) (hk : Keeps (fun _ => False) W0 W') => unhide A5 W' ((unhide HX0).trans hk))
    have B6 := hide (fun (W' : World) (hk : Keeps (fun _ => False) W0 W') => unhide A6 W' ((unhide HX0).trans hk))
    have B8 := hide (fun (W' : World) (hk : Keeps (fun _ => False) W0 W') => unhide A8 W' ((unhide HX0).trans hk))
    have B9 := hide (fun (W' : World) (hk : Keeps (fun _ => False) W0 W') => unhide A9 W' ((unhide HX0).trans hk))
    have B13 := hide (fun (W' : World) (hk : Keeps (fun _ => False) W0 W') => blk_keep (unhide A13) ((hk3.trans (k2.trans k4)).trans hk))
    have B14 := hide (fun (W' : World) (hk : Keeps (fun _ => False) W0 W') => blk_keep b14 (k4.trans hk))
    have B15 := hide (fun (W' : World) (hk : Keeps (fun _ => False) W0 W') => blk_keep b15 hk)
    have HK0 := hide (Keeps.refl (fun _ => False) W0)
    have HKX := hide (Keeps.refl (fun _ => False) W0)
    have HW0 : Hid ((w3.alloc (.cells #[.int .i64 1, str f.name, .slice none 0 0, .slice none 0 0, .slice none 0 0] 39)).alloc (.cells #[.int .i64 1, .int .i64 0, .string ⟨#[]⟩, .slice none 0 0] 27) = W0) := by rw [hY2]; exact hW0
    clear hk3 k2 k4 b14 b15 y0 y1 y2 f0 f1 f2 p0 q1 q2 hneg hge hfb A5 A6 A8 A9 A13 HX2 HY1 s2 hW0 hY2 hY1
    skip
    go_upto_region 10 with fail
    rename_i Q0 K0 hc0
    refine wp_region_table (X := W0) (by kernel_rfl) [55, 56, 57, 58, 59, 60, 16] (by decide) rfl (by first | rfl | kernel_rfl | simp [opsB]) (by rw [← unhide HW0]; exact Keeps.refl _ _) (fun i v W1 => match i with | 0 => v = .pointer (some ⟨w2.heap.size, 0, none⟩) | 1 => v = str f.name | 2 => v = stB 2 f.name | 3 => isE W1 v e | 4 => isS1 W1 v 2 f.name e | 5 => isP W1 v (st1 2 f.name e .nil) | 6 => isP W1 v (st1 2 f.name e .nil) | _ => True) ?_ ?_ ?_
    · intro i v w1 w2 hq hk
      rcases i with _ | _ | _ | _ | _ | _ | _ | i
      all_goals first | exact hq | exact isE.keep hq hk | exact isL.keep hq hk | exact isP.keep hq hk | exact isS1.keep hq hk | exact isFd.keep hq hk | exact RowAt.keepF hq hk
    · intro i o A W1 ho hs hk hd K' hK
      rcases i with _ | _ | _ | _ | _ | _ | _ | i
      · obtain rfl := Option.some.inj ho
        exact step_fieldF0 rfl ((hs.at rfl 13 (by decide)).trans rfl) (hK _ _ rfl (Keeps.refl _ _))
      · obtain rfl := Option.some.inj ho
        exact step_load9 rfl (hd ⟨0, .data⟩ (by simp) rfl) (cl3 (unhide B13 W1 ((unhide HK0).trans hk))).1 (hK _ _ rfl (Keeps.refl _ _))
      · obtain rfl := Option.some.inj ho
        exact step_c15 rfl (hd ⟨1, .data⟩ (by simp) rfl) (fun w' q => hK _ w' rfl q)
      · obtain rfl := Option.some.inj ho
        exact step_load27 rfl ((hs.at rfl 8 (by decide)).trans rfl) (unhide B8 W1 ((unhide HK0).trans hk)) (unhide HE) ((unhide KW0).trans ((unhide HK0).trans hk)) (fun v' q => hK v' _ q (Keeps.refl _ _))
      · obtain rfl := Option.some.inj ho
        exact step_c16 rfl (hd ⟨2, .data⟩ (by simp) rfl) (hd ⟨3, .data⟩ (by simp) rfl) (fun v' w' q1 q2 => hK v' w' q1 q2)
      · obtain rfl := Option.some.inj ho
        exact step_p1 rfl (hd ⟨4, .data⟩ (by simp) rfl) (fun v' w' q1 q2 => hK v' w' q1 q2)
      · obtain rfl := Option.some.inj ho
        exact step_assign rfl rfl (hK _ _ (hd ⟨5, .data⟩ (by simp) rfl) (Keeps.refl _ _))
      · simp at ho
    · intro A V10 hs hk hall
      have h16 : isP V10 (A.tmps.getD 16 undef) (st1 2 f.name e .nil) := hall 6 (by decide)
      have h16' := h16
      obtain ⟨ao, ac, ab, aoff, e16, hac, ha16, hst⟩ := SlS.open h16
      obtain ⟨rfl, _⟩ := ha16 (by simp [st1, SL.len])
      rw [show (st1 2 f.name e .nil).len = 1 from rfl] at e16
      rw [e16] at h16'
      obtain ⟨ib, _, c0, c1, ⟨xv, c2, hxv⟩, ⟨ta, tcp, c3, _, _⟩, ⟨ea, ecp, c4, _, _⟩, _⟩ := hst
      have HA16 := hide (fun (W' : World) (q : Keeps (fun _ => False) V10 W') => (⟨(q.cell ib id).trans c0, (q.cell ib id).trans c1, (q.cell ib id).trans c2, (q.cell ib id).trans c3, (q.cell ib id).trans c4, (show isL V10 xv (e.el .nil) from hxv.argUp (Nat.le_refl _) 0).keep q⟩ : W'.cell? ⟨ab, aoff, none⟩ = some (.int .i64 2) ∧ W'.cell? ⟨ab, aoff + 1, none⟩ = some (str f.name) ∧ W'.cell? ⟨ab, aoff + 2, none⟩ = some xv ∧ W'.cell? ⟨ab, aoff + 3, none⟩ = some (.slice ta SL.nil.len tcp) ∧ W'.cell? ⟨ab, aoff + 4, none⟩ = some (.slice ea SL.nil.len ecp) ∧ isL W' xv (e.el .nil)))
      have HP16 := hide h16'
      have HK1 := hide ((unhide HK0).trans hk)
      refine hc0 _ _ ?_
      have hA := same_fold hs rfl
      simp only [List.foldl_cons, List.foldl_nil, e16] at hA
      simp only [Act.put, List.setIfInBounds_toArray, List.set_cons_zero, List.set_cons_succ] at hA
      rw [hA]
      generalize A.tmps.getD 55 undef = x55
      generalize A.tmps.getD 56 undef = x56
      generalize A.tmps.getD 57 undef = x57
      generalize A.tmps.getD 58 undef = x58
      generalize A.tmps.getD 59 undef = x59
      generalize A.tmps.getD 60 undef = x60
      clear hs hall hA hk hc0 HK0 HKX h16 h16' e16 c0 c1 c2 c3 c4 hxv hac ha16
      have HK0 := HK1
      clear HK1
      have HKX := hide (Keeps.refl (fun _ => False) V10)
      go_upto_region 11 with fail
      rename_i Q0 K0 hc0
      refine wp_region_table (X := V10) (by kernel_rfl) [61, 62, 63, 64, 65, 66, 67, 68, 69, 70, 71, 72, 73, 17] (by decide) rfl (by first | rfl | kernel_rfl | simp [opsB]) (unhide HKX) (fun i v W1 => match i with | 0 => v = .agg #[.slice (some ⟨fb, foff, none⟩) S.length sc] | 1 => v = .agg #[.bool h, .slice uo vals.length uc] | 2 => isP W1 v (st1 2 f.name e .nil) | 3 => v = stB 1 f.name | 4 => v = .agg #[str f.name, .int .i64 f.type, .bool f.opt] | 5 => isE W1 v zeroX | 6 => isE W1 v (plainOrX f zeroX) | 7 => isE W1 v e | 8 => isL W1 v ((plainOrX f zeroX).el (e.el .nil)) | 9 => isE W1 v (mk2 9 (plainOrX f zeroX) e) | 10 => isS1 W1 v 1 f.name (mk2 9 (plainOrX f zeroX) e) | 11 => isP W1 v (st1 1 f.name (mk2 9 (plainOrX f zeroX) e) .nil) | 12 => v = .bool true | 13 => v = .bool true | _ => True) ?_ ?_ ?_
      · intro i v w1 w2 hq hk
        rcases i with _ | _ | _ | _ | _ | _ | _ | _ | _ | _ | _ | _ | _ | _ | i
        all_goals first | exact hq | exact isE.keep hq hk | exact isL.keep hq hk | exact isP.keep hq hk | exact isS1.keep hq hk | exact isFd.keep hq hk | exact RowAt.keepF hq hk
      · intro i o A W1 ho hs hk hd K' hK
        rcases i with _ | _ | _ | _ | _ | _ | _ | _ | _ | _ | _ | _ | _ | _ | i
        · obtain rfl := Option.some.inj ho
          exact step_load24 rfl ((hs.at rfl 5 (by decide)).trans rfl) (unhide B5 W1 ((unhide HK0).trans hk)) (hK _ _ rfl (Keeps.refl _ _))
        · obtain rfl := Option.some.inj ho
          exact step_load31 rfl ((hs.at rfl 6 (by decide)).trans rfl) (unhide B6 W1 ((unhide HK0).trans hk)) (hK _ _ rfl (Keeps.refl _ _))
        · obtain rfl := Option.some.inj ho
          exact step_move rfl ((hs.at rfl 16 (by decide)).trans rfl) (hK _ _ ((unhide HP16).keep hk) (Keeps.refl _ _))
        · obtain rfl := Option.some.inj ho
          exact step_load39b rfl ((hs.at rfl 14 (by decide)).trans rfl) (unhide B14 W1 ((unhide HK0).trans hk)) (hK _ _ rfl (Keeps.refl _ _))
        · obtain rfl := Option.some.inj ho
          exact step_load47 rfl ((hs.at rfl 13 (by decide)).trans rfl) (unhide B13 W1 ((unhide HK0).trans hk)) (hK _ _ rfl (Keeps.refl _ _))
        · obtain rfl := Option.some.inj ho
          exact step_load27 (e := zeroX) rfl ((hs.at rfl 15 (by decide)).trans rfl) (unhide B15 W1 ((unhide HK0).trans hk)) (slE_nil (argZ 0) w 0) ((unhide KW0).trans ((unhide HK0).trans hk)) (fun v' q => hK v' _ q (Keeps.refl _ _))
        · obtain rfl := Option.some.inj ho
          exact step_c19 (f := f) rfl (hd ⟨4, .data⟩ (by simp) rfl) (hd ⟨5, .data⟩ (by simp) rfl) (fun v' w' q1 q2 => hK v' w' q1 q2)
        · obtain rfl := Option.some.inj ho
          exact step_load27 rfl ((hs.at rfl 8 (by decide)).trans rfl) (unhide B8 W1 ((unhide HK0).trans hk)) (unhide HE) ((unhide KW0).trans ((unhide HK0).trans hk)) (fun v' q => hK v' _ q (Keeps.refl _ _))
        · obtain rfl := Option.some.inj ho
          exact step_slice2 rfl rfl rfl (hd ⟨6, .data⟩ (by simp) rfl) (hd ⟨7, .data⟩ (by simp) rfl) (fun v' w' q1 q2 => hK v' w' q1 q2)
        · obtain rfl := Option.some.inj ho
          exact step_call26 rfl rfl (hd ⟨8, .data⟩ (by simp) rfl) (by simp [XE.el, EL.len]) (fun v' w' q1 q2 => hK v' w' q1 q2)
        · obtain rfl := Option.some.inj ho
          exact step_c16 rfl (hd ⟨3, .data⟩ (by simp) rfl) (hd ⟨9, .data⟩ (by simp) rfl) (fun v' w' q1 q2 => hK v' w' q1 q2)
        · obtain rfl := Option.some.inj ho
          exact step_p1 rfl (hd ⟨10, .data⟩ (by simp) rfl) (fun v' w' q1 q2 => hK v' w' q1 q2)
        · obtain rfl := Option.some.inj ho
          exact step_c17 rfl (hd ⟨0, .data⟩ (by simp) rfl) (hd ⟨1, .data⟩ (by simp) rfl) (hd ⟨2, .data⟩ (by simp) rfl) (hd ⟨11, .data⟩ (by simp) rfl) (by have := unhide HZ; simp only [sz_st1, SL.size]; (try have := sz_plain f zeroX); (try have := sz_plain f e); simp only [zeroX, EL.size] at *; omega) (by have := unhide HZ; simp only [sz_st1, sz_mk2, SL.size]; (try have := sz_plain f zeroX); (try have := sz_plain f e); simp only [zeroX, EL.size] at *; omega) ((unhide HT).keepF ((unhide KW0).trans ((unhide HK0).trans hk))) ((unhide HFM).keepF ((unhide KW0).trans ((unhide HK0).trans hk))) ((unhide HFL).keepF ((unhide KW0).trans ((unhide HK0).trans hk))) ((unhide HVA).keepF ((unhide KW0).trans ((unhide HK0).trans hk))) (short_one (unhide HV64) (unhide HKF) (unhide HEI)) (fun w' q => hK _ w' rfl q)
        · obtain rfl := Option.some.inj ho
          exact step_assign rfl rfl (hK _ _ (hd ⟨12, .data⟩ (by simp) rfl) (Keeps.refl _ _))
        · simp at ho
      · intro A V11 hs hk hall
        have e17 : A.tmps.getD 17 undef = .bool true := hall 13 (by decide)
        refine hc0 _ _ ?_
        have hA := same_fold hs rfl
        simp only [List.foldl_cons, List.foldl_nil, e17] at hA
        simp only [Act.put, List.setIfInBounds_toArray, List.set_cons_zero, List.set_cons_succ] at hA
        rw [hA]
        generalize A.tmps.getD 61 undef = x61
        generalize A.tmps.getD 62 undef = x62
        generalize A.tmps.getD 63 undef = x63
        generalize A.tmps.getD 64 undef = x64
        generalize A.tmps.getD 65 undef = x65
        generalize A.tmps.getD 66 undef = x66
        generalize A.tmps.getD 67 undef = x67
        generalize A.tmps.getD 68 undef = x68
        generalize A.tmps.getD 69 undef = x69
        generalize A.tmps.getD 70 undef = x70
        generalize A.tmps.getD 71 undef = x71
        generalize A.tmps.getD 72 undef = x72
        generalize A.tmps.getD 73 undef = x73
        clear e17
        have HK1 := hide ((unhide HK0).trans hk)
        have HP1 := hide ((unhide HP16).keep hk)
        have HA1 := hide (fun (W' : World) (q : Keeps (fun _ => False) V11 W') => unhide HA16 W' (hk.trans q))
        clear hs hall hA hk hc0 HK0 HKX HP16 HA16
        have HK0 := HK1
        have HP16 := HP1
        have HA16 := HA1
        have HKX := hide (Keeps.refl (fun _ => False) V11)
        clear HK1 HP1 HA1
        go_upto_region 12 with fail
        rename_i Q0 K0 hc0
        refine wp_region_table (X := V11) (by kernel_rfl) [74, 75, 76, 77, 78, 79, 80, 81, 82, 83, 84, 85, 86, 87, 88, 89, 90, 91, 18] (by decide) rfl (by first | rfl | kernel_rfl | simp [opsB]) (unhide HKX) (fun i v W1 => match i with | 0 => v = .agg #[.slice (some ⟨fb, foff, none⟩) S.length sc] | 1 => v = .agg #[.bool h, .slice uo vals.length uc] | 2 => v = .pointer (some ⟨w2.heap.size, 0, none⟩) | 3 => v = str f.name | 4 => v = stB 3 f.name | 5 => isE W1 v e | 6 => isS1 W1 v 3 f.name e | 7 => isP W1 v (st1 3 f.name e .nil) | 8 => v = stB 1 f.name | 9 => v = .agg #[str f.name, .int .i64 f.type, .bool f.opt] | 10 => isE W1 v e | 11 => isE W1 v (plainOrX f e) | 12 => isE W1 v e | 13 => isL W1 v ((plainOrX f e).el (e.el .nil)) | 14 => isE W1 v (mk2 21 (plainOrX f e) e) | 15 => isS1 W1 v 1 f.name (mk2 21 (plainOrX f e) e) | 16 => isP W1 v (st1 1 f.name (mk2 21 (plainOrX f e) e) .nil) | 17 => v = .bool true | 18 => v = .bool true | _ => True) ?_ ?_ ?_
        · intro i v w1 w2 hq hk
          rcases i with _ | _ | _ | _ | _ | _ | _ | _ | _ | _ | _ | _ | _ | _ | _ | _ | _ | _ | _ | i
          all_goals first | exact hq | exact isE.keep hq hk | exact isL.keep hq hk | exact isP.keep hq hk | exact isS1.keep hq hk | exact isFd.keep hq hk | exact RowAt.keepF hq hk
        · intro i o A W1 ho hs hk hd K' hK
          rcases i with _ | _ | _ | _ | _ | _ | _ | _ | _ | _ | _ | _ | _ | _ | _ | _ | _ | _ | _ | i
          · obtain rfl := Option.some.inj ho
            exact step_load24 rfl ((hs.at rfl 5 (by decide)).trans rfl) (unhide B5 W1 ((unhide HK0).trans hk)) (hK _ _ rfl (Keeps.refl _ _))
          · obtain rfl := Option.some.inj ho
            exact step_load31 rfl ((hs.at rfl 6 (by decide)).trans rfl) (unhide B6 W1 ((unhide HK0).trans hk)) (hK _ _ rfl (Keeps.refl _ _))
          · obtain rfl := Option.some.inj ho
            exact step_fieldF0 rfl ((hs.at rfl 13 (by decide)).trans rfl) (hK _ _ rfl (Keeps.refl _ _))
          · obtain rfl := Option.some.inj ho
            exact step_load9 rfl (hd ⟨2, .data⟩ (by simp) rfl) (cl3 (unhide B13 W1 ((unhide HK0).trans hk))).1 (hK _ _ rfl (Keeps.refl _ _))
          · obtain rfl := Option.some.inj ho
            exact step_c15 rfl (hd ⟨3, .data⟩ (by simp) rfl) (fun w' q => hK _ w' rfl q)
          · obtain rfl := Option.some.inj ho
            exact step_load27 rfl ((hs.at rfl 8 (by decide)).trans rfl) (unhide B8 W1 ((unhide HK0).trans hk)) (unhide HE) ((unhide KW0).trans ((unhide HK0).trans hk)) (fun v' q => hK v' _ q (Keeps.refl _ _))
          · obtain rfl := Option.some.inj ho
            exact step_c16 rfl (hd ⟨4, .data⟩ (by simp) rfl) (hd ⟨5, .data⟩ (by simp) rfl) (fun v' w' q1 q2 => hK v' w' q1 q2)
          · obtain rfl := Option.some.inj ho
            exact step_p1 rfl (hd ⟨6, .data⟩ (by simp) rfl) (fun v' w' q1 q2 => hK v' w' q1 q2)
          · obtain rfl := Option.some.inj ho
            exact step_load39b rfl ((hs.at rfl 14 (by decide)).trans rfl) (unhide B14 W1 ((unhide HK0).trans hk)) (hK _ _ rfl (Keeps.refl _ _))
          · obtain rfl := Option.some.inj ho
            exact step_load47 rfl ((hs.at rfl 13 (by decide)).trans rfl) (unhide B13 W1 ((unhide HK0).trans hk)) (hK _ _ rfl (Keeps.refl _ _))
          · obtain rfl := Option.some.inj ho
            exact step_load27 rfl ((hs.at rfl 8 (by decide)).trans rfl) (unhide B8 W1 ((unhide HK0).trans hk)) (unhide HE) ((unhide KW0).trans ((unhide HK0).trans hk)) (fun v' q => hK v' _ q (Keeps.refl _ _))
          · obtain rfl := Option.some.inj ho
            exact step_c19 (f := f) rfl (hd ⟨9, .data⟩ (by simp) rfl) (hd ⟨10, .data⟩ (by simp) rfl) (fun v' w' q1 q2 => hK v' w' q1 q2)
          · obtain rfl := Option.some.inj ho
            exact step_load27 rfl ((hs.at rfl 8 (by decide)).trans rfl) (unhide B8 W1 ((unhide HK0).trans hk)) (unhide HE) ((unhide KW0).trans ((unhide HK0).trans hk)) (fun v' q => hK v' _ q (Keeps.refl _ _))
          · obtain rfl := Option.some.inj ho
            exact step_slice2 rfl rfl rfl (hd ⟨11, .data⟩ (by simp) rfl) (hd ⟨12, .data⟩ (by simp) rfl) (fun v' w' q1 q2 => hK v' w' q1 q2)
          · obtain rfl := Option.some.inj ho
            exact step_call26 rfl rfl (hd ⟨13, .data⟩ (by simp) rfl) (by simp [XE.el, EL.len]) (fun v' w' q1 q2 => hK v' w' q1 q2)
          · obtain rfl := Option.some.inj ho
            exact step_c16 rfl (hd ⟨8, .data⟩ (by simp) rfl) (hd ⟨14, .data⟩ (by simp) rfl) (fun v' w' q1 q2 => hK v' w' q1 q2)
          · obtain rfl := Option.some.inj ho
            exact step_p1 rfl (hd ⟨15, .data⟩ (by simp) rfl) (fun v' w' q1 q2 => hK v' w' q1 q2)
          · obtain rfl := Option.some.inj ho
            exact step_c17 rfl (hd ⟨0, .data⟩ (by simp) rfl) (hd ⟨1, .data⟩ (by simp) rfl) (hd ⟨7, .data⟩ (by simp) rfl) (hd ⟨16, .data⟩ (by simp) rfl) (by have := unhide HZ; simp only [sz_st1, SL.size]; (try have := sz_plain f zeroX); (try have := sz_plain f e); simp only [zeroX, EL.size] at *; omega) (by have := unhide HZ; simp only [sz_st1, sz_mk2, SL.size]; (try have := sz_plain f zeroX); (try have := sz_plain f e); simp only [zeroX, EL.size] at *; omega) ((unhide HT).keepF ((unhide KW0).trans ((unhide HK0).trans hk))) ((unhide HFM).keepF ((unhide KW0).trans ((unhide HK0).trans hk))) ((unhide HFL).keepF ((unhide KW0).trans ((unhide HK0).trans hk))) ((unhide HVA).keepF ((unhide KW0).trans ((unhide HK0).trans hk))) (short_two (unhide HKF) (Or.inl ⟨rfl, rfl⟩)) (fun w' q => hK _ w' rfl q)
          · obtain rfl := Option.some.inj ho
            exact step_assign rfl rfl (hK _ _ (hd ⟨17, .data⟩ (by simp) rfl) (Keeps.refl _ _))
          · simp at ho
        · intro A V12 hs hk hall
          have e18 : A.tmps.getD 18 undef = .bool true := hall 18 (by decide)
          refine hc0 _ _ ?_
          have hA := same_fold hs rfl
          simp only [List.foldl_cons, List.foldl_nil, e18] at hA
          simp only [Act.put, List.setIfInBounds_toArray, List.set_cons_zero, List.set_cons_succ] at hA
          rw [hA]
          generalize A.tmps.getD 74 undef = x74
          generalize A.tmps.getD 75 undef = x75
          generalize A.tmps.getD 76 undef = x76
          generalize A.tmps.getD 77 undef = x77
          generalize A.tmps.getD 78 undef = x78
          generalize A.tmps.getD 79 undef = x79
          generalize A.tmps.getD 80 undef = x80
          generalize A.tmps.getD 81 undef = x81
          generalize A.tmps.getD 82 undef = x82
          generalize A.tmps.getD 83 undef = x83
          generalize A.tmps.getD 84 undef = x84
          generalize A.tmps.getD 85 undef = x85
          generalize A.tmps.getD 86 undef = x86
          generalize A.tmps.getD 87 undef = x87
          generalize A.tmps.getD 88 undef = x88
          generalize A.tmps.getD 89 undef = x89
          generalize A.tmps.getD 90 undef = x90
          generalize A.tmps.getD 91 undef = x91
          clear e18
          have HK1 := hide ((unhide HK0).trans hk)
          have HP1 := hide ((unhide HP16).keep hk)
          have HA1 := hide (fun (W' : World) (q : Keeps (fun _ => False) V12 W') => unhide HA16 W' (hk.trans q))
          clear hs hall hA hk hc0 HK0 HKX HP16 HA16
          have HK0 := HK1
          have HP16 := HP1
          have HA16 := HA1
          have HKX := hide (Keeps.refl (fun _ => False) V12)
          clear HK1 HP1 HA1
          go_upto_region 13 with fail
          rename_i Q0 K0 hc0
          refine wp_region_table (X := V12) (by kernel_rfl) [92, 93, 94, 95, 96, 97, 98, 99, 100, 101, 102, 103, 104, 105, 106, 107, 108, 109, 19] (by decide) rfl (by first | rfl | kernel_rfl | simp [opsB]) (unhide HKX) (fun i v W1 => match i with | 0 => v = .agg #[.slice (some ⟨fb, foff, none⟩) S.length sc] | 1 => v = .agg #[.bool h, .slice uo vals.length uc] | 2 => v = .pointer (some ⟨w2.heap.size, 0, none⟩) | 3 => v = str f.name | 4 => v = stB 4 f.name | 5 => isE W1 v e | 6 => isS1 W1 v 4 f.name e | 7 => isP W1 v (st1 4 f.name e .nil) | 8 => v = stB 1 f.name | 9 => v = .agg #[str f.name, .int .i64 f.type, .bool f.opt] | 10 => isE W1 v e | 11 => isE W1 v (plainOrX f e) | 12 => isE W1 v e | 13 => isL W1 v ((plainOrX f e).el (e.el .nil)) | 14 => isE W1 v (mk2 22 (plainOrX f e) e) | 15 => isS1 W1 v 1 f.name (mk2 22 (plainOrX f e) e) | 16 => isP W1 v (st1 1 f.name (mk2 22 (plainOrX f e) e) .nil) | 17 => v = .bool true | 18 => v = .bool true | _ => True) ?_ ?_ ?_
          · intro i v w1 w2 hq hk
            rcases i with _ | _ | _ | _ | _ | _ | _ | _ | _ | _ | _ | _ | _ | _ | _ | _ | _ | _ | _ | i
            all_goals first | exact hq | exact isE.keep hq hk | exact isL.keep hq hk | exact isP.keep hq hk | exact isS1.keep hq hk | exact isFd.keep hq hk | exact RowAt.keepF hq hk
          · intro i o A W1 ho hs hk hd K' hK
            rcases i with _ | _ | _ | _ | _ | _ | _ | _ | _ | _ | _ | _ | _ | _ | _ | _ | _ | _ | _ | i
            · obtain rfl := Option.some.inj ho
              exact step_load24 rfl ((hs.at rfl 5 (by decide)).trans rfl) (unhide B5 W1 ((unhide HK0).trans hk)) (hK _ _ rfl (Keeps.refl _ _))
            · obtain rfl := Option.some.inj ho
              exact step_load31 rfl ((hs.at rfl 6 (by decide)).trans rfl) (unhide B6 W1 ((unhide HK0).trans hk)) (hK _ _ rfl (Keeps.refl _ _))
            · obtain rfl := Option.some.inj ho
              exact step_fieldF0 rfl ((hs.at rfl 13 (by decide)).trans rfl) (hK _ _ rfl (Keeps.refl _ _))
            · obtain rfl := Option.some.inj ho
              exact step_load9 rfl (hd ⟨2, .data⟩ (by simp) rfl) (cl3 (unhide B13 W1 ((unhide HK0).trans hk))).1 (hK _ _ rfl (Keeps.refl _ _))
            · obtain rfl := Option.some.inj ho
              exact step_c15 rfl (hd ⟨3, .data⟩ (by simp) rfl) (fun w' q => hK _ w' rfl q)
            · obtain rfl := Option.some.inj ho
              exact step_load27 rfl ((hs.at rfl 8 (by decide)).trans rfl) (unhide B8 W1 ((unhide HK0).trans hk)) (unhide HE) ((unhide KW0).trans ((unhide HK0).trans hk)) (fun v' q => hK v' _ q (Keeps.refl _ _))
            · obtain rfl := Option.some.inj ho
              exact step_c16 rfl (hd ⟨4, .data⟩ (by simp) rfl) (hd ⟨5, .data⟩ (by simp) rfl) (fun v' w' q1 q2 => hK v' w' q1 q2)
            · obtain rfl := Option.some.inj ho
              exact step_p1 rfl (hd ⟨6, .data⟩ (by simp) rfl) (fun v' w' q1 q2 => hK v' w' q1 q2)
            · obtain rfl := Option.some.inj ho
              exact step_load39b rfl ((hs.at rfl 14 (by decide)).trans rfl) (unhide B14 W1 ((unhide HK0).trans hk)) (hK _ _ rfl (Keeps.refl _ _))
            · obtain rfl := Option.some.inj ho
              exact step_load47 rfl ((hs.at rfl 13 (by decide)).trans rfl) (unhide B13 W1 ((unhide HK0).trans hk)) (hK _ _ rfl (Keeps.refl _ _))
            · obtain rfl := Option.some.inj ho
              exact step_load27 rfl ((hs.at rfl 8 (by decide)).trans rfl) (unhide B8 W1 ((unhide HK0).trans hk)) (unhide HE) ((unhide KW0).trans ((unhide HK0).trans hk)) (fun v' q => hK v' _ q (Keeps.refl _ _))
            · obtain rfl := Option.some.inj ho
              exact step_c19 (f := f) rfl (hd ⟨9, .data⟩ (by simp) rfl) (hd ⟨10, .data⟩ (by simp) rfl) (fun v' w' q1 q2 => hK v' w' q1 q2)
            · obtain rfl := Option.some.inj ho
              exact step_load27 rfl ((hs.at rfl 8 (by decide)).trans rfl) (unhide B8 W1 ((unhide HK0).trans hk)) (unhide HE) ((unhide KW0).trans ((unhide HK0).trans hk)) (fun v' q => hK v' _ q (Keeps.refl _ _))
            · obtain rfl := Option.some.inj ho
              exact step_slice2 rfl rfl rfl (hd ⟨11, .data⟩ (by simp) rfl) (hd ⟨12, .data⟩ (by simp) rfl) (fun v' w' q1 q2 => hK v' w' q1 q2)
            · obtain rfl := Option.some.inj ho
              exact step_call26 rfl rfl (hd ⟨13, .data⟩ (by simp) rfl) (by simp [XE.el, EL.len]) (fun v' w' q1 q2 => hK v' w' q1 q2)
            · obtain rfl := Option.some.inj ho
              exact step_c16 rfl (hd ⟨8, .data⟩ (by simp) rfl) (hd ⟨14, .data⟩ (by simp) rfl) (fun v' w' q1 q2 => hK v' w' q1 q2)
            · obtain rfl := Option.some.inj ho
              exact step_p1 rfl (hd ⟨15, .data⟩ (by simp) rfl) (fun v' w' q1 q2 => hK v' w' q1 q2)
            · obtain rfl := Option.some.inj ho
              exact step_c17 rfl (hd ⟨0, .data⟩ (by simp) rfl) (hd ⟨1, .data⟩ (by simp) rfl) (hd ⟨7, .data⟩ (by simp) rfl) (hd ⟨16, .data⟩ (by simp) rfl) (by have := unhide HZ; simp only [sz_st1, SL.size]; (try have := sz_plain f zeroX); (try have := sz_plain f e); simp only [zeroX, EL.size] at *; omega) (by have := unhide HZ; simp only [sz_st1, sz_mk2, SL.size]; (try have := sz_plain f zeroX); (try have := sz_plain f e); simp only [zeroX, EL.size] at *; omega) ((unhide HT).keepF ((unhide KW0).trans ((unhide HK0).trans hk))) ((unhide HFM).keepF ((unhide KW0).trans ((unhide HK0).trans hk))) ((unhide HFL).keepF ((unhide KW0).trans ((unhide HK0).trans hk))) ((unhide HVA).keepF ((unhide KW0).trans ((unhide HK0).trans hk))) (short_two (unhide HKF) (Or.inr ⟨rfl, rfl⟩)) (fun w' q => hK _ w' rfl q)
            · obtain rfl := Option.some.inj ho
              exact step_assign rfl rfl (hK _ _ (hd ⟨17, .data⟩ (by simp) rfl) (Keeps.refl _ _))
            · simp at ho
          · intro A V13 hs hk hall
            have e19 : A.tmps.getD 19 undef = .bool true := hall 18 (by decide)
            refine hc0 _ _ ?_
            have hA := same_fold hs rfl
            simp only [List.foldl_cons, List.foldl_nil, e19] at hA
            simp only [Act.put, List.setIfInBounds_toArray, List.set_cons_zero, List.set_cons_succ] at hA
            rw [hA]
            generalize A.tmps.getD 92 undef = x92
            generalize A.tmps.getD 93 undef = x93
            generalize A.tmps.getD 94 undef = x94
            generalize A.tmps.getD 95 undef = x95
            generalize A.tmps.getD 96 undef = x96
            generalize A.tmps.getD 97 undef = x97
            generalize A.tmps.getD 98 undef = x98
            generalize A.tmps.getD 99 undef = x99
            generalize A.tmps.getD 100 undef = x100
            generalize A.tmps.getD 101 undef = x101
            generalize A.tmps.getD 102 undef = x102
            generalize A.tmps.getD 103 undef = x103
            generalize A.tmps.getD 104 undef = x104
            generalize A.tmps.getD 105 undef = x105
            generalize A.tmps.getD 106 undef = x106
            generalize A.tmps.getD 107 undef = x107
            generalize A.tmps.getD 108 undef = x108
            generalize A.tmps.getD 109 undef = x109
            clear e19
            have HK1 := hide ((unhide HK0).trans hk)
            have HP1 := hide ((unhide HP16).keep hk)
            have HA1 := hide (fun (W' : World) (q : Keeps (fun _ => False) V13 W') => unhide HA16 W' (hk.trans q))
            clear hs hall hA hk hc0 HK0 HKX HP16 HA16
            have HK0 := HK1
            have HP16 := HP1
            have HA16 := HA1
            have HKX := hide (Keeps.refl (fun _ => False) V13)
            clear HK1 HP1 HA1
            go_upto_region 14 with fail
            rename_i Q0 K0 hc0
            refine wp_region_table (X := V13) (by kernel_rfl) [110, 111, 112, 113, 114, 115, 116, 117, 118, 119, 120, 121, 20] (by decide) rfl (by first | rfl | kernel_rfl | simp [opsB]) (unhide HKX) (fun i v W1 => match i with | 0 => v = .agg #[.slice (some ⟨fb, foff, none⟩) S.length sc] | 1 => v = .agg #[.bool h, .slice uo vals.length uc] | 2 => v = stB 1 f.name | 3 => v = .pointer (some ⟨w2.heap.size, 0, none⟩) | 4 => v = str f.name | 5 => isE W1 v (fldX f.name) | 6 => isS1 W1 v 1 f.name (fldX f.name) | 7 => isE W1 v hereX | 8 => isL W1 v (hereX.el .nil) | 9 => isS1 W1 v 8 [] hereX | 10 => isP W1 v (st1 1 f.name (fldX f.name) (st1 8 [] hereX .nil)) | 11 => v = .bool true | 12 => v = .bool true | _ => True) ?_ ?_ ?_
            · intro i v w1 w2 hq hk
              rcases i with _ | _ | _ | _ | _ | _ | _ | _ | _ | _ | _ | _ | _ | i
              all_goals first | exact hq | exact isE.keep hq hk | exact isL.keep hq hk | exact isP.keep hq hk | exact isS1.keep hq hk | exact isFd.keep hq hk | exact RowAt.keepF hq hk
            · intro i o A W1 ho hs hk hd K' hK
              rcases i with _ | _ | _ | _ | _ | _ | _ | _ | _ | _ | _ | _ | _ | i
              · obtain rfl := Option.some.inj ho
                exact step_load24 rfl ((hs.at rfl 5 (by decide)).trans rfl) (unhide B5 W1 ((unhide HK0).trans hk)) (hK _ _ rfl (Keeps.refl _ _))
              · obtain rfl := Option.some.inj ho
                exact step_load31 rfl ((hs.at rfl 6 (by decide)).trans rfl) (unhide B6 W1 ((unhide HK0).trans hk)) (hK _ _ rfl (Keeps.refl _ _))
              · obtain rfl := Option.some.inj ho
                exact step_load39b rfl ((hs.at rfl 14 (by decide)).trans rfl) (unhide B14 W1 ((unhide HK0).trans hk)) (hK _ _ rfl (Keeps.refl _ _))
              · obtain rfl := Option.some.inj ho
                exact step_fieldF0 rfl ((hs.at rfl 13 (by decide)).trans rfl) (hK _ _ rfl (Keeps.refl _ _))
              · obtain rfl := Option.some.inj ho
                exact step_load9 rfl (hd ⟨3, .data⟩ (by simp) rfl) (cl3 (unhide B13 W1 ((unhide HK0).trans hk))).1 (hK _ _ rfl (Keeps.refl _ _))
              · obtain rfl := Option.some.inj ho
                exact step_bField rfl (hd ⟨4, .data⟩ (by simp) rfl) (fun v' q => hK v' _ q (Keeps.refl _ _))
              · obtain rfl := Option.some.inj ho
                exact step_c16 rfl (hd ⟨2, .data⟩ (by simp) rfl) (hd ⟨5, .data⟩ (by simp) rfl) (fun v' w' q1 q2 => hK v' w' q1 q2)
              · obtain rfl := Option.some.inj ho
                exact step_bHere rfl (fun v' q => hK v' _ q (Keeps.refl _ _))
              · obtain rfl := Option.some.inj ho
                exact step_slice1 rfl rfl (hd ⟨7, .data⟩ (by simp) rfl) (fun v' w' q1 q2 => hK v' w' q1 q2)
              · obtain rfl := Option.some.inj ho
                exact step_bIf rfl (hd ⟨8, .data⟩ (by simp) rfl) (fun v' q => hK v' _ q (Keeps.refl _ _))
              · obtain rfl := Option.some.inj ho
                exact step_p2 rfl (hd ⟨6, .data⟩ (by simp) rfl) (hd ⟨9, .data⟩ (by simp) rfl) (fun v' w' q1 q2 => hK v' w' q1 q2)
              · obtain rfl := Option.some.inj ho
                exact step_c17n rfl (hd ⟨0, .data⟩ (by simp) rfl) (hd ⟨1, .data⟩ (by simp) rfl) (hd ⟨10, .data⟩ (by simp) rfl) (by simp [st1, SL.size, XE.el, EL.size, fldX, hereX]) ((unhide HT).keepF ((unhide KW0).trans ((unhide HK0).trans hk))) ((unhide HFM).keepF ((unhide KW0).trans ((unhide HK0).trans hk))) ((unhide HFL).keepF ((unhide KW0).trans ((unhide HK0).trans hk))) ((unhide HVA).keepF ((unhide KW0).trans ((unhide HK0).trans hk))) (short_four f.name) (fun w' q => hK _ w' rfl q)
              · obtain rfl := Option.some.inj ho
                exact step_assign rfl rfl (hK _ _ (hd ⟨11, .data⟩ (by simp) rfl) (Keeps.refl _ _))
              · simp at ho
            · intro A V14 hs hk hall
              have e20 : A.tmps.getD 20 undef = .bool true := hall 12 (by decide)
              refine hc0 _ _ ?_
              have hA := same_fold hs rfl
              simp only [List.foldl_cons, List.foldl_nil, e20] at hA
              simp only [Act.put, List.setIfInBounds_toArray, List.set_cons_zero, List.set_cons_succ] at hA
              rw [hA]
              generalize A.tmps.getD 110 undef = x110
              generalize A.tmps.getD 111 undef = x111
              generalize A.tmps.getD 112 undef = x112
              generalize A.tmps.getD 113 undef = x113
              generalize A.tmps.getD 114 undef = x114
              generalize A.tmps.getD 115 undef = x115
              generalize A.tmps.getD 116 undef = x116
              generalize A.tmps.getD 117 undef = x117
              generalize A.tmps.getD 118 undef = x118
              generalize A.tmps.getD 119 undef = x119
              generalize A.tmps.getD 120 undef = x120
              generalize A.tmps.getD 121 undef = x121
              clear e20
              have HK1 := hide ((unhide HK0).trans hk)
              have HP1 := hide ((unhide HP16).keep hk)
              have HA1 := hide (fun (W' : World) (q : Keeps (fun _ => False) V14 W') => unhide HA16 W' (hk.trans q))
              clear hs hall hA hk hc0 HK0 HKX HP16 HA16
              have HK0 := HK1
              have HP16 := HP1
              have HA16 := HA1
              have HKX := hide (Keeps.refl (fun _ => False) V14)
              clear HK1 HP1 HA1
              go_upto_region 15 with fail
              rename_i Q0 K0 hc0
              refine wp_region_table (X := V14) (by kernel_rfl) [122, 123, 124, 125, 126, 127, 128, 129, 130, 21] (by decide) rfl (by first | rfl | kernel_rfl | simp [opsB]) (unhide HKX) (fun i v W1 => match i with | 0 => v = .slice (some ⟨ab, aoff, none⟩) 1 ac | 1 => v = .pointer (some ⟨ab, aoff, none⟩) | 2 => isS1 W1 v 2 f.name e | 3 => v = .pointer (some ⟨w2.heap.size, 0, none⟩) | 4 => v = str f.name | 5 => v = stB 2 f.name | 6 => isE W1 v d | 7 => isS1 W1 v 2 f.name d | 8 => isP W1 v (st1 2 f.name e (st1 2 f.name d .nil)) | 9 => isP W1 v (st1 2 f.name e (st1 2 f.name d .nil)) | _ => True) ?_ ?_ ?_
              · intro i v w1 w2 hq hk
                rcases i with _ | _ | _ | _ | _ | _ | _ | _ | _ | _ | i
                all_goals first | exact hq | exact isE.keep hq hk | exact isL.keep hq hk | exact isP.keep hq hk | exact isS1.keep hq hk | exact isFd.keep hq hk | exact RowAt.keepF hq hk
              · intro i o A W1 ho hs hk hd K' hK
                rcases i with _ | _ | _ | _ | _ | _ | _ | _ | _ | _ | i
                · obtain rfl := Option.some.inj ho
                  exact step_move rfl ((hs.at rfl 16 (by decide)).trans rfl) (hK _ _ rfl (Keeps.refl _ _))
                · obtain rfl := Option.some.inj ho
                  exact step_index28 rfl (hd ⟨0, .data⟩ (by simp) rfl) (by decide) (hK _ _ rfl (Keeps.refl _ _))
                · obtain rfl := Option.some.inj ho
                  exact step_load39 rfl (hd ⟨1, .data⟩ (by simp) rfl) (unhide HA16 W1 hk).1 (unhide HA16 W1 hk).2.1 (unhide HA16 W1 hk).2.2.1 (unhide HA16 W1 hk).2.2.2.1 (unhide HA16 W1 hk).2.2.2.2.1 (hK _ _ ⟨xv, _, _, rfl, (unhide HA16 W1 hk).2.2.2.2.2, ⟨ta, tcp, rfl, Nat.zero_le _, fun h => absurd rfl h⟩, ⟨ea, ecp, rfl, Nat.zero_le _, fun h => absurd rfl h⟩⟩ (Keeps.refl _ _))
                · obtain rfl := Option.some.inj ho
                  exact step_fieldF0 rfl ((hs.at rfl 13 (by decide)).trans rfl) (hK _ _ rfl (Keeps.refl _ _))
                · obtain rfl := Option.some.inj ho
                  exact step_load9 rfl (hd ⟨3, .data⟩ (by simp) rfl) (cl3 (unhide B13 W1 ((unhide HK0).trans hk))).1 (hK _ _ rfl (Keeps.refl _ _))
                · obtain rfl := Option.some.inj ho
                  exact step_c15 rfl (hd ⟨4, .data⟩ (by simp) rfl) (fun w' q => hK _ w' rfl q)
                · obtain rfl := Option.some.inj ho
                  exact step_load27 rfl ((hs.at rfl 9 (by decide)).trans rfl) (unhide B9 W1 ((unhide HK0).trans hk)) (unhide HDX) ((unhide KW0).trans ((unhide HK0).trans hk)) (fun v' q => hK v' _ q (Keeps.refl _ _))
                · obtain rfl := Option.some.inj ho
                  exact step_c16 rfl (hd ⟨5, .data⟩ (by simp) rfl) (hd ⟨6, .data⟩ (by simp) rfl) (fun v' w' q1 q2 => hK v' w' q1 q2)
                · obtain rfl := Option.some.inj ho
                  exact step_p2 rfl (hd ⟨2, .data⟩ (by simp) rfl) (hd ⟨7, .data⟩ (by simp) rfl) (fun v' w' q1 q2 => hK v' w' q1 q2)
                · obtain rfl := Option.some.inj ho
                  exact step_assign rfl rfl (hK _ _ (hd ⟨8, .data⟩ (by simp) rfl) (Keeps.refl _ _))
                · simp at ho
              · intro A V15 hs hk hall
                have h21 : isP V15 (A.tmps.getD 21 undef) (st1 2 f.name e (st1 2 f.name d .nil)) := hall 9 (by decide)
                have h21' := h21
                obtain ⟨mo, mc, e21, _⟩ := SlS.head h21
                rw [show (st1 2 f.name e (st1 2 f.name d .nil)).len = 2 from rfl] at e21
                rw [e21] at h21'
                have HP21 := hide h21'
                refine hc0 _ _ ?_
                have hA := same_fold hs rfl
                simp only [List.foldl_cons, List.foldl_nil, e21] at hA
                simp only [Act.put, List.setIfInBounds_toArray, List.set_cons_zero, List.set_cons_succ] at hA
                rw [hA]
                generalize A.tmps.getD 122 undef = x122
                generalize A.tmps.getD 123 undef = x123
                generalize A.tmps.getD 124 undef = x124
                generalize A.tmps.getD 125 undef = x125
                generalize A.tmps.getD 126 undef = x126
                generalize A.tmps.getD 127 undef = x127
                generalize A.tmps.getD 128 undef = x128
                generalize A.tmps.getD 129 undef = x129
                generalize A.tmps.getD 130 undef = x130
                clear e21 h21 h21'
                have HK1 := hide ((unhide HK0).trans hk)
                have HP1 := hide ((unhide HP16).keep hk)
                have HA1 := hide (fun (W' : World) (q : Keeps (fun _ => False) V15 W') => unhide HA16 W' (hk.trans q))
                clear hs hall hA hk hc0 HK0 HKX HP16 HA16
                have HK0 := HK1
                have HP16 := HP1
                have HA16 := HA1
                have HKX := hide (Keeps.refl (fun _ => False) V15)
                clear HK1 HP1 HA1
                go_upto_region 16 with fail
                rename_i Q0 K0 hc0
                refine wp_region_gtable (X := V15) (by kernel_rfl) [132, 133, 134, 135, 136, 137, 131, 138, 139, 140, 22, 23, 24] (by decide) rfl (by first | rfl | kernel_rfl | simp [opsG]) (unhide HKX) (fun i v W1 => match i with | 0 => v = .agg #[.slice (some ⟨fb, foff, none⟩) S.length sc] | 1 => v = stB 1 f.name | 2 => isE W1 v d | 3 => isS1 W1 v 1 f.name d | 4 => isP W1 v (st1 1 f.name d .nil) | 5 => isFd W1 v S (st1 1 f.name d .nil) | 6 => isFd W1 v S (st1 1 f.name d .nil) | 7 => RowAt W1 v (fieldsP S (st1 1 f.name d .nil)).1.length (nmC (fieldsP S (st1 1 f.name d .nil)).1) | 8 => True | 9 => v = .int .i64 (fieldsP S (st1 1 f.name d .nil)).2.2 | 10 => RowAt W1 v (fieldsP S (st1 1 f.name d .nil)).1.length (nmC (fieldsP S (st1 1 f.name d .nil)).1) | 11 => True | 12 => v = .int .i64 (fieldsP S (st1 1 f.name d .nil)).2.2 | _ => True) ?_ ?_ ?_
                · intro i v w1 w2 hq hk
                  rcases i with _ | _ | _ | _ | _ | _ | _ | _ | _ | _ | _ | _ | _ | i
                  all_goals first | exact hq | exact isE.keep hq hk | exact isL.keep hq hk | exact isP.keep hq hk | exact isS1.keep hq hk | exact isFd.keep hq hk | exact RowAt.keepF hq hk
                · intro i o A W1 ho hs hk hd K' hK
                  rcases i with _ | _ | _ | _ | _ | _ | _ | _ | _ | _ | _ | _ | _ | i
                  · obtain rfl := Option.some.inj ho
                    exact g_plain rfl (step_load24 rfl ((hs.at rfl 5 (by decide)).trans rfl) (unhide B5 W1 ((unhide HK0).trans hk)) (hK _ _ rfl (Keeps.refl _ _)))
                  · obtain rfl := Option.some.inj ho
                    exact g_plain rfl (step_load39b rfl ((hs.at rfl 14 (by decide)).trans rfl) (unhide B14 W1 ((unhide HK0).trans hk)) (hK _ _ rfl (Keeps.refl _ _)))
                  · obtain rfl := Option.some.inj ho
                    exact g_plain rfl (step_load27 rfl ((hs.at rfl 9 (by decide)).trans rfl) (unhide B9 W1 ((unhide HK0).trans hk)) (unhide HDX) ((unhide KW0).trans ((unhide HK0).trans hk)) (fun v' q => hK v' _ q (Keeps.refl _ _)))
                  · obtain rfl := Option.some.inj ho
                    exact g_plain rfl (step_c16 rfl (hd ⟨1, .data⟩ (by simp) rfl) (hd ⟨2, .data⟩ (by simp) rfl) (fun v' w' q1 q2 => hK v' w' q1 q2))
                  · obtain rfl := Option.some.inj ho
                    exact g_plain rfl (step_p1 rfl (hd ⟨3, .data⟩ (by simp) rfl) (fun v' w' q1 q2 => hK v' w' q1 q2))
                  · obtain rfl := Option.some.inj ho
                    exact g_plain rfl (step_c20 rfl (hd ⟨0, .data⟩ (by simp) rfl) (hd ⟨4, .data⟩ (by simp) rfl) (by have := unhide HZ; simp only [sz_st1, SL.size]; (try have := sz_plain f zeroX); (try have := sz_plain f e); simp only [zeroX, EL.size] at *; omega) ((unhide HT).keepF ((unhide KW0).trans ((unhide HK0).trans hk))) ((unhide HFM).keepF ((unhide KW0).trans ((unhide HK0).trans hk))) ((unhide HFL).keepF ((unhide KW0).trans ((unhide HK0).trans hk))) (fun v' w' q1 q2 => hK v' w' q1 q2))
                  · obtain rfl := Option.some.inj ho
                    exact g_plain rfl (step_moveT (P := fun v => isFd W1 v S (st1 1 f.name d .nil)) rfl (hd ⟨5, .data⟩ (by simp) rfl) (fun v' q => hK v' _ q (Keeps.refl _ _)))
                  · obtain rfl := Option.some.inj ho
                    exact g_plain rfl (step_ex0F rfl (hd ⟨6, .data⟩ (by simp) rfl) (fun v' q => hK v' _ q (Keeps.refl _ _)))
                  · obtain rfl := Option.some.inj ho
                    exact g_plain rfl (step_ex1F rfl (hd ⟨6, .data⟩ (by simp) rfl) (fun v' => hK v' _ trivial (Keeps.refl _ _)))
                  · obtain rfl := Option.some.inj ho
                    exact g_plain rfl (step_ex2F rfl (hd ⟨6, .data⟩ (by simp) rfl) (hK _ _ rfl (Keeps.refl _ _)))
                  · obtain rfl := Option.some.inj ho
                    exact g_plain rfl (step_assign rfl rfl (hK _ _ (hd ⟨7, .data⟩ (by simp) rfl) (Keeps.refl _ _)))
                  · obtain rfl := Option.some.inj ho
                    exact g_plain rfl (step_assign rfl rfl (hK _ _ trivial (Keeps.refl _ _)))
                  · obtain rfl := Option.some.inj ho
                    exact g_plain rfl (step_assign rfl rfl (hK _ _ (hd ⟨9, .data⟩ (by simp) rfl) (Keeps.refl _ _)))
                  · simp at ho
                · intro A V16 hs hk hall
                  have e24 : A.tmps.getD 24 undef = .int .i64 (fieldsP S (st1 1 f.name d .nil)).2.2 := hall 12 (by decide)
                  have h22 : RowAt V16 (A.tmps.getD 22 undef) (fieldsP S (st1 1 f.name d .nil)).1.length (nmC (fieldsP S (st1 1 f.name d .nil)).1) := hall 10 (by decide)
                  have h22' := h22
                  obtain ⟨fo2, fc2, e22⟩ := RowAt.form h22
                  rw [e22] at h22'
                  have HR22 := hide h22'
                  have HP2 := hide ((unhide HP21).keep hk)
                  clear HP21
                  have HP21 := HP2
                  refine hc0 _ _ ?_
                  have hA := same_fold hs rfl
                  simp only [List.foldl_cons, List.foldl_nil, e24, e22] at hA
                  simp only [Act.put, List.setIfInBounds_toArray, List.set_cons_zero, List.set_cons_succ] at hA
                  rw [hA]
                  generalize A.tmps.getD 132 undef = x132
                  generalize A.tmps.getD 133 undef = x133
                  generalize A.tmps.getD 134 undef = x134
                  generalize A.tmps.getD 135 undef = x135
                  generalize A.tmps.getD 136 undef = x136
                  generalize A.tmps.getD 137 undef = x137
                  generalize A.tmps.getD 131 undef = x131
                  generalize A.tmps.getD 138 undef = x138
                  generalize A.tmps.getD 139 undef = x139
                  generalize A.tmps.getD 140 undef = x140
                  generalize A.tmps.getD 23 undef = x23
                  clear e24 e22 h22 h22' HP2
                  have HK1 := hide ((unhide HK0).trans hk)
                  have HP1 := hide ((unhide HP16).keep hk)
                  have HA1 := hide (fun (W' : World) (q : Keeps (fun _ => False) V16 W') => unhide HA16 W' (hk.trans q))
                  clear hs hall hA hk hc0 HK0 HKX HP16 HA16
                  have HK0 := HK1
                  have HP16 := HP1
                  have HA16 := HA1
                  have HKX := hide (Keeps.refl (fun _ => False) V16)
                  clear HK1 HP1 HA1
                  obtain ⟨RL, hRL⟩ : ∃ RL, (fieldsP S (st1 1 f.name d .nil)).1 = RL := ⟨_, rfl⟩
                  obtain ⟨GE, hG⟩ : ∃ GE, (fieldsP S (st1 1 f.name d .nil)).2.2 = GE := ⟨_, rfl⟩
                  have HRL : Hid (RL.length ≤ 1000) := by
                    have : (fieldsP S (st1 1 f.name d .nil)).1.length ≤ 1000 := fields_short S _
                    rw [hRL] at this
                    exact this
                  have HL5 : Hid (GE = 0 → f.name ∉ RL → AlikeP S h vals (st1 2 f.name e (st1 2 f.name d .nil)) (st1 2 f.name (mk2 9 e d) .nil)) := fun q1 q2 => short_five (unhide HKF) (by rw [hG]; exact q1) (by rw [hRL]; exact q2)
                  rw [hRL] at HR22
                  rw [hG, hRL]
                  clear hRL hG
                  by_cases g0 : GE = 0
                  · by_cases gn : f.name ∈ RL
                    · have HNM : Hid (decide (f.name ∈ RL) = true) := decide_eq_true gn
                      have hGE : (GE != 0) = false := by simpa using g0
                      clear g0 gn HL5
                      go_upto_region 17 with fail
                      rename_i Q0 K0 hc0
                      refine wp_region_gtable (X := V16) (by kernel_rfl) [141, 142, 143, 144, 145, 146, 147, 148, 149, 150, 151, 152, 153, 154, 155, 156, 157, 158, 159, 160, 161, 162, 163, 25] (by decide) rfl (by first | rfl | kernel_rfl | simp [opsG]) (unhide HKX) (fun i v W1 => match i with | 0 => v = .int .i64 GE | 1 => v = .bool false | 2 => v = .bool false | 3 => v = .slice fo2 RL.length fc2 | 4 => v = .pointer (some ⟨w2.heap.size, 0, none⟩) | 5 => v = str f.name | 6 => v = .bool true | 7 => v = .bool true | 8 => v = .bool true | 9 => True | 10 => True | 11 => True | 12 => True | 13 => True | 14 => True | 15 => True | 16 => True | 17 => True | 18 => True | 19 => True | 20 => True | 21 => True | 22 => v = .bool true | 23 => v = .bool true | _ => True) ?_ ?_ ?_
                      · intro i v w1 w2 hq hk
                        rcases i with _ | _ | _ | _ | _ | _ | _ | _ | _ | _ | _ | _ | _ | _ | _ | _ | _ | _ | _ | _ | _ | _ | _ | _ | i
                        all_goals first | exact hq | exact isE.keep hq hk | exact isL.keep hq hk | exact isP.keep hq hk | exact isS1.keep hq hk | exact isFd.keep hq hk | exact RowAt.keepF hq hk
                      · intro i o A W1 ho hs hk hd K' hK
                        rcases i with _ | _ | _ | _ | _ | _ | _ | _ | _ | _ | _ | _ | _ | _ | _ | _ | _ | _ | _ | _ | _ | _ | _ | _ | i
                        · obtain rfl := Option.some.inj ho
                          exact g_plain rfl (step_move rfl ((hs.at rfl 24 (by decide)).trans rfl) (hK _ _ rfl (Keeps.refl _ _)))
                        · obtain rfl := Option.some.inj ho
                          exact g_plain rfl (step_neq35 rfl (hd ⟨0, .data⟩ (by simp) rfl) hGE (hK _ _ rfl (Keeps.refl _ _)))
                        · obtain rfl := Option.some.inj ho
                          exact g_plain rfl (step_move rfl (hd ⟨1, .data⟩ (by simp) rfl) (hK _ _ rfl (Keeps.refl _ _)))
                        · obtain rfl := Option.some.inj ho
                          exact g_yes rfl (yields rfl (hd ⟨2, .guard⟩ (by simp) rfl)) (step_move rfl ((hs.at rfl 22 (by decide)).trans rfl) (hK _ _ rfl (Keeps.refl _ _)))
                        · obtain rfl := Option.some.inj ho
                          exact g_yes rfl (yields rfl (hd ⟨2, .guard⟩ (by simp) rfl)) (step_fieldF0 rfl ((hs.at rfl 13 (by decide)).trans rfl) (hK _ _ rfl (Keeps.refl _ _)))
                        · obtain rfl := Option.some.inj ho
                          exact g_yes rfl (yields rfl (hd ⟨2, .guard⟩ (by simp) rfl)) (step_load9 rfl (hd ⟨4, .data⟩ (by simp) rfl) (cl3 (unhide B13 W1 ((unhide HK0).trans hk))).1 (hK _ _ rfl (Keeps.refl _ _)))
                        · obtain rfl := Option.some.inj ho
                          exact g_yes rfl (yields rfl (hd ⟨2, .guard⟩ (by simp) rfl)) (step_c21 rfl (hd ⟨3, .data⟩ (by simp) rfl) ((unhide HR22).keepF hk) (unhide HRL) (hd ⟨5, .data⟩ (by simp) rfl) (fun w' q => by rw [unhide HNM]; exact hK _ w' rfl q))
                        · obtain rfl := Option.some.inj ho
                          exact g_plain rfl (step_pickF rfl (hd ⟨2, .data⟩ (by simp) rfl) (hd ⟨6, .data⟩ (by simp) rfl) (hK _ _ rfl (Keeps.refl _ _)))
                        · obtain rfl := Option.some.inj ho
                          exact g_plain rfl (step_move rfl (hd ⟨7, .data⟩ (by simp) rfl) (hK _ _ rfl (Keeps.refl _ _)))
                        · obtain rfl := Option.some.inj ho
                          exact g_no rfl (yields rfl (hd ⟨8, .guard⟩ (by simp) rfl)) (by decide) (hK _ _ trivial (Keeps.refl _ _))
                        · obtain rfl := Option.some.inj ho
                          exact g_no rfl (yields rfl (hd ⟨8, .guard⟩ (by simp) rfl)) (by decide) (hK _ _ trivial (Keeps.refl _ _))
                        · obtain rfl := Option.some.inj ho
                          exact g_no rfl (yields rfl (hd ⟨8, .guard⟩ (by simp) rfl)) (by decide) (hK _ _ trivial (Keeps.refl _ _))
                        · obtain rfl := Option.some.inj ho
                          exact g_no rfl (yields rfl (hd ⟨8, .guard⟩ (by simp) rfl)) (by decide) (hK _ _ trivial (Keeps.refl _ _))
                        · obtain rfl := Option.some.inj ho
                          exact g_no rfl (yields rfl (hd ⟨8, .guard⟩ (by simp) rfl)) (by decide) (hK _ _ trivial (Keeps.refl _ _))
                        · obtain rfl := Option.some.inj ho
                          exact g_no rfl (yields rfl (hd ⟨8, .guard⟩ (by simp) rfl)) (by decide) (hK _ _ trivial (Keeps.refl _ _))
                        · obtain rfl := Option.some.inj ho
                          exact g_no rfl (yields rfl (hd ⟨8, .guard⟩ (by simp) rfl)) (by decide) (hK _ _ trivial (Keeps.refl _ _))
                        · obtain rfl := Option.some.inj ho
                          exact g_no rfl (yields rfl (hd ⟨8, .guard⟩ (by simp) rfl)) (by decide) (hK _ _ trivial (Keeps.refl _ _))
                        · obtain rfl := Option.some.inj ho
                          exact g_no rfl (yields rfl (hd ⟨8, .guard⟩ (by simp) rfl)) (by decide) (hK _ _ trivial (Keeps.refl _ _))
                        · obtain rfl := Option.some.inj ho
                          exact g_no rfl (yields rfl (hd ⟨8, .guard⟩ (by simp) rfl)) (by decide) (hK _ _ trivial (Keeps.refl _ _))
                        · obtain rfl := Option.some.inj ho
                          exact g_no rfl (yields rfl (hd ⟨8, .guard⟩ (by simp) rfl)) (by decide) (hK _ _ trivial (Keeps.refl _ _))
                        · obtain rfl := Option.some.inj ho
                          exact g_no rfl (yields rfl (hd ⟨8, .guard⟩ (by simp) rfl)) (by decide) (hK _ _ trivial (Keeps.refl _ _))
                        · obtain rfl := Option.some.inj ho
                          exact g_no rfl (yields rfl (hd ⟨8, .guard⟩ (by simp) rfl)) (by decide) (hK _ _ trivial (Keeps.refl _ _))
                        · obtain rfl := Option.some.inj ho
                          exact g_plain rfl (step_pickT rfl (hd ⟨8, .data⟩ (by simp) rfl) (hK _ _ rfl (Keeps.refl _ _)))
                        · obtain rfl := Option.some.inj ho
                          exact g_plain rfl (step_assign rfl (hd ⟨22, .data⟩ (by simp) rfl) (hK _ _ rfl (Keeps.refl _ _)))
                        · simp at ho
                      · intro A V17 hs hk hall
                        have e25 : A.tmps.getD 25 undef = .bool true := hall 23 (by decide)
                        refine hc0 _ _ ?_
                        have hA := same_fold hs rfl
                        simp only [List.foldl_cons, List.foldl_nil, e25] at hA
                        simp only [Act.put, List.setIfInBounds_toArray, List.set_cons_zero, List.set_cons_succ] at hA
                        rw [hA]
                        generalize A.tmps.getD 141 undef = x141
                        generalize A.tmps.getD 142 undef = x142
                        generalize A.tmps.getD 143 undef = x143
                        generalize A.tmps.getD 144 undef = x144
                        generalize A.tmps.getD 145 undef = x145
                        generalize A.tmps.getD 146 undef = x146
                        generalize A.tmps.getD 147 undef = x147
                        generalize A.tmps.getD 148 undef = x148
                        generalize A.tmps.getD 149 undef = x149
                        generalize A.tmps.getD 150 undef = x150
                        generalize A.tmps.getD 151 undef = x151
                        generalize A.tmps.getD 152 undef = x152
                        generalize A.tmps.getD 153 undef = x153
                        generalize A.tmps.getD 154 undef = x154
                        generalize A.tmps.getD 155 undef = x155
                        generalize A.tmps.getD 156 undef = x156
                        generalize A.tmps.getD 157 undef = x157
                        generalize A.tmps.getD 158 undef = x158
                        generalize A.tmps.getD 159 undef = x159
                        generalize A.tmps.getD 160 undef = x160
                        generalize A.tmps.getD 161 undef = x161
                        generalize A.tmps.getD 162 undef = x162
                        generalize A.tmps.getD 163 undef = x163
                        have HKE := hide ((unhide KW0).trans ((unhide HK0).trans hk))
                        clear hs hall hA hk hc0 e25
                        go_wp2_with fail
                        go_ret
                        exact ⟨by first | rfl | simp, unhide HKE⟩
                    · have HNM : Hid (decide (f.name ∈ RL) = false) := decide_eq_false gn
                      have HL5 := hide (unhide HL5 g0 gn)
                      have hGE : (GE != 0) = false := by simpa using g0
                      clear g0 gn
                      go_upto_region 17 with fail
                      rename_i Q0 K0 hc0
                      refine wp_region_gtable (X := V16) (by kernel_rfl) [141, 142, 143, 144, 145, 146, 147, 148, 149, 150, 151, 152, 153, 154, 155, 156, 157, 158, 159, 160, 161, 162, 163, 25] (by decide) rfl (by first | rfl | kernel_rfl | simp [opsG]) (unhide HKX) (fun i v W1 => match i with | 0 => v = .int .i64 GE | 1 => v = .bool false | 2 => v = .bool false | 3 => v = .slice fo2 RL.length fc2 | 4 => v = .pointer (some ⟨w2.heap.size, 0, none⟩) | 5 => v = str f.name | 6 => v = .bool false | 7 => v = .bool false | 8 => v = .bool false | 9 => v = .agg #[.slice (some ⟨fb, foff, none⟩) S.length sc] | 10 => v = .agg #[.bool h, .slice uo vals.length uc] | 11 => isP W1 v (st1 2 f.name e (st1 2 f.name d .nil)) | 12 => v = .pointer (some ⟨w2.heap.size, 0, none⟩) | 13 => v = str f.name | 14 => v = stB 2 f.name | 15 => isE W1 v e | 16 => isE W1 v d | 17 => isL W1 v (e.el (d.el .nil)) | 18 => isE W1 v (mk2 9 e d) | 19 => isS1 W1 v 2 f.name (mk2 9 e d) | 20 => isP W1 v (st1 2 f.name (mk2 9 e d) .nil) | 21 => v = .bool true | 22 => v = .bool true | 23 => v = .bool true | _ => True) ?_ ?_ ?_
                      · intro i v w1 w2 hq hk
                        rcases i with _ | _ | _ | _ | _ | _ | _ | _ | _ | _ | _ | _ | _ | _ | _ | _ | _ | _ | _ | _ | _ | _ | _ | _ | i
                        all_goals first | exact hq | exact isE.keep hq hk | exact isL.keep hq hk | exact isP.keep hq hk | exact isS1.keep hq hk | exact isFd.keep hq hk | exact RowAt.keepF hq hk
                      · intro i o A W1 ho hs hk hd K' hK
                        rcases i with _ | _ | _ | _ | _ | _ | _ | _ | _ | _ | _ | _ | _ | _ | _ | _ | _ | _ | _ | _ | _ | _ | _ | _ | i
                        · obtain rfl := Option.some.inj ho
                          exact g_plain rfl (step_move rfl ((hs.at rfl 24 (by decide)).trans rfl) (hK _ _ rfl (Keeps.refl _ _)))
                        · obtain rfl := Option.some.inj ho
                          exact g_plain rfl (step_neq35 rfl (hd ⟨0, .data⟩ (by simp) rfl) hGE (hK _ _ rfl (Keeps.refl _ _)))
                        · obtain rfl := Option.some.inj ho
                          exact g_plain rfl (step_move rfl (hd ⟨1, .data⟩ (by simp) rfl) (hK _ _ rfl (Keeps.refl _ _)))
                        · obtain rfl := Option.some.inj ho
                          exact g_yes rfl (yields rfl (hd ⟨2, .guard⟩ (by simp) rfl)) (step_move rfl ((hs.at rfl 22 (by decide)).trans rfl) (hK _ _ rfl (Keeps.refl _ _)))
                        · obtain rfl := Option.some.inj ho
                          exact g_yes rfl (yields rfl (hd ⟨2, .guard⟩ (by simp) rfl)) (step_fieldF0 rfl ((hs.at rfl 13 (by decide)).trans rfl) (hK _ _ rfl (Keeps.refl _ _)))
                        · obtain rfl := Option.some.inj ho
                          exact g_yes rfl (yields rfl (hd ⟨2, .guard⟩ (by simp) rfl)) (step_load9 rfl (hd ⟨4, .data⟩ (by simp) rfl) (cl3 (unhide B13 W1 ((unhide HK0).trans hk))).1 (hK _ _ rfl (Keeps.refl _ _)))
                        · obtain rfl := Option.some.inj ho
                          exact g_yes rfl (yields rfl (hd ⟨2, .guard⟩ (by simp) rfl)) (step_c21 rfl (hd ⟨3, .data⟩ (by simp) rfl) ((unhide HR22).keepF hk) (unhide HRL) (hd ⟨5, .data⟩ (by simp) rfl) (fun w' q => by rw [unhide HNM]; exact hK _ w' rfl q))
                        · obtain rfl := Option.some.inj ho
                          exact g_plain rfl (step_pickF rfl (hd ⟨2, .data⟩ (by simp) rfl) (hd ⟨6, .data⟩ (by simp) rfl) (hK _ _ rfl (Keeps.refl _ _)))
                        · obtain rfl := Option.some.inj ho
                          exact g_plain rfl (step_move rfl (hd ⟨7, .data⟩ (by simp) rfl) (hK _ _ rfl (Keeps.refl _ _)))
                        · obtain rfl := Option.some.inj ho
                          exact g_yes rfl (yields rfl (hd ⟨8, .guard⟩ (by simp) rfl)) (step_load24 rfl ((hs.at rfl 5 (by decide)).trans rfl) (unhide B5 W1 ((unhide HK0).trans hk)) (hK _ _ rfl (Keeps.refl _ _)))
                        · obtain rfl := Option.some.inj ho
                          exact g_yes rfl (yields rfl (hd ⟨8, .guard⟩ (by simp) rfl)) (step_load31 rfl ((hs.at rfl 6 (by decide)).trans rfl) (unhide B6 W1 ((unhide HK0).trans hk)) (hK _ _ rfl (Keeps.refl _ _)))
                        · obtain rfl := Option.some.inj ho
                          exact g_yes rfl (yields rfl (hd ⟨8, .guard⟩ (by simp) rfl)) (step_move rfl ((hs.at rfl 21 (by decide)).trans rfl) (hK _ _ ((unhide HP21).keep hk) (Keeps.refl _ _)))
                        · obtain rfl := Option.some.inj ho
                          exact g_yes rfl (yields rfl (hd ⟨8, .guard⟩ (by simp) rfl)) (step_fieldF0 rfl ((hs.at rfl 13 (by decide)).trans rfl) (hK _ _ rfl (Keeps.refl _ _)))
                        · obtain rfl := Option.some.inj ho
                          exact g_yes rfl (yields rfl (hd ⟨8, .guard⟩ (by simp) rfl)) (step_load9 rfl (hd ⟨12, .data⟩ (by simp) rfl) (cl3 (unhide B13 W1 ((unhide HK0).trans hk))).1 (hK _ _ rfl (Keeps.refl _ _)))
                        · obtain rfl := Option.some.inj ho
                          exact g_yes rfl (yields rfl (hd ⟨8, .guard⟩ (by simp) rfl)) (step_c15 rfl (hd ⟨13, .data⟩ (by simp) rfl) (fun w' q => hK _ w' rfl q))
                        · obtain rfl := Option.some.inj ho
                          exact g_yes rfl (yields rfl (hd ⟨8, .guard⟩ (by simp) rfl)) (step_load27 rfl ((hs.at rfl 8 (by decide)).trans rfl) (unhide B8 W1 ((unhide HK0).trans hk)) (unhide HE) ((unhide KW0).trans ((unhide HK0).trans hk)) (fun v' q => hK v' _ q (Keeps.refl _ _)))
                        · obtain rfl := Option.some.inj ho
                          exact g_yes rfl (yields rfl (hd ⟨8, .guard⟩ (by simp) rfl)) (step_load27 rfl ((hs.at rfl 9 (by decide)).trans rfl) (unhide B9 W1 ((unhide HK0).trans hk)) (unhide HDX) ((unhide KW0).trans ((unhide HK0).trans hk)) (fun v' q => hK v' _ q (Keeps.refl _ _)))
                        · obtain rfl := Option.some.inj ho
                          exact g_yes rfl (yields rfl (hd ⟨8, .guard⟩ (by simp) rfl)) (step_slice2 rfl rfl rfl (hd ⟨15, .data⟩ (by simp) rfl) (hd ⟨16, .data⟩ (by simp) rfl) (fun v' w' q1 q2 => hK v' w' q1 q2))
                        · obtain rfl := Option.some.inj ho
                          exact g_yes rfl (yields rfl (hd ⟨8, .guard⟩ (by simp) rfl)) (step_call26 rfl rfl (hd ⟨17, .data⟩ (by simp) rfl) (by simp [XE.el, EL.len]) (fun v' w' q1 q2 => hK v' w' q1 q2))
                        · obtain rfl := Option.some.inj ho
                          exact g_yes rfl (yields rfl (hd ⟨8, .guard⟩ (by simp) rfl)) (step_c16 rfl (hd ⟨14, .data⟩ (by simp) rfl) (hd ⟨18, .data⟩ (by simp) rfl) (fun v' w' q1 q2 => hK v' w' q1 q2))
                        · obtain rfl := Option.some.inj ho
                          exact g_yes rfl (yields rfl (hd ⟨8, .guard⟩ (by simp) rfl)) (step_p1 rfl (hd ⟨19, .data⟩ (by simp) rfl) (fun v' w' q1 q2 => hK v' w' q1 q2))
                        · obtain rfl := Option.some.inj ho
                          exact g_yes rfl (yields rfl (hd ⟨8, .guard⟩ (by simp) rfl)) (step_c17 rfl (hd ⟨9, .data⟩ (by simp) rfl) (hd ⟨10, .data⟩ (by simp) rfl) (hd ⟨11, .data⟩ (by simp) rfl) (hd ⟨20, .data⟩ (by simp) rfl) (by have := unhide HZ; simp only [sz_st1, SL.size]; (try have := sz_plain f zeroX); (try have := sz_plain f e); simp only [zeroX, EL.size] at *; omega) (by have := unhide HZ; simp only [sz_st1, sz_mk2, SL.size]; (try have := sz_plain f zeroX); (try have := sz_plain f e); simp only [zeroX, EL.size] at *; omega) ((unhide HT).keepF ((unhide KW0).trans ((unhide HK0).trans hk))) ((unhide HFM).keepF ((unhide KW0).trans ((unhide HK0).trans hk))) ((unhide HFL).keepF ((unhide KW0).trans ((unhide HK0).trans hk))) ((unhide HVA).keepF ((unhide KW0).trans ((unhide HK0).trans hk))) (unhide HL5) (fun w' q => hK _ w' rfl q))
                        · obtain rfl := Option.some.inj ho
                          exact g_plain rfl (step_pickF rfl (hd ⟨8, .data⟩ (by simp) rfl) (hd ⟨21, .data⟩ (by simp) rfl) (hK _ _ rfl (Keeps.refl _ _)))
                        · obtain rfl := Option.some.inj ho
                          exact g_plain rfl (step_assign rfl (hd ⟨22, .data⟩ (by simp) rfl) (hK _ _ rfl (Keeps.refl _ _)))
                        · simp at ho
                      · intro A V17 hs hk hall
                        have e25 : A.tmps.getD 25 undef = .bool true := hall 23 (by decide)
                        refine hc0 _ _ ?_
                        have hA := same_fold hs rfl
                        simp only [List.foldl_cons, List.foldl_nil, e25] at hA
                        simp only [Act.put, List.setIfInBounds_toArray, List.set_cons_zero, List.set_cons_succ] at hA
                        rw [hA]
                        generalize A.tmps.getD 141 undef = x141
                        generalize A.tmps.getD 142 undef = x142
                        generalize A.tmps.getD 143 undef = x143
                        generalize A.tmps.getD 144 undef = x144
                        generalize A.tmps.getD 145 undef = x145
                        generalize A.tmps.getD 146 undef = x146
                        generalize A.tmps.getD 147 undef = x147
                        generalize A.tmps.getD 148 undef = x148
                        generalize A.tmps.getD 149 undef = x149
                        generalize A.tmps.getD 150 undef = x150
                        generalize A.tmps.getD 151 undef = x151
                        generalize A.tmps.getD 152 undef = x152
                        generalize A.tmps.getD 153 undef = x153
                        generalize A.tmps.getD 154 undef = x154
                        generalize A.tmps.getD 155 undef = x155
                        generalize A.tmps.getD 156 undef = x156
                        generalize A.tmps.getD 157 undef = x157
                        generalize A.tmps.getD 158 undef = x158
                        generalize A.tmps.getD 159 undef = x159
                        generalize A.tmps.getD 160 undef = x160
                        generalize A.tmps.getD 161 undef = x161
                        generalize A.tmps.getD 162 undef = x162
                        generalize A.tmps.getD 163 undef = x163
                        have HKE := hide ((unhide KW0).trans ((unhide HK0).trans hk))
                        clear hs hall hA hk hc0 e25
                        go_wp2_with fail
                        go_ret
                        exact ⟨by first | rfl | simp, unhide HKE⟩
                  · have hGE : (GE != 0) = true := by simpa using g0
                    clear g0 HL5
                    go_upto_region 17 with fail
                    rename_i Q0 K0 hc0
                    refine wp_region_gtable (X := V16) (by kernel_rfl) [141, 142, 143, 144, 145, 146, 147, 148, 149, 150, 151, 152, 153, 154, 155, 156, 157, 158, 159, 160, 161, 162, 163, 25] (by decide) rfl (by first | rfl | kernel_rfl | simp [opsG]) (unhide HKX) (fun i v W1 => match i with | 0 => v = .int .i64 GE | 1 => v = .bool true | 2 => v = .bool true | 3 => True | 4 => True | 5 => True | 6 => True | 7 => v = .bool true | 8 => v = .bool true | 9 => True | 10 => True | 11 => True | 12 => True | 13 => True | 14 => True | 15 => True | 16 => True | 17 => True | 18 => True | 19 => True | 20 => True | 21 => True | 22 => v = .bool true | 23 => v = .bool true | _ => True) ?_ ?_ ?_
                    · intro i v w1 w2 hq hk
                      rcases i with _ | _ | _ | _ | _ | _ | _ | _ | _ | _ | _ | _ | _ | _ | _ | _ | _ | _ | _ | _ | _ | _ | _ | _ | i
                      all_goals first | exact hq | exact isE.keep hq hk | exact isL.keep hq hk | exact isP.keep hq hk | exact isS1.keep hq hk | exact isFd.keep hq hk | exact RowAt.keepF hq hk
                    · intro i o A W1 ho hs hk hd K' hK
                      rcases i with _ | _ | _ | _ | _ | _ | _ | _ | _ | _ | _ | _ | _ | _ | _ | _ | _ | _ | _ | _ | _ | _ | _ | _ | i
                      · obtain rfl := Option.some.inj ho
                        exact g_plain rfl (step_move rfl ((hs.at rfl 24 (by decide)).trans rfl) (hK _ _ rfl (Keeps.refl _ _)))
                      · obtain rfl := Option.some.inj ho
                        exact g_plain rfl (step_neq35 rfl (hd ⟨0, .data⟩ (by simp) rfl) hGE (hK _ _ rfl (Keeps.refl _ _)))
                      · obtain rfl := Option.some.inj ho
                        exact g_plain rfl (step_move rfl (hd ⟨1, .data⟩ (by simp) rfl) (hK _ _ rfl (Keeps.refl _ _)))
                      · obtain rfl := Option.some.inj ho
                        exact g_no rfl (yields rfl (hd ⟨2, .guard⟩ (by simp) rfl)) (by decide) (hK _ _ trivial (Keeps.refl _ _))
                      · obtain rfl := Option.some.inj ho
                        exact g_no rfl (yields rfl (hd ⟨2, .guard⟩ (by simp) rfl)) (by decide) (hK _ _ trivial (Keeps.refl _ _))
                      · obtain rfl := Option.some.inj ho
                        exact g_no rfl (yields rfl (hd ⟨2, .guard⟩ (by simp) rfl)) (by decide) (hK _ _ trivial (Keeps.refl _ _))
                      · obtain rfl := Option.some.inj ho
                        exact g_no rfl (yields rfl (hd ⟨2, .guard⟩ (by simp) rfl)) (by decide) (hK _ _ trivial (Keeps.refl _ _))
                      · obtain rfl := Option.some.inj ho
                        exact g_plain rfl (step_pickT rfl (hd ⟨2, .data⟩ (by simp) rfl) (hK _ _ rfl (Keeps.refl _ _)))
                      · obtain rfl := Option.some.inj ho
                        exact g_plain rfl (step_move rfl (hd ⟨7, .data⟩ (by simp) rfl) (hK _ _ rfl (Keeps.refl _ _)))
                      · obtain rfl := Option.some.inj ho
                        exact g_no rfl (yields rfl (hd ⟨8, .guard⟩ (by simp) rfl)) (by decide) (hK _ _ trivial (Keeps.refl _ _))
                      · obtain rfl := Option.some.inj ho
                        exact g_no rfl (yields rfl (hd ⟨8, .guard⟩ (by simp) rfl)) (by decide) (hK _ _ trivial (Keeps.refl _ _))
                      · obtain rfl := Option.some.inj ho
                        exact g_no rfl (yields rfl (hd ⟨8, .guard⟩ (by simp) rfl)) (by decide) (hK _ _ trivial (Keeps.refl _ _))
                      · obtain rfl := Option.some.inj ho
                        exact g_no rfl (yields rfl (hd ⟨8, .guard⟩ (by simp) rfl)) (by decide) (hK _ _ trivial (Keeps.refl _ _))
                      · obtain rfl := Option.some.inj ho
                        exact g_no rfl (yields rfl (hd ⟨8, .guard⟩ (by simp) rfl)) (by decide) (hK _ _ trivial (Keeps.refl _ _))
                      · obtain rfl := Option.some.inj ho
                        exact g_no rfl (yields rfl (hd ⟨8, .guard⟩ (by simp) rfl)) (by decide) (hK _ _ trivial (Keeps.refl _ _))
                      · obtain rfl := Option.some.inj ho
                        exact g_no rfl (yields rfl (hd ⟨8, .guard⟩ (by simp) rfl)) (by decide) (hK _ _ trivial (Keeps.refl _ _))
                      · obtain rfl := Option.some.inj ho
                        exact g_no rfl (yields rfl (hd ⟨8, .guard⟩ (by simp) rfl)) (by decide) (hK _ _ trivial (Keeps.refl _ _))
                      · obtain rfl := Option.some.inj ho
                        exact g_no rfl (yields rfl (hd ⟨8, .guard⟩ (by simp) rfl)) (by decide) (hK _ _ trivial (Keeps.refl _ _))
                      · obtain rfl := Option.some.inj ho
                        exact g_no rfl (yields rfl (hd ⟨8, .guard⟩ (by simp) rfl)) (by decide) (hK _ _ trivial (Keeps.refl _ _))
                      · obtain rfl := Option.some.inj ho
                        exact g_no rfl (yields rfl (hd ⟨8, .guard⟩ (by simp) rfl)) (by decide) (hK _ _ trivial (Keeps.refl _ _))
                      · obtain rfl := Option.some.inj ho
                        exact g_no rfl (yields rfl (hd ⟨8, .guard⟩ (by simp) rfl)) (by decide) (hK _ _ trivial (Keeps.refl _ _))
                      · obtain rfl := Option.some.inj ho
                        exact g_no rfl (yields rfl (hd ⟨8, .guard⟩ (by simp) rfl)) (by decide) (hK _ _ trivial (Keeps.refl _ _))
                      · obtain rfl := Option.some.inj ho
                        exact g_plain rfl (step_pickT rfl (hd ⟨8, .data⟩ (by simp) rfl) (hK _ _ rfl (Keeps.refl _ _)))
                      · obtain rfl := Option.some.inj ho
                        exact g_plain rfl (step_assign rfl (hd ⟨22, .data⟩ (by simp) rfl) (hK _ _ rfl (Keeps.refl _ _)))
                      · simp at ho
                    · intro A V17 hs hk hall
                      have e25 : A.tmps.getD 25 undef = .bool true := hall 23 (by decide)
                      refine hc0 _ _ ?_
                      have hA := same_fold hs rfl
                      simp only [List.foldl_cons, List.foldl_nil, e25] at hA
                      simp only [Act.put, List.setIfInBounds_toArray, List.set_cons_zero, List.set_cons_succ] at hA
                      rw [hA]
                      generalize A.tmps.getD 141 undef = x141
                      generalize A.tmps.getD 142 undef = x142
                      generalize A.tmps.getD 143 undef = x143
                      generalize A.tmps.getD 144 undef = x144
                      generalize A.tmps.getD 145 undef = x145
                      generalize A.tmps.getD 146 undef = x146
                      generalize A.tmps.getD 147 undef = x147
                      generalize A.tmps.getD 148 undef = x148
                      generalize A.tmps.getD 149 undef = x149
                      generalize A.tmps.getD 150 undef = x150
                      generalize A.tmps.getD 151 undef = x151
                      generalize A.tmps.getD 152 undef = x152
                      generalize A.tmps.getD 153 undef = x153
                      generalize A.tmps.getD 154 undef = x154
                      generalize A.tmps.getD 155 undef = x155
                      generalize A.tmps.getD 156 undef = x156
                      generalize A.tmps.getD 157 undef = x157
                      generalize A.tmps.getD 158 undef = x158
                      generalize A.tmps.getD 159 undef = x159
                      generalize A.tmps.getD 160 undef = x160
                      generalize A.tmps.getD 161 undef = x161
                      generalize A.tmps.getD 162 undef = x162
                      generalize A.tmps.getD 163 undef = x163
                      have HKE := hide ((unhide KW0).trans ((unhide HK0).trans hk))
                      clear hs hall hA hk hc0 e25
                      go_wp2_with fail
                      go_ret
                      exact ⟨by first | rfl | simp, unhide HKE⟩

end Go.Proofs.YtiinohibmcefkaaGreatDoor
