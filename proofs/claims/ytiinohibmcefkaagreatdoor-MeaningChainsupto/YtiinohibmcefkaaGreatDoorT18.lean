import Derived.Test.YtiinohibmcefkaaGreatDoorJzaw
import Derived.Test.YtiinohibmcefkaaGreatDoorT17
import Derived.Test.YtiinohibmcefkaaGreatDoorJah
namespace Go.Proofs.YtiinohibmcefkaaGreatDoor
open Go.RowKit Go.Maps
set_option maxRecDepth 100000
set_option maxHeartbeats 8000000
section
variable {Q : Exit → Act → World → Prop} {K : Act → World → Prop} {o : Oper} {a : Act} {w : World}
theorem step_c29 {t u q : Nat} {v v2 v3 : Value} {R : (Bool × List ValA) × Int} (ho : o.op = .call { callee := .value (.func 29), args := #[.tmp t, .tmp u, .tmp q], argTypes := #[24, 31, 61] }) (ht : a.tmps.getD t undef = v) (hu : a.tmps.getD u undef = v2) (hq : a.tmps.getD q undef = v3) (hc : Calls Tryz.prog 29 #[v, v2, v3] w (RowPost w R))
  (hk : ∀ v' w', isT w' v' R → Keeps (fun _ => False) w w' → K (a.put o.dst v') w') : Oper.wp Tryz.prog o a w K Q := by
 have e1 := slot_of ht
 have e2 := slot_of hu
 have e3 := slot_of hq
 unfold Oper.wp
 simp [execOp, ho, e1, e2, e3, go_sem]
 refine hc.mono ?_
 rintro e w' ⟨uo, uc, rfl, h1, h2⟩
 exact hk _ _ ⟨uo, uc, rfl, rowAt_own h1⟩ h2
end
theorem PtAt.ps {w : World} {v : Value} {ls : List SL} (h : PtAt w v ls) (up : Nat) : PsAt (inZ (fun _ => True)) w up v ls := by
 obtain ⟨ao, cap, e, h1⟩ := h
 refine ⟨ao, cap, e, fun h0 => ?_⟩
 obtain ⟨b, e1, hb, h2⟩ := h1 h0
 refine ⟨b, 0, e1, hb, fun i l hl => ?_⟩
 obtain ⟨g, c, h3, h4⟩ := h2 i l hl
 exact ⟨_, by rw [Nat.zero_add]; exact h3, h4.slS up⟩
theorem chains_walk (S : List FieldA) (h : Bool) (vals : List ValA) (ls : List SL) (sv u pv : Value) (w : World) (hT : Types w) (hF : Forms w) (hf : FldsAt w sv S) (hu : ValsAt w u vals) (hp : PsAt (argZ w.heap.size) w 0 pv ls) (hi : ∀ l ∈ ls, intS l) (hv : ∀ v ∈ vals, I64 v.n) (lS : S.length ≤ 1048576) (lr : vals.length ≤ 1048576) (lp : ls.length ≤ 1048576) :
  Calls Tryz.prog 7 #[.agg #[sv], .agg #[.bool h, u], pv] w fun e w' => e = .returned (.bool true) ∧ Keeps (fun _ => False) w w' := by
 obtain ⟨so, sc, rfl⟩ := RowAt.form hf
 have HPX := hide hp
 obtain ⟨po, pc, rfl, hpp⟩ := hp
 obtain ⟨uo, uc, rfl⟩ := RowAt.form hu
 obtain ⟨X, hX, hkX, g0, g2⟩ := boxA2 w #[(.slice so S.length sc)] #[.bool h, (.slice uo vals.length uc)] 24 31
 have HPK := hide hkX
 have H0 := hide (fun (W' : World) (hk : Keeps (fun _ => False) X W') => blk_keep g0 hk)
 have H2 := hide (fun (W' : World) (hk : Keeps (fun _ => False) X W') => blk_keep g2 hk)
 have HT := hide hT
 have HFM := hide hF
 have HFL := hide hf
 have HVA := hide hu
 have HI := hide hi
 have HV64 := hide hv
 have HPP := hide hpp
 clear hT hF hf hu g0 g2 hkX hi hv hpp
 go_enter Tryz.func7, Tryz.ntmps7
 go_wp2_with fail
 go_loopw [7] (fun i wr => ∃ k : Nat, k ≤ ls.length ∧ i = .int .i64 (k : Int) ∧ Hid (∀ (j : Nat) m, j < k → ls[j]? = some m → m.size ≤ 4294967294) ∧ Keeps (fun _ => False) X wr) (fun i _ => ls.length - (intOf i).toNat)
 case atStart => exact ⟨0, Nat.zero_le _, rfl, fun j m hj => by omega, Keeps.refl _ _⟩
 case round =>
  obtain ⟨k, hkl, rfl, HZk, hkp⟩ := hrel
  have HK1 := hide hkp
  clear hkp
  by_cases hlt : k < ls.length
  ·obtain ⟨m, hm⟩ : ∃ m, ls[k]? = some m := ⟨_, List.getElem?_eq_getElem hlt⟩
   obtain ⟨b, off, rfl, hb, hc⟩ := uh HPP (by omega)
   obtain ⟨qv, hq1, hq2⟩ := hc k m hm
   have hKw := (uh HPK).trans (uh HK1)
   have c0 := (hKw.cell hb id).trans hq1
   have HD := hide (deepStmts w.heap.size 0 m qv wr hKw.size (hq2.keepF hKw))
   obtain ⟨qo, qc, rfl, _⟩ := hq2.head
   have i1 : (k : Int) < (ls.length : Int) := by omega
   have i0' : (0 : Int) ≤ (k : Int) := by omega
   have HM := hide hm
   clear hm hq1 hq2 hc hKw
   go_wp2_with fail
   refine (uh HD).mono ?_
   rintro e w1 ⟨r1, rfl, hk1, hz1⟩
   have HK2 := hide ((uh HK1).trans hk1)
   clear hk1 HD c0
   cases r1 with
   | true =>
    clear hz1
    go_wp2_with fail
    go_ret
    exact ⟨rfl, (uh HPK).trans (uh HK2)⟩
   | false =>
    have HZ : Hid (m.size ≤ 4294967294) := by have := hz1 rfl; exact (by omega : m.size ≤ 4294967294)
    clear hz1
    go_wp2_with fail
    go_roundw
    case rel =>
     refine ⟨k + 1, by omega, by go_num, fun j m' hj hm' => ?_, uh HK2⟩
     by_cases hjk : j < k
     ·exact uh HZk j m' hjk hm'
     ·obtain rfl : j = k := by omega
      have := uh HM
      rw [hm'] at this
      simp at this
      subst this
      exact uh HZ
    case measure => simp [intOf]; omega
  ·obtain rfl : k = ls.length := by omega
   have i1 : ¬ (ls.length : Int) < (ls.length : Int) := by omega
   have HMS : Hid (∀ m ∈ ls, m.size ≤ 4294967294) := fun m hm => by
    obtain ⟨j, hj, e⟩ := List.getElem_of_mem hm
    exact uh HZk j m hj (by rw [← e]; exact List.getElem?_eq_getElem hj)
   have HWY := hide ((uh HPK).trans (uh HK1))
   have HGV := hide (givenP_v (argZ 0) _ S .nil ls h vals (.slice so S.length sc) (.slice none 0 0) (.slice po ls.length pc) (.slice uo vals.length uc) wr 0 0 ((uh HFL).keepF (uh HWY)) (slE_nil _ _ _) ((uh HPX).keepF (uh HWY)) ((uh HVA).keepF (uh HWY)) lS (by simp [EL.size]) lp (uh HMS) lr)
   have p0 := cl1 (uh H0 wr (uh HK1))
   obtain ⟨r0, r1⟩ := cl2 (uh H2 wr (uh HK1))
   clear HZk
   go_wp2_with fail
   refine (uh HGV).mono ?_
   rintro e w2 ⟨p, gs, ks, ge, ke, go, kp, gr, kr, rfl, hG, hk2⟩
   have HX2 := hide ((uh HK1).trans hk2)
   have HW2 := hide ((uh HPK).trans (uh HX2))
   have HKX := hide (Keeps.refl (fun _ => False) w2)
   have HG := hide hG
   obtain ⟨y0, y1, y2, y3, y4⟩ := cl5 hG.blk
   have hpl := lt_of_block hG.blk
   have HC := hide (fun (W' : World) (hk : Keeps (fun _ => False) w2 W') => (⟨(hk.cell hpl id).trans y0, (hk.cell hpl id).trans y2, (hk.cell hpl id).trans y3, (hk.cell hpl id).trans y4⟩ :
    W'.cell? ⟨p, 0, none⟩ = some (.slice (some ⟨gs, 0, none⟩) S.length ks) ∧ W'.cell? ⟨p, 0 + 2, none⟩ = some (.slice go ls.length kp) ∧ W'.cell? ⟨p, 0 + 3, none⟩ = some (.bool h) ∧ W'.cell? ⟨p, 0 + 3 + 1, none⟩ = some (.slice (some ⟨gr, 0, none⟩) vals.length kr)))
   have HV := hide (fun (W' : World) (hk : Keeps (fun _ => False) w2 W') => chain_v _ S ls lp (uh HMS) h vals (.slice (some ⟨gs, 0, none⟩) S.length ks) (.slice (some ⟨gr, 0, none⟩) vals.length kr) (.slice go ls.length kp) W' 0 ((uh HT).keepF ((uh HW2).trans hk)) ((uh HFM).keepF ((uh HW2).trans hk)) (hG.s.row.keepF hk) (hG.r.row.keepF hk) ((hG.p.ps 0).keepF hk))
   have HRV := hide (fun (W' : World) (hk : Keeps (fun _ => False) w W') => rchain_v (argZ w.heap.size) S ls lp (uh HMS) (uh HI) h vals (uh HV64) (by omega) (.slice so S.length sc) (.slice uo vals.length uc) (.slice po ls.length pc) W' 0 ((uh HFL).keepF hk) ((uh HVA).keepF hk) ((uh HPX).keepF hk))
   have HST := hide (fun (W' : World) (hk : Keeps (fun _ => False) w2 W') => stillP_v (argZ 0) _ S .nil ls h vals (.slice so S.length sc) (.slice none 0 0) (.slice po ls.length pc) (.slice uo vals.length uc) W' 0 0 p gs ks ge ke go kp gr kr (hG.keepF hk) ((uh HFL).keepF ((uh HW2).trans hk)) (slE_nil _ _ _) ((uh HPX).keepF ((uh HW2).trans hk)) ((uh HVA).keepF ((uh HW2).trans hk)) lS (by simp [EL.size]) lp (uh HMS) lr)
   have HRL : Hid ((chainP S ls h vals).1.2.length ≤ maxLen) := by
    have := chain_len S ls h vals
    show (chainP S ls h vals).1.2.length ≤ maxLen
    unfold maxLen
    omega
   generalize hvp : chainP S ls h vals = R at *
   clear hvp hG hk2 y0 y1 y2 y3 y4 hpl p0 r0 r1 HGV
   go_upto_region 8 with fail
   rename_i Q0 K0 hc0
   refine wp_region_store (X := w2) (by kernel_rfl) 19 17 16 rfl (by decide) _ rfl [32, 33, 34, 35, 36, 37, 38, 39, 40, 41, 42, 43, 44, 31, 45, 46, 10, 10, 11] [0, 1, 2, 3, 4, 5, 6, 7, 8, 9, 10, 11, 12, 13, 14, 16] (by decide) (by first | rfl | kernel_rfl) (by kernel_rfl) (by decide) (by decide) (by decide) (by decide) (by decide) (uh HKX) (fun i v W1 => match i with | 0 => v = .pointer (some ⟨p, 0, none⟩) | 1 => v = .pointer (some ⟨p, 0, none⟩) | 2 => v = .pointer (some ⟨p, 0, none⟩) | 3 => v = .agg #[.slice (some ⟨gs, 0, none⟩) S.length ks] | 4 => v = .pointer (some ⟨p, 0, none⟩) | 5 => v = .pointer (some ⟨p, 0, none⟩) | 6 => v = .pointer (some ⟨p, 0 + 3, none⟩) | 7 => v = .agg #[.bool h, .slice (some ⟨gr, 0, none⟩) vals.length kr] | 8 => v = .pointer (some ⟨p, 0, none⟩) | 9 => v = .pointer (some ⟨p, 0, none⟩) | 10 => v = .pointer (some ⟨p, 0 + 2, none⟩) | 11 => v = .slice go ls.length kp | 12 => isT W1 v R | 13 => isT W1 v R | 14 => isR W1 v R.1 | 15 => v = .int .i64 R.2 | 16 => isB31 w2.heap.size W1 v | 18 => v = .int .i64 R.2 | _ => True) ?_ (fun i v => match i with | 0 => v = .pointer (some ⟨p, 0, none⟩) | 1 => v = .pointer (some ⟨p, 0, none⟩) | 2 => v = .pointer (some ⟨p, 0, none⟩) | 3 => v = .agg #[.slice (some ⟨gs, 0, none⟩) S.length ks] | 4 => v = .pointer (some ⟨p, 0, none⟩) | 5 => v = .pointer (some ⟨p, 0, none⟩) | 6 => v = .pointer (some ⟨p, 0 + 3, none⟩) | 7 => v = .agg #[.bool h, .slice (some ⟨gr, 0, none⟩) vals.length kr] | 8 => v = .pointer (some ⟨p, 0, none⟩) | 9 => v = .pointer (some ⟨p, 0, none⟩) | 10 => v = .pointer (some ⟨p, 0 + 2, none⟩) | 11 => v = .slice go ls.length kp | 12 => ∃ x, v = .tuple #[x, .int .i64 R.2] | 13 => ∃ x, v = .tuple #[x, .int .i64 R.2] | 15 => v = .int .i64 R.2 | 18 => v = .int .i64 R.2 | _ => True) ?_ (fun v W1 => isRB w2 v W1 R.1) ?_ ?_ ?_ ?_
   ·intro i v w1 w2 hq hk
    rcases i with _ | _ | _ | _ | _ | _ | _ | _ | _ | _ | _ | _ | _ | _ | _ | _ | _ | _ | _ | i
    all_goals first | exact hq | exact isT.keepF hq hk | exact isR.keepF hq hk | exact isB31.keep hq hk
   ·intro i v w1 hq
    rcases i with _ | _ | _ | _ | _ | _ | _ | _ | _ | _ | _ | _ | _ | _ | _ | _ | _ | _ | _ | i
    all_goals first | exact hq | trivial | exact isT.ext hq
   ·intro i o A W1 him his ho hs hk hd hne K' hK
    rcases i with _ | _ | _ | _ | _ | _ | _ | _ | _ | _ | _ | _ | _ | _ | _ | _ | _ | _ | _ | i
    ·obtain rfl := Option.some.inj ho
     exact step_move rfl ((hs.at rfl 9 (by decide)).trans rfl) (hK _ _ rfl (Keeps.refl _ _))
    ·obtain rfl := Option.some.inj ho
     exact step_nil rfl (hd ⟨0, .data⟩ (by simp) rfl (by decide)) (hK _ _ rfl (Keeps.refl _ _))
    ·obtain rfl := Option.some.inj ho
     exact step_fieldG0 rfl (hd ⟨1, .data⟩ (by simp) rfl (by decide)) (hK _ _ rfl (Keeps.refl _ _))
    ·obtain rfl := Option.some.inj ho
     exact step_load24c rfl (hd ⟨2, .data⟩ (by simp) rfl (by decide)) (uh HC W1 hk).1 (hK _ _ rfl (Keeps.refl _ _))
    ·obtain rfl := Option.some.inj ho
     exact step_move rfl ((hs.at rfl 9 (by decide)).trans rfl) (hK _ _ rfl (Keeps.refl _ _))
    ·obtain rfl := Option.some.inj ho
     exact step_nil rfl (hd ⟨4, .data⟩ (by simp) rfl (by decide)) (hK _ _ rfl (Keeps.refl _ _))
    ·obtain rfl := Option.some.inj ho
     exact step_fieldG3 rfl (hd ⟨5, .data⟩ (by simp) rfl (by decide)) (hK _ _ rfl (Keeps.refl _ _))
    ·obtain rfl := Option.some.inj ho
     exact step_load31c rfl (hd ⟨6, .data⟩ (by simp) rfl (by decide)) (uh HC W1 hk).2.2.1 (uh HC W1 hk).2.2.2 (hK _ _ rfl (Keeps.refl _ _))
    ·obtain rfl := Option.some.inj ho
     exact step_move rfl ((hs.at rfl 9 (by decide)).trans rfl) (hK _ _ rfl (Keeps.refl _ _))
    ·obtain rfl := Option.some.inj ho
     exact step_nil rfl (hd ⟨8, .data⟩ (by simp) rfl (by decide)) (hK _ _ rfl (Keeps.refl _ _))
    ·obtain rfl := Option.some.inj ho
     exact step_fieldG2 rfl (hd ⟨9, .data⟩ (by simp) rfl (by decide)) (hK _ _ rfl (Keeps.refl _ _))
    ·obtain rfl := Option.some.inj ho
     exact step_load61 rfl (hd ⟨10, .data⟩ (by simp) rfl (by decide)) (uh HC W1 hk).2.1 (hK _ _ rfl (Keeps.refl _ _))
    ·obtain rfl := Option.some.inj ho
     exact step_c29 rfl (hd ⟨3, .data⟩ (by simp) rfl (by decide)) (hd ⟨7, .data⟩ (by simp) rfl (by decide)) (hd ⟨11, .data⟩ (by simp) rfl (by decide)) (uh HV W1 hk) (fun v' w' q1 q2 => hK v' w' q1 q2)
    ·obtain rfl := Option.some.inj ho
     exact step_moveT (P := fun v => isT W1 v R) rfl (hd ⟨12, .data⟩ (by simp) rfl (by decide)) (fun v' q => hK v' _ q (Keeps.refl _ _))
    ·obtain rfl := Option.some.inj ho
     exact step_ext0R rfl (hd ⟨13, .data⟩ (by simp) rfl (by decide)) (fun v' q => hK v' _ q (Keeps.refl _ _))
    ·obtain rfl := Option.some.inj ho
     exact step_ext1T rfl (isT.ext (hd ⟨13, .data⟩ (by simp) rfl (by decide))) (hK _ _ rfl (Keeps.refl _ _))
    ·obtain rfl := Option.some.inj ho
     exact step_alloc31 rfl hk.size (fun v' w' h1 h2 => hK v' w' h1 h2)
    ·exact absurd rfl his
    ·obtain rfl := Option.some.inj ho
     exact step_assign rfl (hd ⟨15, .data⟩ (by simp) rfl (by decide)) (hK _ _ rfl (Keeps.refl _ _))
    ·omega
   ·intro A V hs hk hall K' hK
    have hb : isB31 w2.heap.size V (A.tmps.getD 10 undef) := hall 16 (by decide)
    have v16 : isR V (A.tmps.getD 45 undef) R.1 := hall 14 (by decide)
    exact step_storeR rfl rfl hb v16 hk (fun V2 q => hK V2 q)
   ·intro i o A W1 him his hni ho hd K' hK
    rcases i with _ | _ | _ | _ | _ | _ | _ | _ | _ | _ | _ | _ | _ | _ | _ | _ | _ | _ | _ | i
    ·exact absurd (by decide) hni
    ·exact absurd (by decide) hni
    ·exact absurd (by decide) hni
    ·exact absurd (by decide) hni
    ·exact absurd (by decide) hni
    ·exact absurd (by decide) hni
    ·exact absurd (by decide) hni
    ·exact absurd (by decide) hni
    ·exact absurd (by decide) hni
    ·exact absurd (by decide) hni
    ·exact absurd (by decide) hni
    ·exact absurd (by decide) hni
    ·exact absurd (by decide) hni
    ·exact absurd (by decide) hni
    ·exact absurd (by decide) hni
    ·obtain rfl := Option.some.inj ho
     exact step_ext1T rfl (hd ⟨13, .data⟩ (by simp) rfl (by decide)) (hK _ rfl)
    ·exact absurd (by decide) hni
    ·exact absurd rfl his
    ·obtain rfl := Option.some.inj ho
     exact step_assign rfl (hd ⟨15, .data⟩ (by simp) rfl (by decide)) (hK _ rfl)
    ·omega
   ·intro A V2 hs hgx hall
    obtain ⟨gg, ro, rc, hp, hg, hgb, hrv, hkV⟩ : isRB w2 (A.tmps.getD 10 undef) V2 R.1 := hgx
    have v0 : A.tmps.getD 32 undef = .pointer (some ⟨p, 0, none⟩) := hall 0 (by decide) (by decide)
    have v1 : A.tmps.getD 33 undef = .pointer (some ⟨p, 0, none⟩) := hall 1 (by decide) (by decide)
    have v2 : A.tmps.getD 34 undef = .pointer (some ⟨p, 0, none⟩) := hall 2 (by decide) (by decide)
    have v3 : A.tmps.getD 35 undef = .agg #[.slice (some ⟨gs, 0, none⟩) S.length ks] := hall 3 (by decide) (by decide)
    have v4 : A.tmps.getD 36 undef = .pointer (some ⟨p, 0, none⟩) := hall 4 (by decide) (by decide)
    have v5 : A.tmps.getD 37 undef = .pointer (some ⟨p, 0, none⟩) := hall 5 (by decide) (by decide)
    have v6 : A.tmps.getD 38 undef = .pointer (some ⟨p, 0 + 3, none⟩) := hall 6 (by decide) (by decide)
    have v7 : A.tmps.getD 39 undef = .agg #[.bool h, .slice (some ⟨gr, 0, none⟩) vals.length kr] := hall 7 (by decide) (by decide)
    have v8 : A.tmps.getD 40 undef = .pointer (some ⟨p, 0, none⟩) := hall 8 (by decide) (by decide)
    have v9 : A.tmps.getD 41 undef = .pointer (some ⟨p, 0, none⟩) := hall 9 (by decide) (by decide)
    have v10 : A.tmps.getD 42 undef = .pointer (some ⟨p, 0 + 2, none⟩) := hall 10 (by decide) (by decide)
    have v11 : A.tmps.getD 43 undef = .slice go ls.length kp := hall 11 (by decide) (by decide)
    have v15 : A.tmps.getD 46 undef = .int .i64 R.2 := hall 15 (by decide) (by decide)
    have v20 : A.tmps.getD 11 undef = .int .i64 R.2 := hall 18 (by decide) (by decide)
    refine hc0 _ _ ?_
    have hA := same_fold hs rfl
    simp only [List.foldl_cons, List.foldl_nil, v0, v1, v2, v3, v4, v5, v6, v7, v8, v9, v10, v11, v15, v20, hp] at hA
    simp only [Act.put, List.setIfInBounds_toArray, List.set_cons_zero, List.set_cons_succ] at hA
    have HB := hide (fun (W' : World) (q : Keeps (fun _ => False) V2 W') => blk_keep hgb q)
    have HRR := hide hrv
    have HKV := hide hkV
    have HXV := hide ((uh HX2).trans hkV)
    rw [hA]
    generalize A.tmps.getD 44 undef = u44 at *
    generalize A.tmps.getD 31 undef = u31 at *
    generalize A.tmps.getD 45 undef = u45 at *
    clear hs hall hA hp hg hgb hrv hkV v20 v0 v1 v2 v3 v4 v5 v6 v7 v8 v9 v10 v11 v15
    obtain ⟨⟨rh, rv⟩, rE⟩ := R
    have p0 := cl1 (uh H0 V2 (uh HXV))
    obtain ⟨r0, r1⟩ := cl2 (uh H2 V2 (uh HXV))
    skip
    go_wp2_with fail
    refine (uh HRV V2 ((uh HPK).trans (uh HXV))).mono ?_
    rintro e w3 ⟨no, nc, rfl, hnv, hk3⟩
    have kA := kAlloc w3 (.cells #[.bool rh, .slice no rv.length nc] 31)
    have HV3 := hide (hk3.trans kA)
    have gB := heap_alloc_new w3 (.cells #[.bool rh, .slice no rv.length nc] 31)
    obtain ⟨b0, b1⟩ := cl2 gB
    obtain ⟨a0, a1⟩ := cl2 (uh HB _ (hk3.trans kA))
    have HEQ : Hid (Calls Tryz.prog 14 #[.agg #[.bool rh, .slice ro rv.length rc], .agg #[.bool rh, .slice no rv.length nc]] (w3.alloc (.cells #[.bool rh, .slice no rv.length nc] 31)) fun e w' => e = .returned (.bool true) ∧ Keeps (fun _ => False) (w3.alloc (.cells #[.bool rh, .slice no rv.length nc] 31)) w') := by
     have := eqRow_v (w3.alloc (.cells #[.bool rh, .slice no rv.length nc] 31)) rh rh _ _ rv rv ((uh HRR).keepF (hk3.trans kA)) (hnv.keepF kA) (uh HRL)
     rw [decide_eq_true (show rh = rh from rfl), decide_eq_true (show rv = rv from rfl)] at this
     exact this
    clear hk3 kA gB p0 r0 r1 hnv
    skip
    generalize hY3 : w3.alloc (.cells #[.bool rh, .slice no rv.length nc] 31) = Y3 at *
    go_wp2_with fail
    refine (uh HEQ).mono ?_
    rintro e w4 ⟨rfl, hk4⟩
    have HV4 := hide ((uh HV3).trans hk4)
    have p0 := cl1 (uh H0 w4 ((uh HXV).trans (uh HV4)))
    obtain ⟨r0, r1⟩ := cl2 (uh H2 w4 ((uh HXV).trans (uh HV4)))
    have ee : (rE == rE) = true := by simp
    clear hk4 a0 a1 b0 b1
    go_wp2_with fail
    refine (uh HST w4 ((uh HKV).trans (uh HV4))).mono ?_
    rintro e w5 ⟨rfl, hk5⟩
    have HKE := hide ((((uh HPK).trans (uh HXV)).trans (uh HV4)).trans hk5)
    clear hk5 p0 r0 r1
    go_wp2_with fail
    go_ret
    exact ⟨by first | rfl | simp, uh HKE⟩
end Go.Proofs.YtiinohibmcefkaaGreatDoor
