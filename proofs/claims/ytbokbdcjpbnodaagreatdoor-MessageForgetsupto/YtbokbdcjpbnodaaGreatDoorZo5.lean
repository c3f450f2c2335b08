import Derived.Test.YtbokbdcjpbnodaaGreatDoorLq
import Derived.Test.YtbokbdcjpbnodaaGreatDoorLr
import Derived.Test.YtbokbdcjpbnodaaGreatDoorLp
import Derived.Test.YtbokbdcjpbnodaaGreatDoorKg
import Derived.Test.YtbokbdcjpbnodaaGreatDoorLh
import Derived.Deep.DeepCutAuto
namespace Go.Proofs.YtbokbdcjpbnodaaGreatDoor
open Go.RowKit Go.Maps
set_option maxRecDepth 100000
set_option maxHeartbeats 20000000
theorem forgets_walk (S : List FieldA) (sv ua ub vas vbs vr : Value) (ha hb : Bool) (va vb : List ValA) (LA LB : List MsgC) (x : MsgC) (LR : List MsgC) (w : World) (hE : EnvM w) (hS : FldsAt w sv S) (hra : ValsAt w ua va) (hrb : ValsAt w ub vb) (hma : MsgsAt w vas LA) (hmb : MsgsAt w vbs LB) (hx : MsgOK w x) (hmr : MsgsAt w vr LR) (hSL : S.length ≤ 4398046511104) (hAL : va.length ≤ 4398046511104) (hBL : vb.length ≤ 4398046511104) (hL1 : (LA.length + 1 + LR.length) * 72 ≤ 140737488355328) (hL2 : (LB.length + 1 + LR.length) * 72 ≤ 140737488355328) :
  Calls Tryz.prog 7 #[.agg #[sv], .agg #[.bool ha, ua], .agg #[.bool hb, ub], vas, vbs, .agg #[.int .i64 x.m.kind, str x.m.key, x.vv, x.cv], vr] w fun e w' => e = .returned (.bool true) ∧ Keeps (fun _ => False) w w' := by
 obtain ⟨⟨xk, xkey, xv, xc⟩, xvv, xcv⟩ := x
 obtain ⟨vo, vc, ev⟩ := RowAt.form hx.vals
 obtain ⟨co, cc, ec⟩ := RowAt.form hx.code
 obtain rfl : xvv = .slice vo xv.length vc := ev
 obtain rfl : xcv = .slice co xc.length cc := ec
 show Calls Tryz.prog 7 #[.agg #[sv], .agg #[.bool ha, ua], .agg #[.bool hb, ub], vas, vbs, .agg #[.int .i64 xk, str xkey, .slice vo xv.length vc, .slice co xc.length cc], vr] w _
 obtain ⟨so, sc, rfl⟩ := RowAt.form hS
 obtain ⟨uo, uc, rfl⟩ := RowAt.form hra
 obtain ⟨u2o, u2c, rfl⟩ := RowAt.form hrb
 obtain ⟨ao, ac, rfl⟩ := RowAt.form hma.row
 obtain ⟨bo, bc, rfl⟩ := RowAt.form hmb.row
 obtain ⟨ro, rc, rfl⟩ := RowAt.form hmr.row
 obtain ⟨X0, hX0, hkW, g0, g1, g2, g3⟩ := boxes4 w #[.slice so S.length sc] #[.bool ha, .slice uo va.length uc] #[.bool hb, .slice u2o vb.length u2c] #[.int .i64 xk, str xkey, .slice vo xv.length vc, .slice co xc.length cc] 24 28 28 50
 have HL1 := hide hL1
 have HL2 := hide hL2
 have PE := hide (hE.keepF hkW)
 have PS := hide (hS.keepF hkW)
 have PA := hide (hra.keepF hkW)
 have PB := hide (hrb.keepF hkW)
 have PMA := hide (hma.keepF hkW)
 have PMB := hide (hmb.keepF hkW)
 have PMR := hide (hmr.keepF hkW)
 have PX := hide (hx.keepF hkW)
 have HXL := hide hx.lv
 have HVR : Hid (∀ y ∈ LR.map MsgC.m, y.vals.length ≤ 4398046511104) := fun y hy => by obtain ⟨z, hz, rfl⟩ := List.mem_map.1 hy; exact (hmr.ok z hz).lv
 have HK := hide hkW
 have BS := hide g0
 have BA := hide g1
 have BB := hide g2
 have BM := hide g3
 obtain ⟨AA, HAA⟩ : ∃ A, Hid (applyA S ha va (LA.map MsgC.m) = A) := ⟨_, rfl⟩
 obtain ⟨AB, HAB⟩ : ∃ A, Hid (applyA S hb vb (LB.map MsgC.m) = A) := ⟨_, rfl⟩
 obtain ⟨AM, HAM⟩ : ∃ A, Hid (applyA S ha va [⟨xk, xkey, xv, xc⟩] = A) := ⟨_, rfl⟩
 obtain ⟨AR, HAR⟩ : ∃ A, Hid (applyA S ha va (LR.map MsgC.m) = A) := ⟨_, rfl⟩
 clear hE hS hra hrb hma hmb hx hmr hkW g0 g1 g2 g3 hL1 hL2
 have cc1 := cl1 (uh BS)
 obtain ⟨cc2, cc3⟩ := cl2 (uh BA)
 obtain ⟨cc4, cc5⟩ := cl2 (uh BB)
 obtain ⟨cc6, cc7, cc8, cc9⟩ := cl4 (uh BM)
 by_cases h3 : xk = 3
 ·subst h3
  go_enter Tryz.func7, Tryz.ntmps7
  go_wp2_with fail
  go_ret
  exact ⟨rfl, uh HK⟩
 have d3 : decide (xk = 3) = false := decide_eq_false h3
 have HQ := hide (may_v S _ _ _ ha va LA X0 (uh PS) (uh PA) (uh PMA) (by have := uh HL1; omega) hAL)
 rw [uh HAA] at HQ
 go_enter Tryz.func7, Tryz.ntmps7
 go_wp2_with fail
 refine (uh HQ).mono ?_
 rintro e w1 ⟨rfl, hk⟩
 clear HQ
 clear cc1 cc2 cc3 cc4 cc5 cc6 cc7 cc8 cc9
 replace BS := hide (blk_keep (uh BS) hk)
 replace BA := hide (blk_keep (uh BA) hk)
 replace BB := hide (blk_keep (uh BB) hk)
 replace BM := hide (blk_keep (uh BM) hk)
 replace PE := hide ((uh PE).keepF hk)
 replace PS := hide ((uh PS).keepF hk)
 replace PA := hide ((uh PA).keepF hk)
 replace PB := hide ((uh PB).keepF hk)
 replace PMA := hide ((uh PMA).keepF hk)
 replace PMB := hide ((uh PMB).keepF hk)
 replace PMR := hide ((uh PMR).keepF hk)
 replace PX := hide ((uh PX).keepF hk)
 replace HK := hide ((uh HK).trans hk)
 clear hk
 have cc10 := cl1 (uh BS)
 obtain ⟨cc11, cc12⟩ := cl2 (uh BA)
 obtain ⟨cc13, cc14⟩ := cl2 (uh BB)
 obtain ⟨cc15, cc16, cc17, cc18⟩ := cl4 (uh BM)
 by_cases h1 : ¬ AA.e = 0
 ·have dh1 : decide (AA.e = 0) = false := decide_eq_false h1
  go_wp2_with fail
  go_ret
  exact ⟨rfl, uh HK⟩
 replace h1 := Classical.byContradiction h1
 have dh1 : decide (AA.e = 0) = true := decide_eq_true h1
 have HQ := hide (may_v S _ _ _ hb vb LB w1 (uh PS) (uh PB) (uh PMB) (by have := uh HL2; omega) hBL)
 rw [uh HAB] at HQ
 go_wp2_with fail
 refine (uh HQ).mono ?_
 rintro e w2 ⟨rfl, hk⟩
 clear HQ
 clear cc10 cc11 cc12 cc13 cc14 cc15 cc16 cc17 cc18
 replace BS := hide (blk_keep (uh BS) hk)
 replace BA := hide (blk_keep (uh BA) hk)
 replace BB := hide (blk_keep (uh BB) hk)
 replace BM := hide (blk_keep (uh BM) hk)
 replace PE := hide ((uh PE).keepF hk)
 replace PS := hide ((uh PS).keepF hk)
 replace PA := hide ((uh PA).keepF hk)
 replace PB := hide ((uh PB).keepF hk)
 replace PMA := hide ((uh PMA).keepF hk)
 replace PMB := hide ((uh PMB).keepF hk)
 replace PMR := hide ((uh PMR).keepF hk)
 replace PX := hide ((uh PX).keepF hk)
 replace HK := hide ((uh HK).trans hk)
 clear hk
 have cc19 := cl1 (uh BS)
 obtain ⟨cc20, cc21⟩ := cl2 (uh BA)
 obtain ⟨cc22, cc23⟩ := cl2 (uh BB)
 obtain ⟨cc24, cc25, cc26, cc27⟩ := cl4 (uh BM)
 by_cases h2 : ¬ AB.e = 0
 ·have dh2 : decide (AB.e = 0) = false := decide_eq_false h2
  go_wp2_with fail
  go_ret
  exact ⟨rfl, uh HK⟩
 replace h2 := Classical.byContradiction h2
 have dh2 : decide (AB.e = 0) = true := decide_eq_true h2
 have kL := kAlloc w2 (.cells #[.int .i64 xk, str xkey, .slice vo xv.length vc, .slice co xc.length cc] 50)
 have HQ := hide (may_v S _ _ _ ha va [⟨⟨xk, xkey, xv, xc⟩, .slice vo xv.length vc, .slice co xc.length cc⟩] _ ((uh PS).keepF kL) ((uh PA).keepF kL) (lit_ok (uh PX)) (by simp) hAL)
 simp only [List.map_cons, List.map_nil] at HQ
 rw [uh HAM] at HQ
 have HKL := hide kL
 clear kL
 go_wp2_with fail
 refine (uh HQ).mono ?_
 rintro e w3 ⟨rfl, hk3⟩
 clear HQ
 have hk := (uh HKL).trans hk3
 clear cc19 cc20 cc21 cc22 cc23 cc24 cc25 cc26 cc27
 replace BS := hide (blk_keep (uh BS) hk)
 replace BA := hide (blk_keep (uh BA) hk)
 replace BB := hide (blk_keep (uh BB) hk)
 replace BM := hide (blk_keep (uh BM) hk)
 replace PE := hide ((uh PE).keepF hk)
 replace PS := hide ((uh PS).keepF hk)
 replace PA := hide ((uh PA).keepF hk)
 replace PB := hide ((uh PB).keepF hk)
 replace PMA := hide ((uh PMA).keepF hk)
 replace PMB := hide ((uh PMB).keepF hk)
 replace PMR := hide ((uh PMR).keepF hk)
 replace PX := hide ((uh PX).keepF hk)
 replace HK := hide ((uh HK).trans hk)
 clear hk hk3 HKL
 have cc28 := cl1 (uh BS)
 obtain ⟨cc29, cc30⟩ := cl2 (uh BA)
 obtain ⟨cc31, cc32⟩ := cl2 (uh BB)
 obtain ⟨cc33, cc34, cc35, cc36⟩ := cl4 (uh BM)
 by_cases h4 : ¬ AM.e = 0
 ·have d4 : decide (AM.e = 0) = false := decide_eq_false h4
  go_wp2_with fail
  go_ret
  exact ⟨rfl, uh HK⟩
 replace h4 := Classical.byContradiction h4
 have d4 : decide (AM.e = 0) = true := decide_eq_true h4
 have HQ := hide (may_v S _ _ _ ha va LR w3 (uh PS) (uh PA) (uh PMR) (by have := uh HL1; omega) hAL)
 rw [uh HAR] at HQ
 go_wp2_with fail
 refine (uh HQ).mono ?_
 rintro e w4 ⟨rfl, hk⟩
 clear HQ
 clear cc28 cc29 cc30 cc31 cc32 cc33 cc34 cc35 cc36
 replace BS := hide (blk_keep (uh BS) hk)
 replace BA := hide (blk_keep (uh BA) hk)
 replace BB := hide (blk_keep (uh BB) hk)
 replace BM := hide (blk_keep (uh BM) hk)
 replace PE := hide ((uh PE).keepF hk)
 replace PS := hide ((uh PS).keepF hk)
 replace PA := hide ((uh PA).keepF hk)
 replace PB := hide ((uh PB).keepF hk)
 replace PMA := hide ((uh PMA).keepF hk)
 replace PMB := hide ((uh PMB).keepF hk)
 replace PMR := hide ((uh PMR).keepF hk)
 replace PX := hide ((uh PX).keepF hk)
 replace HK := hide ((uh HK).trans hk)
 clear hk
 have cc37 := cl1 (uh BS)
 obtain ⟨cc38, cc39⟩ := cl2 (uh BA)
 obtain ⟨cc40, cc41⟩ := cl2 (uh BB)
 obtain ⟨cc42, cc43, cc44, cc45⟩ := cl4 (uh BM)
 by_cases h5 : ¬ AR.e = 0
 ·have dh5 : decide (AR.e = 0) = false := decide_eq_false h5
  go_wp2_with fail
  go_ret
  exact ⟨rfl, uh HK⟩
 replace h5 := Classical.byContradiction h5
 have dh5 : decide (AR.e = 0) = true := decide_eq_true h5
 go_upto_region 3 with fail
 clear cc37 cc38 cc39 cc40 cc41 cc42 cc43 cc44 cc45
 have hM0 : firstM S [⟨xk, xkey, xv, xc⟩] = 0 := may_first (S := S) (hh := ha) (vals := va) (by rw [uh HAM]; exact h4)
 have hR0 : firstM S (LR.map MsgC.m) = 0 := may_first (S := S) (hh := ha) (vals := va) (by rw [uh HAR]; exact h5)
 obtain ⟨AO, HAO⟩ : ∃ A : OutA, Hid (A = ⟨0, (foldA S (startM ⟨xk, xkey, xv, xc⟩) (LR.map MsgC.m)).1, (foldA S (startM ⟨xk, xkey, xv, xc⟩) (LR.map MsgC.m)).2, 0, 0⟩) := ⟨_, rfl⟩
 have HA1 : Hid (applyA S ha va (LA.map MsgC.m ++ ⟨xk, xkey, xv, xc⟩ :: LR.map MsgC.m) = AO) := by show _ = _; rw [uh HAO]; exact forget_list (by rw [uh HAA]; exact h1) hM0 hR0 h3
 have HA2 : Hid (applyA S hb vb (LB.map MsgC.m ++ ⟨xk, xkey, xv, xc⟩ :: LR.map MsgC.m) = AO) := by show _ = _; rw [uh HAO]; exact forget_list (by rw [uh HAB]; exact h2) hM0 hR0 h3
 have HA3 : Hid (applyA S (startM ⟨xk, xkey, xv, xc⟩).1 (startM ⟨xk, xkey, xv, xc⟩).2 (LR.map MsgC.m) = AO) := by show _ = _; rw [uh HAO]; exact forget_start (by rw [uh HAA]; exact h1) hM0 hR0 h3
 obtain ⟨hs1, hs2⟩ := start_parts hM0 h3
 have HS1 := hide hs1
 have HS2 := hide hs2
 have e1 : (AO.e != 0) = false := by rw [uh HAO]; rfl
 have HAL : Hid (AO.vals.length ≤ maxLen) := by
  show _ ≤ _
  rw [← uh HA3]
  exact Nat.le_trans (apply_len (M := 4398046511104) (by omega) (by rw [hs2]; exact uh HXL) (uh HVR)) (by unfold maxLen; omega)
 have HRZ : Hid (LR.length = 0 → AO.here = decide (xk = 1) ∧ AO.vals = xv) := fun h0 => by
  have hn : LR = [] := List.eq_nil_of_length_eq_zero h0
  have h6 := uh HAO
  rw [hn] at h6
  rw [h6]
  exact ⟨hs1, hs2⟩
 have HS3 : Hid (xk = 1 → startM ⟨xk, xkey, xv, xc⟩ = (true, xv)) := fun h => if_pos h
 have HS4 : Hid (¬ xk = 1 → startM ⟨xk, xkey, xv, xc⟩ = (false, [])) := fun h => if_neg h
 clear hs1 hs2 hM0 hR0 h1 h2 h4 h5 dh1 dh2 d4 dh5 d3 HAA HAB HAM HAR HAO
 generalize startM ⟨xk, xkey, xv, xc⟩ = ST at *
 go_cut [15] (fun v wx => ∃ o c, v = .slice o (LA.length + 1 + LR.length) c ∧ Hid (∃ N : List MsgC, N.map MsgC.m = LA.map MsgC.m ++ (⟨xk, xkey, xv, xc⟩ : MsgA) :: LR.map MsgC.m ∧ MsgsAt wx (.slice o (LA.length + 1 + LR.length) c) N) ∧ Hid (Keeps (fun _ => False) w4 wx))
 case first =>
  have HSK : Hid (∀ w', Keeps (fun q => w4.heap.size ≤ q) w4 w' → w'.cell? ⟨w.heap.size + 1 + 1 + 1, 0, none⟩ = some (.int .i64 xk) ∧ w'.cell? ⟨w.heap.size + 1 + 1 + 1, 1, none⟩ = some (str xkey) ∧ w'.cell? ⟨w.heap.size + 1 + 1 + 1, 2, none⟩ = some (.slice vo xv.length vc) ∧ w'.cell? ⟨w.heap.size + 1 + 1 + 1, 3, none⟩ = some (.slice co xc.length cc)) := fun w' hk => by
   have x1 := (hk.block _ (lt_of_block (uh BM)) (by have := lt_of_block (uh BM); omega)).trans (uh BM)
   exact cl4 x1
  obtain ⟨fa0, fa1, fa2, fa3⟩ := uh HSK w4 (Keeps.refl _ _)
  have HL := hide (Lap.first w4 LA ⟨xk, xkey, xv, xc⟩ LR)
  have mk0 : True := trivial
  go_region_held3 (fun w' => w'.cell? ⟨w.heap.size + 1 + 1 + 1, 0, none⟩ = some (.int .i64 xk) ∧ w'.cell? ⟨w.heap.size + 1 + 1 + 1, 1, none⟩ = some (str xkey) ∧ w'.cell? ⟨w.heap.size + 1 + 1 + 1, 2, none⟩ = some (.slice vo xv.length vc) ∧ w'.cell? ⟨w.heap.size + 1 + 1 + 1, 3, none⟩ = some (.slice co xc.length cc))
   (first | with_reducible exact uh HSK _ (uh HL).kept.any | with_reducible exact uh HSK _ (uh HL).kept.any.drew | with_reducible exact uh HSK _ ((uh HL).kept.any.alloc _) | with_reducible exact uh HSK _ ((uh HL).kept.any.alloc _).drew | with_reducible exact uh HSK _ (uh HL).2.any)
   ((first
   | (clear mk0; go_at_call 27; refine (lap_a (by first | with_reducible exact uh HL | with_reducible exact (uh HL).drew) (uh PMA) (by have := uh HL1; omega)).mono ?_; rintro e w3 ⟨t1o, t1c, rfl, hl3⟩; have HL := hide hl3; clear hl3)
   | (go_at_call 21; refine (lap_b (by first | with_reducible exact uh HL | with_reducible exact (uh HL).drew) (uh PX)).mono ?_; rintro e w3 ⟨t3a, t3b, t3c, t3d, rfl, hl3⟩; have HL := hide hl3; have mk1 : True := trivial; clear hl3)
   | (clear mk1; refine lap_app1 (uh HL) (by have := uh HL1; omega) (by rfl) _ _ (by rfl) (by rfl) (by rfl) ?_; intro g4 g4c w4 hl3; have HL := hide hl3; clear hl3)
   | (go_at_call 27; refine (lap_d (by first | with_reducible exact uh HL | with_reducible exact (uh HL).drew) (uh PMR) (by have := uh HL1; omega)).mono ?_; rintro e w3 ⟨t5o, t5c, rfl, hl3⟩; have HL := hide hl3; have mk3 : True := trivial; clear hl3)
   | (clear mk3; refine lap_app2 (uh HL) (by have := uh HL1; omega) (by rfl) _ _ (by rfl) (by rfl) (by rfl) ?_; intro g6 g6c w6 hl3; have HL := hide hl3; clear hl3)
   ))
  all_goals go_wp2_with fail
  all_goals go_meet
  all_goals exact ⟨_, _, rfl, (uh HL).1, (uh HL).2⟩
 case rest =>
  obtain ⟨o15, c15, rfl, HNA, HKC⟩ := hcut
  have hk := uh HKC
  replace BS := hide (blk_keep (uh BS) hk)
  replace BA := hide (blk_keep (uh BA) hk)
  replace BB := hide (blk_keep (uh BB) hk)
  replace BM := hide (blk_keep (uh BM) hk)
  replace PE := hide ((uh PE).keepF hk)
  replace PS := hide ((uh PS).keepF hk)
  replace PA := hide ((uh PA).keepF hk)
  replace PB := hide ((uh PB).keepF hk)
  replace PMA := hide ((uh PMA).keepF hk)
  replace PMB := hide ((uh PMB).keepF hk)
  replace PMR := hide ((uh PMR).keepF hk)
  replace PX := hide ((uh PX).keepF hk)
  replace HK := hide ((uh HK).trans hk)
  clear hk HKC
  go_upto_region 4 with fail
  go_cut [16] (fun v wx => ∃ o c, v = .slice o (LB.length + 1 + LR.length) c ∧ Hid (∃ N : List MsgC, N.map MsgC.m = LB.map MsgC.m ++ (⟨xk, xkey, xv, xc⟩ : MsgA) :: LR.map MsgC.m ∧ MsgsAt wx (.slice o (LB.length + 1 + LR.length) c) N) ∧ Hid (Keeps (fun _ => False) wc wx))
  case first =>
   have HSK : Hid (∀ w', Keeps (fun q => wc.heap.size ≤ q) wc w' → w'.cell? ⟨w.heap.size + 1 + 1 + 1, 0, none⟩ = some (.int .i64 xk) ∧ w'.cell? ⟨w.heap.size + 1 + 1 + 1, 1, none⟩ = some (str xkey) ∧ w'.cell? ⟨w.heap.size + 1 + 1 + 1, 2, none⟩ = some (.slice vo xv.length vc) ∧ w'.cell? ⟨w.heap.size + 1 + 1 + 1, 3, none⟩ = some (.slice co xc.length cc)) := fun w' hk => by
    have x1 := (hk.block _ (lt_of_block (uh BM)) (by have := lt_of_block (uh BM); omega)).trans (uh BM)
    exact cl4 x1
   obtain ⟨fa0, fa1, fa2, fa3⟩ := uh HSK wc (Keeps.refl _ _)
   have HL := hide (Lap.first wc LB ⟨xk, xkey, xv, xc⟩ LR)
   have mk0 : True := trivial
   go_region_held3 (fun w' => w'.cell? ⟨w.heap.size + 1 + 1 + 1, 0, none⟩ = some (.int .i64 xk) ∧ w'.cell? ⟨w.heap.size + 1 + 1 + 1, 1, none⟩ = some (str xkey) ∧ w'.cell? ⟨w.heap.size + 1 + 1 + 1, 2, none⟩ = some (.slice vo xv.length vc) ∧ w'.cell? ⟨w.heap.size + 1 + 1 + 1, 3, none⟩ = some (.slice co xc.length cc))
    (first | with_reducible exact uh HSK _ (uh HL).kept.any | with_reducible exact uh HSK _ (uh HL).kept.any.drew | with_reducible exact uh HSK _ ((uh HL).kept.any.alloc _) | with_reducible exact uh HSK _ ((uh HL).kept.any.alloc _).drew | with_reducible exact uh HSK _ (uh HL).2.any)
    ((first
    | (clear mk0; go_at_call 27; refine (lap_a (by first | with_reducible exact uh HL | with_reducible exact (uh HL).drew) (uh PMB) (by have := uh HL2; omega)).mono ?_; rintro e w3 ⟨t1o, t1c, rfl, hl3⟩; have HL := hide hl3; clear hl3)
    | (go_at_call 21; refine (lap_b (by first | with_reducible exact uh HL | with_reducible exact (uh HL).drew) (uh PX)).mono ?_; rintro e w3 ⟨t3a, t3b, t3c, t3d, rfl, hl3⟩; have HL := hide hl3; have mk1 : True := trivial; clear hl3)
    | (clear mk1; refine lap_app1 (uh HL) (by have := uh HL2; omega) (by rfl) _ _ (by rfl) (by rfl) (by rfl) ?_; intro g4 g4c w4 hl3; have HL := hide hl3; clear hl3)
    | (go_at_call 27; refine (lap_d (by first | with_reducible exact uh HL | with_reducible exact (uh HL).drew) (uh PMR) (by have := uh HL2; omega)).mono ?_; rintro e w3 ⟨t5o, t5c, rfl, hl3⟩; have HL := hide hl3; have mk3 : True := trivial; clear hl3)
    | (clear mk3; refine lap_app2 (uh HL) (by have := uh HL2; omega) (by rfl) _ _ (by rfl) (by rfl) (by rfl) ?_; intro g6 g6c w6 hl3; have HL := hide hl3; clear hl3)
    ))
   all_goals go_wp2_with fail
   all_goals go_meet
   all_goals exact ⟨_, _, rfl, (uh HL).1, (uh HL).2⟩
  case rest =>
   obtain ⟨o16, c16, rfl, HNB, HKC⟩ := hcut
   have hk := uh HKC
   replace BS := hide (blk_keep (uh BS) hk)
   replace BA := hide (blk_keep (uh BA) hk)
   replace BB := hide (blk_keep (uh BB) hk)
   replace BM := hide (blk_keep (uh BM) hk)
   replace PE := hide ((uh PE).keepF hk)
   replace PS := hide ((uh PS).keepF hk)
   replace PA := hide ((uh PA).keepF hk)
   replace PB := hide ((uh PB).keepF hk)
   replace PMA := hide ((uh PMA).keepF hk)
   replace PMB := hide ((uh PMB).keepF hk)
   replace PMR := hide ((uh PMR).keepF hk)
   replace PX := hide ((uh PX).keepF hk)
   replace HK := hide ((uh HK).trans hk)
   replace HNA := hide (some_keep (uh HNA) hk)
   clear hk HKC
   go_upto_region 5 with fail
   go_cut [17, 18] (fun p e wx => ∃ R o c, p = .pointer (some ⟨R, 0, none⟩) ∧ e = .int .i64 AO.e ∧ Hid (Ans wc AO R o c wx))
   case first =>
    have HSK : Hid (∀ w', Keeps (fun q => wc.heap.size ≤ q) wc w' → w'.cell? ⟨w.heap.size, 0, none⟩ = some (.slice so S.length sc) ∧ w'.cell? ⟨w.heap.size + 1, 0, none⟩ = some (.bool ha) ∧ w'.cell? ⟨w.heap.size + 1, 1, none⟩ = some (.slice uo va.length uc)) := fun w' hk => by
     have x1 := (hk.block _ (lt_of_block (uh BS)) (by have := lt_of_block (uh BS); omega)).trans (uh BS)
     have x2 := (hk.block _ (lt_of_block (uh BA)) (by have := lt_of_block (uh BA); omega)).trans (uh BA)
     exact ⟨cl1 x1, cl2 x2⟩
    obtain ⟨fa0, fa1, fa2⟩ := uh HSK wc (Keeps.refl _ _)
    have HL := hide ((⟨Keeps.refl _ _, fun _ e => (by cases e), fun _ e => (by cases e), fun _ e => (by cases e; exact uh HNA), fun _ e => (by cases e), fun _ e => (by cases e)⟩ : Stt wc S va (LA.map MsgC.m ++ ⟨xk, xkey, xv, xc⟩ :: LR.map MsgC.m) AO none none (some (.slice o15 (LA.length + 1 + LR.length) c15)) none none wc))
    go_region_held3 (fun w' => w'.cell? ⟨w.heap.size, 0, none⟩ = some (.slice so S.length sc) ∧ w'.cell? ⟨w.heap.size + 1, 0, none⟩ = some (.bool ha) ∧ w'.cell? ⟨w.heap.size + 1, 1, none⟩ = some (.slice uo va.length uc))
     (first | with_reducible exact uh HSK _ (uh HL).kept.any | with_reducible exact uh HSK _ (uh HL).kept.any.drew | with_reducible exact uh HSK _ ((uh HL).kept.any.alloc _) | with_reducible exact uh HSK _ ((uh HL).kept.any.alloc _).drew | with_reducible exact uh HSK _ ((uh HL).kept.any.trans (kset2N ((uh HL).z _ rfl).2 _ _)) | with_reducible exact uh HSK _ (((uh HL).kept.any.alloc _).trans (kset2N (uh HL).kept.size _ _)))
     ((first
     | (go_at_call 19; refine (stt_twin (by first | with_reducible exact uh HL | with_reducible exact (uh HL).drew | with_reducible exact (uh HL).alloc | with_reducible exact (uh HL).alloc.drew) (uh PS) hSL).mono ?_; rintro e w3 ⟨t1o, t1c, rfl, hl3⟩; have HL := hide hl3; clear hl3)
     | (go_at_call 20; refine (stt_row (by first | with_reducible exact uh HL | with_reducible exact (uh HL).drew | with_reducible exact (uh HL).alloc | with_reducible exact (uh HL).alloc.drew) (uh PA) hAL).mono ?_; rintro e w3 ⟨t2o, t2c, rfl, hl3⟩; have HL := hide hl3; clear hl3)
     | (go_at_call 28; refine (stt_all (by first | with_reducible exact uh HL | with_reducible exact (uh HL).drew | with_reducible exact (uh HL).alloc | with_reducible exact (uh HL).alloc.drew) (uh PE) (uh HA1) (by have := uh HL1; simp; omega)).mono ?_; rintro e w3 ⟨ro9, rc9, rfl, hl3⟩; (try (have hz5 := (hl3.z _ rfl).1; obtain ⟨m0, m1⟩ := cl2 hz5; obtain ⟨z0, z1⟩ := fz2 hz5; clear hz5)); have HL := hide hl3; clear hl3)
     ))
    all_goals go_wp2_with fail
    all_goals go_meet
    all_goals first | exact ⟨_, _, _, rfl, rfl, (uh HL).late⟩ | exact ⟨_, _, _, rfl, rfl, (uh HL).early⟩
   case rest =>
    obtain ⟨R17, o17, c17, rfl, rfl, HAN⟩ := hcut
    obtain ⟨hb9, hv, hk⟩ := uh HAN
    replace BS := hide (blk_keep (uh BS) hk)
    replace BA := hide (blk_keep (uh BA) hk)
    replace BB := hide (blk_keep (uh BB) hk)
    replace BM := hide (blk_keep (uh BM) hk)
    replace PE := hide ((uh PE).keepF hk)
    replace PS := hide ((uh PS).keepF hk)
    replace PA := hide ((uh PA).keepF hk)
    replace PB := hide ((uh PB).keepF hk)
    replace PMA := hide ((uh PMA).keepF hk)
    replace PMB := hide ((uh PMB).keepF hk)
    replace PMR := hide ((uh PMR).keepF hk)
    replace PX := hide ((uh PX).keepF hk)
    replace HK := hide ((uh HK).trans hk)
    replace HNB := hide (some_keep (uh HNB) hk)
    have BX := hide hb9
    have PX1 := hide hv
    clear hb9 hv hk HAN HNA
    go_upto_region 6 with fail
    go_cut [19, 20] (fun p e wx => ∃ R o c, p = .pointer (some ⟨R, 0, none⟩) ∧ e = .int .i64 AO.e ∧ Hid (Ans wc AO R o c wx))
    case first =>
     have HSK : Hid (∀ w', Keeps (fun q => wc.heap.size ≤ q) wc w' → w'.cell? ⟨w.heap.size, 0, none⟩ = some (.slice so S.length sc) ∧ w'.cell? ⟨w.heap.size + 1 + 1, 0, none⟩ = some (.bool hb) ∧ w'.cell? ⟨w.heap.size + 1 + 1, 1, none⟩ = some (.slice u2o vb.length u2c)) := fun w' hk => by
      have x1 := (hk.block _ (lt_of_block (uh BS)) (by have := lt_of_block (uh BS); omega)).trans (uh BS)
      have x2 := (hk.block _ (lt_of_block (uh BB)) (by have := lt_of_block (uh BB); omega)).trans (uh BB)
      exact ⟨cl1 x1, cl2 x2⟩
     obtain ⟨fa0, fa1, fa2⟩ := uh HSK wc (Keeps.refl _ _)
     have HL := hide ((⟨Keeps.refl _ _, fun _ e => (by cases e), fun _ e => (by cases e), fun _ e => (by cases e; exact uh HNB), fun _ e => (by cases e), fun _ e => (by cases e)⟩ : Stt wc S vb (LB.map MsgC.m ++ ⟨xk, xkey, xv, xc⟩ :: LR.map MsgC.m) AO none none (some (.slice o16 (LB.length + 1 + LR.length) c16)) none none wc))
     go_region_held3 (fun w' => w'.cell? ⟨w.heap.size, 0, none⟩ = some (.slice so S.length sc) ∧ w'.cell? ⟨w.heap.size + 1 + 1, 0, none⟩ = some (.bool hb) ∧ w'.cell? ⟨w.heap.size + 1 + 1, 1, none⟩ = some (.slice u2o vb.length u2c))
      (first | with_reducible exact uh HSK _ (uh HL).kept.any | with_reducible exact uh HSK _ (uh HL).kept.any.drew | with_reducible exact uh HSK _ ((uh HL).kept.any.alloc _) | with_reducible exact uh HSK _ ((uh HL).kept.any.alloc _).drew | with_reducible exact uh HSK _ ((uh HL).kept.any.trans (kset2N ((uh HL).z _ rfl).2 _ _)) | with_reducible exact uh HSK _ (((uh HL).kept.any.alloc _).trans (kset2N (uh HL).kept.size _ _)))
      ((first
      | (go_at_call 19; refine (stt_twin (by first | with_reducible exact uh HL | with_reducible exact (uh HL).drew | with_reducible exact (uh HL).alloc | with_reducible exact (uh HL).alloc.drew) (uh PS) hSL).mono ?_; rintro e w3 ⟨t1o, t1c, rfl, hl3⟩; have HL := hide hl3; clear hl3)
      | (go_at_call 20; refine (stt_row (by first | with_reducible exact uh HL | with_reducible exact (uh HL).drew | with_reducible exact (uh HL).alloc | with_reducible exact (uh HL).alloc.drew) (uh PB) hBL).mono ?_; rintro e w3 ⟨t2o, t2c, rfl, hl3⟩; have HL := hide hl3; clear hl3)
      | (go_at_call 28; refine (stt_all (by first | with_reducible exact uh HL | with_reducible exact (uh HL).drew | with_reducible exact (uh HL).alloc | with_reducible exact (uh HL).alloc.drew) (uh PE) (uh HA2) (by have := uh HL2; simp; omega)).mono ?_; rintro e w3 ⟨ro9, rc9, rfl, hl3⟩; (try (have hz5 := (hl3.z _ rfl).1; obtain ⟨m0, m1⟩ := cl2 hz5; obtain ⟨z0, z1⟩ := fz2 hz5; clear hz5)); have HL := hide hl3; clear hl3)
      ))
     all_goals go_wp2_with fail
     all_goals go_meet
     all_goals first | exact ⟨_, _, _, rfl, rfl, (uh HL).late⟩ | exact ⟨_, _, _, rfl, rfl, (uh HL).early⟩
    case rest =>
     obtain ⟨R19, o19, c19, rfl, rfl, HAN⟩ := hcut
     obtain ⟨hb9, hv, hk⟩ := uh HAN
     replace BS := hide (blk_keep (uh BS) hk)
     replace BA := hide (blk_keep (uh BA) hk)
     replace BB := hide (blk_keep (uh BB) hk)
     replace BM := hide (blk_keep (uh BM) hk)
     replace BX := hide (blk_keep (uh BX) hk)
     replace PE := hide ((uh PE).keepF hk)
     replace PS := hide ((uh PS).keepF hk)
     replace PA := hide ((uh PA).keepF hk)
     replace PB := hide ((uh PB).keepF hk)
     replace PMA := hide ((uh PMA).keepF hk)
     replace PMB := hide ((uh PMB).keepF hk)
     replace PMR := hide ((uh PMR).keepF hk)
     replace PX := hide ((uh PX).keepF hk)
     replace PX1 := hide ((uh PX1).keepF hk)
     replace HK := hide ((uh HK).trans hk)
     have BY := hide hb9
     have PY1 := hide hv
     clear hb9 hv hk HAN HNB
     have kT := kAlloc wc (.cells #[.bool false, .slice none 0 0] 28)
     have hT := heap_alloc_new wc (.cells #[.bool false, .slice none 0 0] 28)
     obtain ⟨cd1, cd2, cd3, cd4⟩ := cl4 (blk_keep (uh BM) kT)
     have PV := hide ((uh PX).vals.keepF kT)
     have HKT := hide kT
     have BT0 := hide hT
     clear kT hT
     go_upto_if 95 with fail
     go_cut [21] (fun p wx => ∃ R o c, p = .pointer (some ⟨R, 0, none⟩) ∧ Hid (wx.heap[R]? = some (.cells #[.bool ST.1, .slice o ST.2.length c] 28 (0, 0))) ∧ Hid (ValsAt wx (.slice o ST.2.length c) ST.2) ∧ Hid (Keeps (fun _ => False) wc wx))
     case first =>
      by_cases h7 : xk = 1
      ·have hst := uh HS3 h7
       subst h7
       subst hst
       have HQ := hide (copyVals_any _ _ xv (uh PV) (uh HXL))
       go_wp2_with fail
       refine (uh HQ).mono ?_
       rintro e w9 ⟨v9, rfl, ho9, hk9⟩
       obtain ⟨o9, c9, rfl⟩ := RowAt.form (rowAt_own ho9)
       have hb9 := blk_keep (uh BT0) hk9
       obtain ⟨y0, y1⟩ := cl2 hb9
       obtain ⟨f0, f1⟩ := fz2 hb9
       have HB9 := hide hb9
       have HO9 := hide ho9
       have HK9 := hide ((uh HKT).trans hk9)
       clear hb9 ho9 hk9 HQ
       go_wp2_with fail
       go_meet
       have k2 := keeps_set2 w9 wc.heap.size (.bool true) (.slice o9 xv.length c9)
       exact ⟨_, o9, c9, rfl, heap_setCell_at (o := 1) (heap_setCell_at (o := 0) (uh HB9) (.bool true)) (.slice o9 xv.length c9), vals_off (rowAt_own (uh HO9)) (uh HB9) (off2 (by simp)) k2, (uh HK9).fresh (Nat.le_refl _) k2⟩
      ·have hst := uh HS4 h7
       subst hst
       go_wp2_with fail
       go_meet
       exact ⟨_, none, 0, rfl, uh BT0, ⟨⟨_, _, rfl⟩, fun h => absurd h (by simp), fun ao m c e => by simp at e; omega⟩, uh HKT⟩
     case rest =>
      obtain ⟨R21, o21, c21, rfl, hb9, hv9, HKC⟩ := hcut
      have hk := uh HKC
      replace BS := hide (blk_keep (uh BS) hk)
      replace BA := hide (blk_keep (uh BA) hk)
      replace BB := hide (blk_keep (uh BB) hk)
      replace BM := hide (blk_keep (uh BM) hk)
      replace BX := hide (blk_keep (uh BX) hk)
      replace BY := hide (blk_keep (uh BY) hk)
      replace PE := hide ((uh PE).keepF hk)
      replace PS := hide ((uh PS).keepF hk)
      replace PA := hide ((uh PA).keepF hk)
      replace PB := hide ((uh PB).keepF hk)
      replace PMA := hide ((uh PMA).keepF hk)
      replace PMB := hide ((uh PMB).keepF hk)
      replace PMR := hide ((uh PMR).keepF hk)
      replace PX := hide ((uh PX).keepF hk)
      replace PX1 := hide ((uh PX1).keepF hk)
      replace PY1 := hide ((uh PY1).keepF hk)
      replace HK := hide ((uh HK).trans hk)
      have BT := hb9
      have PT := hv9
      clear hb9 hv9 hk HKC HKT BT0 PV cd1 cd2 cd3 cd4
      go_upto_region 10 with fail
      go_cut [22, 23] (fun p e wx => ∃ R o c, p = .pointer (some ⟨R, 0, none⟩) ∧ e = .int .i64 AO.e ∧ Hid (Ans wc AO R o c wx))
      case first =>
       have HSK : Hid (∀ w', Keeps (fun q => wc.heap.size ≤ q) wc w' → w'.cell? ⟨w.heap.size, 0, none⟩ = some (.slice so S.length sc) ∧ w'.cell? ⟨R21, 0, none⟩ = some (.bool ST.1) ∧ w'.cell? ⟨R21, 1, none⟩ = some (.slice o21 ST.2.length c21)) := fun w' hk => by
        have x1 := (hk.block _ (lt_of_block (uh BS)) (by have := lt_of_block (uh BS); omega)).trans (uh BS)
        have x2 := (hk.block _ (lt_of_block (uh BT)) (by have := lt_of_block (uh BT); omega)).trans (uh BT)
        exact ⟨cl1 x1, cl2 x2⟩
       obtain ⟨fa0, fa1, fa2⟩ := uh HSK wc (Keeps.refl _ _)
       have HL := hide ((⟨Keeps.refl _ _, fun _ e => (by cases e), fun _ e => (by cases e; exact uh PT), fun _ e => (by cases e), fun _ e => (by cases e), fun _ e => (by cases e)⟩ : Stt wc S ST.2 (LR.map MsgC.m) AO none (some (.slice o21 ST.2.length c21)) none none none wc))
       go_region_held3 (fun w' => w'.cell? ⟨w.heap.size, 0, none⟩ = some (.slice so S.length sc) ∧ w'.cell? ⟨R21, 0, none⟩ = some (.bool ST.1) ∧ w'.cell? ⟨R21, 1, none⟩ = some (.slice o21 ST.2.length c21))
        (first | with_reducible exact uh HSK _ (uh HL).kept.any | with_reducible exact uh HSK _ (uh HL).kept.any.drew | with_reducible exact uh HSK _ ((uh HL).kept.any.alloc _) | with_reducible exact uh HSK _ ((uh HL).kept.any.alloc _).drew | with_reducible exact uh HSK _ ((uh HL).kept.any.trans (kset2N ((uh HL).z _ rfl).2 _ _)) | with_reducible exact uh HSK _ (((uh HL).kept.any.alloc _).trans (kset2N (uh HL).kept.size _ _)))
        ((first
        | (go_at_call 19; refine (stt_twin (by first | with_reducible exact uh HL | with_reducible exact (uh HL).drew | with_reducible exact (uh HL).alloc | with_reducible exact (uh HL).alloc.drew) (uh PS) hSL).mono ?_; rintro e w3 ⟨t1o, t1c, rfl, hl3⟩; have HL := hide hl3; clear hl3)
        | (go_at_call 27; refine (stt_msgs (L := LR) (by first | with_reducible exact uh HL | with_reducible exact (uh HL).drew | with_reducible exact (uh HL).alloc | with_reducible exact (uh HL).alloc.drew) (uh PMR) (by have := uh HL1; omega) rfl).mono ?_; rintro e w3 ⟨t3o, t3c, rfl, hl3⟩; have HL := hide hl3; clear hl3)
        | (go_at_call 28; refine (stt_all (by first | with_reducible exact uh HL | with_reducible exact (uh HL).drew | with_reducible exact (uh HL).alloc | with_reducible exact (uh HL).alloc.drew) (uh PE) (uh HA3) (by have := uh HL1; simp; omega)).mono ?_; rintro e w3 ⟨ro9, rc9, rfl, hl3⟩; (try (have hz5 := (hl3.z _ rfl).1; obtain ⟨m0, m1⟩ := cl2 hz5; obtain ⟨z0, z1⟩ := fz2 hz5; clear hz5)); have HL := hide hl3; clear hl3)
        ))
       all_goals go_wp2_with fail
       all_goals go_meet
       all_goals first | exact ⟨_, _, _, rfl, rfl, (uh HL).late⟩ | exact ⟨_, _, _, rfl, rfl, (uh HL).early⟩
      case rest =>
       obtain ⟨R22, o22, c22, rfl, rfl, HAN⟩ := hcut
       obtain ⟨hb9, hv, hk⟩ := uh HAN
       replace BS := hide (blk_keep (uh BS) hk)
       replace BA := hide (blk_keep (uh BA) hk)
       replace BB := hide (blk_keep (uh BB) hk)
       replace BM := hide (blk_keep (uh BM) hk)
       replace BX := hide (blk_keep (uh BX) hk)
       replace BY := hide (blk_keep (uh BY) hk)
       replace BT := hide (blk_keep (uh BT) hk)
       replace PE := hide ((uh PE).keepF hk)
       replace PS := hide ((uh PS).keepF hk)
       replace PA := hide ((uh PA).keepF hk)
       replace PB := hide ((uh PB).keepF hk)
       replace PMA := hide ((uh PMA).keepF hk)
       replace PMB := hide ((uh PMB).keepF hk)
       replace PMR := hide ((uh PMR).keepF hk)
       replace PX := hide ((uh PX).keepF hk)
       replace PX1 := hide ((uh PX1).keepF hk)
       replace PY1 := hide ((uh PY1).keepF hk)
       replace PT := hide ((uh PT).keepF hk)
       replace HK := hide ((uh HK).trans hk)
       have BZ := hide hb9
       have PZ1 := hide hv
       clear hb9 hv hk HAN
       obtain ⟨cc1201, cc1202⟩ := cl2 (uh BX)
       obtain ⟨cc1203, cc1204, cc1205, cc1206⟩ := cl4 (uh BM)
       by_cases h0 : LR.length = 0
       ·obtain ⟨hx1, hx2⟩ := uh HRZ h0
        have i0 : (LR.length : Int) = 0 := by omega
        have dx : AO.here = (xk == 1) := by rw [hx1]; rfl
        have HQ := hide (eqVals_any wc _ _ AO.vals xv (uh PX1) (uh PX).vals (uh HAL))
        rw [decide_eq_true hx2] at HQ
        clear hx1 hx2
        go_wp2_with fail
        refine (uh HQ).mono ?_
        rintro e w29 ⟨rfl, hk⟩
        clear HQ dx
        clear cc1201 cc1202 cc1203 cc1204 cc1205 cc1206
        replace BS := hide (blk_keep (uh BS) hk)
        replace BA := hide (blk_keep (uh BA) hk)
        replace BB := hide (blk_keep (uh BB) hk)
        replace BM := hide (blk_keep (uh BM) hk)
        replace BX := hide (blk_keep (uh BX) hk)
        replace BY := hide (blk_keep (uh BY) hk)
        replace BT := hide (blk_keep (uh BT) hk)
        replace BZ := hide (blk_keep (uh BZ) hk)
        replace PE := hide ((uh PE).keepF hk)
        replace PS := hide ((uh PS).keepF hk)
        replace PA := hide ((uh PA).keepF hk)
        replace PB := hide ((uh PB).keepF hk)
        replace PMA := hide ((uh PMA).keepF hk)
        replace PMB := hide ((uh PMB).keepF hk)
        replace PMR := hide ((uh PMR).keepF hk)
        replace PX := hide ((uh PX).keepF hk)
        replace PX1 := hide ((uh PX1).keepF hk)
        replace PY1 := hide ((uh PY1).keepF hk)
        replace PT := hide ((uh PT).keepF hk)
        replace PZ1 := hide ((uh PZ1).keepF hk)
        replace HK := hide ((uh HK).trans hk)
        clear hk
        obtain ⟨cc1207, cc1208⟩ := cl2 (uh BX)
        obtain ⟨cc1209, cc1210⟩ := cl2 (uh BY)
        obtain ⟨cc1211, cc1212⟩ := cl2 (uh BZ)
        have HQ := hide (eqRow_v w29 AO.here AO.here _ _ AO.vals AO.vals (uh PX1) (uh PY1) (uh HAL))
        rw [decide_eq_true (show AO.here = AO.here from rfl), decide_eq_true (show AO.vals = AO.vals from rfl)] at HQ
        simp only [Bool.and_true] at HQ
        go_wp2_with fail
        refine (uh HQ).mono ?_
        rintro e w30 ⟨rfl, hk⟩
        clear HQ
        clear cc1207 cc1208 cc1209 cc1210 cc1211 cc1212
        replace BS := hide (blk_keep (uh BS) hk)
        replace BA := hide (blk_keep (uh BA) hk)
        replace BB := hide (blk_keep (uh BB) hk)
        replace BM := hide (blk_keep (uh BM) hk)
        replace BX := hide (blk_keep (uh BX) hk)
        replace BY := hide (blk_keep (uh BY) hk)
        replace BT := hide (blk_keep (uh BT) hk)
        replace BZ := hide (blk_keep (uh BZ) hk)
        replace PE := hide ((uh PE).keepF hk)
        replace PS := hide ((uh PS).keepF hk)
        replace PA := hide ((uh PA).keepF hk)
        replace PB := hide ((uh PB).keepF hk)
        replace PMA := hide ((uh PMA).keepF hk)
        replace PMB := hide ((uh PMB).keepF hk)
        replace PMR := hide ((uh PMR).keepF hk)
        replace PX := hide ((uh PX).keepF hk)
        replace PX1 := hide ((uh PX1).keepF hk)
        replace PY1 := hide ((uh PY1).keepF hk)
        replace PT := hide ((uh PT).keepF hk)
        replace PZ1 := hide ((uh PZ1).keepF hk)
        replace HK := hide ((uh HK).trans hk)
        clear hk
        obtain ⟨cc1213, cc1214⟩ := cl2 (uh BX)
        obtain ⟨cc1215, cc1216⟩ := cl2 (uh BZ)
        have HQ := hide (eqRow_v w30 AO.here AO.here _ _ AO.vals AO.vals (uh PX1) (uh PZ1) (uh HAL))
        rw [decide_eq_true (show AO.here = AO.here from rfl), decide_eq_true (show AO.vals = AO.vals from rfl)] at HQ
        simp only [Bool.and_true] at HQ
        go_wp2_with fail
        refine (uh HQ).mono ?_
        rintro e w31 ⟨rfl, hk⟩
        clear HQ
        clear cc1213 cc1214 cc1215 cc1216
        replace BS := hide (blk_keep (uh BS) hk)
        replace BA := hide (blk_keep (uh BA) hk)
        replace BB := hide (blk_keep (uh BB) hk)
        replace BM := hide (blk_keep (uh BM) hk)
        replace BX := hide (blk_keep (uh BX) hk)
        replace BY := hide (blk_keep (uh BY) hk)
        replace BT := hide (blk_keep (uh BT) hk)
        replace BZ := hide (blk_keep (uh BZ) hk)
        replace PE := hide ((uh PE).keepF hk)
        replace PS := hide ((uh PS).keepF hk)
        replace PA := hide ((uh PA).keepF hk)
        replace PB := hide ((uh PB).keepF hk)
        replace PMA := hide ((uh PMA).keepF hk)
        replace PMB := hide ((uh PMB).keepF hk)
        replace PMR := hide ((uh PMR).keepF hk)
        replace PX := hide ((uh PX).keepF hk)
        replace PX1 := hide ((uh PX1).keepF hk)
        replace PY1 := hide ((uh PY1).keepF hk)
        replace PT := hide ((uh PT).keepF hk)
        replace PZ1 := hide ((uh PZ1).keepF hk)
        replace HK := hide ((uh HK).trans hk)
        clear hk
        go_wp2_with fail
        go_ret
        exact ⟨rfl, uh HK⟩
       ·have i0 : ¬ (LR.length : Int) = 0 := by omega
        clear cc1201 cc1202 cc1203 cc1204 cc1205 cc1206
        obtain ⟨cc1207, cc1208⟩ := cl2 (uh BX)
        obtain ⟨cc1209, cc1210⟩ := cl2 (uh BY)
        obtain ⟨cc1211, cc1212⟩ := cl2 (uh BZ)
        have HQ := hide (eqRow_v wc AO.here AO.here _ _ AO.vals AO.vals (uh PX1) (uh PY1) (uh HAL))
        rw [decide_eq_true (show AO.here = AO.here from rfl), decide_eq_true (show AO.vals = AO.vals from rfl)] at HQ
        simp only [Bool.and_true] at HQ
        go_wp2_with fail
        refine (uh HQ).mono ?_
        rintro e w30 ⟨rfl, hk⟩
        clear HQ
        clear cc1207 cc1208 cc1209 cc1210 cc1211 cc1212
        replace BS := hide (blk_keep (uh BS) hk)
        replace BA := hide (blk_keep (uh BA) hk)
        replace BB := hide (blk_keep (uh BB) hk)
        replace BM := hide (blk_keep (uh BM) hk)
        replace BX := hide (blk_keep (uh BX) hk)
        replace BY := hide (blk_keep (uh BY) hk)
        replace BT := hide (blk_keep (uh BT) hk)
        replace BZ := hide (blk_keep (uh BZ) hk)
        replace PE := hide ((uh PE).keepF hk)
        replace PS := hide ((uh PS).keepF hk)
        replace PA := hide ((uh PA).keepF hk)
        replace PB := hide ((uh PB).keepF hk)
        replace PMA := hide ((uh PMA).keepF hk)
        replace PMB := hide ((uh PMB).keepF hk)
        replace PMR := hide ((uh PMR).keepF hk)
        replace PX := hide ((uh PX).keepF hk)
        replace PX1 := hide ((uh PX1).keepF hk)
        replace PY1 := hide ((uh PY1).keepF hk)
        replace PT := hide ((uh PT).keepF hk)
        replace PZ1 := hide ((uh PZ1).keepF hk)
        replace HK := hide ((uh HK).trans hk)
        clear hk
        obtain ⟨cc1213, cc1214⟩ := cl2 (uh BX)
        obtain ⟨cc1215, cc1216⟩ := cl2 (uh BZ)
        have HQ := hide (eqRow_v w30 AO.here AO.here _ _ AO.vals AO.vals (uh PX1) (uh PZ1) (uh HAL))
        rw [decide_eq_true (show AO.here = AO.here from rfl), decide_eq_true (show AO.vals = AO.vals from rfl)] at HQ
        simp only [Bool.and_true] at HQ
        go_wp2_with fail
        refine (uh HQ).mono ?_
        rintro e w31 ⟨rfl, hk⟩
        clear HQ
        clear cc1213 cc1214 cc1215 cc1216
        replace BS := hide (blk_keep (uh BS) hk)
        replace BA := hide (blk_keep (uh BA) hk)
        replace BB := hide (blk_keep (uh BB) hk)
        replace BM := hide (blk_keep (uh BM) hk)
        replace BX := hide (blk_keep (uh BX) hk)
        replace BY := hide (blk_keep (uh BY) hk)
        replace BT := hide (blk_keep (uh BT) hk)
        replace BZ := hide (blk_keep (uh BZ) hk)
        replace PE := hide ((uh PE).keepF hk)
        replace PS := hide ((uh PS).keepF hk)
        replace PA := hide ((uh PA).keepF hk)
        replace PB := hide ((uh PB).keepF hk)
        replace PMA := hide ((uh PMA).keepF hk)
        replace PMB := hide ((uh PMB).keepF hk)
        replace PMR := hide ((uh PMR).keepF hk)
        replace PX := hide ((uh PX).keepF hk)
        replace PX1 := hide ((uh PX1).keepF hk)
        replace PY1 := hide ((uh PY1).keepF hk)
        replace PT := hide ((uh PT).keepF hk)
        replace PZ1 := hide ((uh PZ1).keepF hk)
        replace HK := hide ((uh HK).trans hk)
        clear hk
        go_wp2_with fail
        go_ret
        exact ⟨rfl, uh HK⟩
end Go.Proofs.YtbokbdcjpbnodaaGreatDoor
