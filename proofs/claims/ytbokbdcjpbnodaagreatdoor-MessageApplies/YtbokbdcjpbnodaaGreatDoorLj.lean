import Derived.Test.YtbokbdcjpbnodaaGreatDoorLi
import Derived.Test.YtbokbdcjpbnodaaGreatDoorZc1
namespace Go.Proofs.YtbokbdcjpbnodaaGreatDoor
open Go.RowKit Go.Maps
set_option maxRecDepth 100000
set_option maxHeartbeats 4000000
theorem apply_v (S : List FieldA) (sv u : Value) (hh : Bool) (vals : List ValA) (x : MsgC) (w : World) (hE : EnvM w) (hS : FldsAt w sv S) (hr : ValsAt w u vals) (hx : MsgOK w x)  :
  Calls Tryz.prog 22 #[.agg #[sv], .agg #[.bool hh, u], .agg #[.int .i64 x.m.kind, str x.m.key, x.vv, x.cv]] w fun e w' => ∃ ro rc, e = .returned (.tuple #[.agg #[.bool (applyA S hh vals [x.m]).here, .slice ro (applyA S hh vals [x.m]).vals.length rc], .int .i64 (applyA S hh vals [x.m]).e]) ∧ ValsAt w' (.slice ro (applyA S hh vals [x.m]).vals.length rc) (applyA S hh vals [x.m]).vals ∧ Keeps (fun _ => False) w w' := by
 obtain ⟨so, sc, rfl⟩ := RowAt.form hS
 obtain ⟨uo, uc, rfl⟩ := RowAt.form hr
 obtain ⟨vo, vc, e1⟩ := RowAt.form hx.vals
 obtain ⟨co, cc, e2⟩ := RowAt.form hx.code
 obtain ⟨⟨xk, xkey, xv, xc⟩, xvv, xcv⟩ := x
 simp only at *
 subst e1
 subst e2
 obtain ⟨W, hW, hkW, g0, g1, g2, g3⟩ := boxes4 w #[.slice so S.length sc] #[.bool hh, .slice uo vals.length uc] #[.int .i64 xk, str xkey, .slice vo xv.length vc, .slice co xc.length cc] #[.bool false, .slice none 0 0] 24 28 50 28
 have kN := kAlloc W (.cells #[.int .i64 xk, str xkey, .slice vo xv.length vc, .slice co xc.length cc] 50)
 have hN := heap_alloc_new W (.cells #[.int .i64 xk, str xkey, .slice vo xv.length vc, .slice co xc.length cc] 50)
 have hX' : ∃ X, W.alloc (.cells #[.int .i64 xk, str xkey, .slice vo xv.length vc, .slice co xc.length cc] 50) = X := ⟨_, rfl⟩
 obtain ⟨X, hX⟩ := hX'
 rw [hX] at kN hN
 have kX := hkW.trans kN
 have hms : MsgsAt X (.slice (some ⟨W.heap.size, 0, none⟩) 1 1) [⟨⟨xk, xkey, xv, xc⟩, .slice vo xv.length vc, .slice co xc.length cc⟩] := by
  refine ⟨?_, fun y hy => ?_⟩
  ·have ho : X.ownsRow 0 50 4 (.slice (some ⟨W.heap.size, 0, none⟩) 1 1) 1 [.int .i64 xk, str xkey, .slice vo xv.length vc, .slice co xc.length cc] := ⟨rfl, Or.inr ⟨W.heap.size, 1, _, rfl, Nat.zero_le _, hN, Nat.le_refl _, by unfold maxLen; omega, rfl, rfl⟩⟩
   exact rowAt_own ho
  ·rcases List.mem_singleton.1 hy with rfl
   exact hx.keepF kX
 have HQ := hide (applyAll_v S _ _ _ hh vals [⟨⟨xk, xkey, xv, xc⟩, .slice vo xv.length vc, .slice co xc.length cc⟩] X (hE.keepF kX) (hS.keepF kX) (hr.keepF kX) hms (by simp))
 simp only [List.map_cons, List.map_nil] at HQ
 generalize applyA S hh vals [⟨xk, xkey, xv, xc⟩] = AA at *
 obtain ⟨Re, Rh, Rv, Rs, Rd⟩ := AA
 simp only at HQ ⊢
 have p0 := cl1 g0
 obtain ⟨r0, r1⟩ := cl2 g1
 obtain ⟨q0, q1, q2, q3⟩ := cl4 g2
 have HKX := hide kX
 have G3 := hide (blk_keep g3 kN)
 clear g0 g1 g2 g3 hkW kN hN kX hms hS hr hx
 go_enter Tryz.func22, Tryz.ntmps22
 go_wp2_with fail
 refine (uh HQ).mono ?_
 rintro e w1 ⟨ro, rc, rfl, hv1, hk1⟩
 have h3 := blk_keep (uh G3) hk1
 obtain ⟨y0, y1⟩ := cl2 h3
 obtain ⟨z0, z1⟩ := fz2 h3
 obtain ⟨s0, s1⟩ := set2c h3 (.bool Rh) (.slice ro Rv.length rc)
 have k2 := keeps_set2 w1 (w.heap.size + 1 + 1 + 1) (.bool Rh) (.slice ro Rv.length rc)
 have HV := hide (vals_off hv1 h3 (off2 (by simp)) k2)
 have HK := hide (((uh HKX).trans hk1).fresh (by omega) k2)
 clear HQ hv1 hk1 k2 h3
 go_wp2_with fail
 refine bodyPost_ret (v := .tuple #[.agg #[.bool Rh, .slice ro Rv.length rc], .int .i64 Re]) (by simp [results, go_sem, s0, s1]) rfl ?_
 exact ⟨_, _, rfl, uh HV, uh HK⟩
theorem applyR_v (S : List FieldA) (sv u : Value) (hh : Bool) (vals : List ValA) (x : MsgC) (w : World) (hS : FldsAt w sv S) (hr : ValsAt w u vals) (hx : MsgOK w x) (hVL : vals.length ≤ 4398046511104) :
  Calls Tryz.prog 23 #[.agg #[sv], .agg #[.bool hh, u], .agg #[.int .i64 x.m.kind, str x.m.key, x.vv, x.cv]] w fun e w' => ∃ ro rc, e = .returned (.tuple #[.agg #[.bool (applyA S hh vals [x.m]).here, .slice ro (applyA S hh vals [x.m]).vals.length rc], .int .i64 (applyA S hh vals [x.m]).e]) ∧ ValsAt w' (.slice ro (applyA S hh vals [x.m]).vals.length rc) (applyA S hh vals [x.m]).vals ∧ Keeps (fun _ => False) w w' := by
 obtain ⟨so, sc, rfl⟩ := RowAt.form hS
 obtain ⟨uo, uc, rfl⟩ := RowAt.form hr
 obtain ⟨vo, vc, e1⟩ := RowAt.form hx.vals
 obtain ⟨co, cc, e2⟩ := RowAt.form hx.code
 obtain ⟨⟨xk, xkey, xv, xc⟩, xvv, xcv⟩ := x
 simp only at *
 subst e1
 subst e2
 obtain ⟨W, hW, hkW, g0, g1, g2, g3⟩ := boxes4 w #[.slice so S.length sc] #[.bool hh, .slice uo vals.length uc] #[.int .i64 xk, str xkey, .slice vo xv.length vc, .slice co xc.length cc] #[.bool false, .slice none 0 0] 24 28 50 28
 have kN := kAlloc W (.cells #[.int .i64 xk, str xkey, .slice vo xv.length vc, .slice co xc.length cc] 50)
 have hN := heap_alloc_new W (.cells #[.int .i64 xk, str xkey, .slice vo xv.length vc, .slice co xc.length cc] 50)
 have hX' : ∃ X, W.alloc (.cells #[.int .i64 xk, str xkey, .slice vo xv.length vc, .slice co xc.length cc] 50) = X := ⟨_, rfl⟩
 obtain ⟨X, hX⟩ := hX'
 rw [hX] at kN hN
 have kX := hkW.trans kN
 have hms : MsgsAt X (.slice (some ⟨W.heap.size, 0, none⟩) 1 1) [⟨⟨xk, xkey, xv, xc⟩, .slice vo xv.length vc, .slice co xc.length cc⟩] := by
  refine ⟨?_, fun y hy => ?_⟩
  ·have ho : X.ownsRow 0 50 4 (.slice (some ⟨W.heap.size, 0, none⟩) 1 1) 1 [.int .i64 xk, str xkey, .slice vo xv.length vc, .slice co xc.length cc] := ⟨rfl, Or.inr ⟨W.heap.size, 1, _, rfl, Nat.zero_le _, hN, Nat.le_refl _, by unfold maxLen; omega, rfl, rfl⟩⟩
   exact rowAt_own ho
  ·rcases List.mem_singleton.1 hy with rfl
   exact hx.keepF kX
 have HQ := hide (applyAllR_v S _ _ _ hh vals [⟨⟨xk, xkey, xv, xc⟩, .slice vo xv.length vc, .slice co xc.length cc⟩] X (hS.keepF kX) (hr.keepF kX) hms (by simp) hVL)
 simp only [List.map_cons, List.map_nil] at HQ
 generalize applyA S hh vals [⟨xk, xkey, xv, xc⟩] = AA at *
 obtain ⟨Re, Rh, Rv, Rs, Rd⟩ := AA
 simp only at HQ ⊢
 have p0 := cl1 g0
 obtain ⟨r0, r1⟩ := cl2 g1
 obtain ⟨q0, q1, q2, q3⟩ := cl4 g2
 have HKX := hide kX
 have G3 := hide (blk_keep g3 kN)
 clear g0 g1 g2 g3 hkW kN hN kX hms hS hr hx
 go_enter Tryz.func23, Tryz.ntmps23
 go_wp2_with fail
 refine (uh HQ).mono ?_
 rintro e w1 ⟨ro, rc, rfl, hv1, hk1⟩
 have h3 := blk_keep (uh G3) hk1
 obtain ⟨y0, y1⟩ := cl2 h3
 obtain ⟨z0, z1⟩ := fz2 h3
 obtain ⟨s0, s1⟩ := set2c h3 (.bool Rh) (.slice ro Rv.length rc)
 have k2 := keeps_set2 w1 (w.heap.size + 1 + 1 + 1) (.bool Rh) (.slice ro Rv.length rc)
 have HV := hide (vals_off hv1 h3 (off2 (by simp)) k2)
 have HK := hide (((uh HKX).trans hk1).fresh (by omega) k2)
 clear HQ hv1 hk1 k2 h3
 go_wp2_with fail
 refine bodyPost_ret (v := .tuple #[.agg #[.bool Rh, .slice ro Rv.length rc], .int .i64 Re]) (by simp [results, go_sem, s0, s1]) rfl ?_
 exact ⟨_, _, rfl, uh HV, uh HK⟩
end Go.Proofs.YtbokbdcjpbnodaaGreatDoor
namespace Go.Proofs.YtbokbdcjpbnodaaGreatDoor
open Go.RowKit Go.Maps
theorem exec_len (S : List FieldA) (t : Txt) (hh : Bool) (vals : List ValA) : (execO S t hh vals).vals.length ≤ 8 := by
 unfold execO
 split
 ·simp
 ·exact runO_len _ _ _ _
theorem did_len {S : List FieldA} {r : Bool × List ValA} {m : MsgA} {M : Nat} (h8 : 8 ≤ M) (hm : m.vals.length ≤ M) : (didA S r m).2.length ≤ M := by
 unfold didA
 split
 ·exact hm
 ·split
  ·simp
  ·exact Nat.le_trans (exec_len _ _ _ _) h8
theorem fold_len {S : List FieldA} {M : Nat} (h8 : 8 ≤ M) : ∀ (ms : List MsgA) (r : Bool × List ValA), r.2.length ≤ M → (∀ m ∈ ms, m.vals.length ≤ M) → (foldA S r ms).2.length ≤ M
 | [], r, hr, _ => hr
 | m :: ms, r, hr, h => by
  show (foldA S (didA S r m) ms).2.length ≤ M
  exact fold_len h8 ms _ (did_len h8 (h m (by simp))) (fun x hx => h x (by simp [hx]))
theorem apply_len {S : List FieldA} {hh : Bool} {vals : List ValA} {ms : List MsgA} {M : Nat} (h8 : 8 ≤ M) (hv : vals.length ≤ M) (hm : ∀ m ∈ ms, m.vals.length ≤ M) : (applyA S hh vals ms).vals.length ≤ M := by
 unfold applyA
 split
 ·simp
 ·exact fold_len h8 ms (hh, vals) hv hm
end Go.Proofs.YtbokbdcjpbnodaaGreatDoor
