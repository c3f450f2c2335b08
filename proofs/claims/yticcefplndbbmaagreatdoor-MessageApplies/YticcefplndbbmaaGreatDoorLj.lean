import Derived.Test.YticcefplndbbmaaGreatDoorLi
import Derived.Test.YticcefplndbbmaaGreatDoorZc1
import Derived.Test.YticcefplndbbmaaGreatDoorKg
import Derived.Test.YticcefplndbbmaaGreatDoorJv
import Derived.Test.YticcefplndbbmaaGreatDoorLh
import Derived.Test.YticcefplndbbmaaGreatDoorJt
import Derived.Test.YticcefplndbbmaaGreatDoorJc
namespace Go.Proofs.YticcefplndbbmaaGreatDoor
open Go.RowKit Go.Maps
set_option maxRecDepth 100000 in
set_option maxHeartbeats 4000000 in
theorem apply_v (S : List FieldA) (sv u : Value) (hh : Bool) (vals : List ValA) (x : MsgC) (w : World) (hE : EnvM w) (hS : FldsAt w sv S) (hr : ValsAt w u vals) (hx : MsgOK w x)  :
    Calls Tryz.prog 22 #[.agg #[sv], .agg #[.bool hh, u], .agg #[.int .i64 x.m.kind, str x.m.key, x.vv, x.cv]] w fun e w' => ∃ ro rc, e = .returned (.tuple #[.agg #[.bool (applyA S hh vals [x.m]).here, .slice ro (applyA S hh vals [x.m]).vals.length rc], .int .i64 (applyA S hh vals [x.m]).e]) ∧ ValsAt w' (.slice ro (applyA S hh vals [x.m]).vals.length rc) (applyA S hh vals [x.m]).vals ∧ Keeps (fun _ => False) w w' := by
  obtain ⟨so, sc, rfl⟩ := RowAt.form hS
  obtain ⟨uo, uc, rfl⟩ := RowAt.form hr
  obtain ⟨vo, vc, e1⟩ := RowAt.form hx.vals
  obtain ⟨co, cc, e2⟩ := RowAt.form hx.code
  obtain ⟨⟨xk, xkey, xv, xc⟩, xvv, xcv⟩ := x
  simp only at *
  subst e1
  subst e2
  obtain ⟨W, hW, hkW, g0, g1, g2, g3⟩ := boxes4 w #[.slice so S.length sc] #[.bool hh, .slice uo vals.length uc] #[.int .i64 xk, str xkey, .slice vo xv.length vc, .slice co xc.length cc] #[.bool false, .slice none 0 0] 24 28 50 28
  have kN := kAlloc W (.cells #[.int .i64 xk, str xkey, .slice vo xv.length vc, .slice co xc.length cc] 50)
  have hN := heap_alloc_new W (.cells #[.int .i64 xk, str xkey, .slice vo xv.length vc, .slice co xc.length cc] 50)
  have hX' : ∃ X, W.alloc (.cells #[.int .i64 xk, str xkey, .slice vo xv.length vc, .slice co xc.length cc] 50) = X := ⟨_, rfl⟩
  obtain ⟨X, hX⟩ := hX'
  rw [hX] at kN hN
  have kX := hkW.trans kN
  have hms : MsgsAt X (.slice (some ⟨W.heap.size, 0, none⟩) 1 1) [⟨⟨xk, xkey, xv, xc⟩, .slice vo xv.length vc, .slice co xc.length cc⟩] := by
    refine ⟨?_, fun y hy => ?_⟩
    · have ho : X.ownsRow 0 50 4 (.slice (some ⟨W.heap.size, 0, none⟩) 1 1) 1 [.int .i64 xk, str xkey, .slice vo xv.length vc, .slice co xc.length cc] := ⟨rfl, Or.inr ⟨W.heap.size, 1, _, rfl, Nat.zero_le _, hN, Nat.le_refl _, by unfold maxLen; omega, rfl, rfl⟩⟩
      exact rowAt_own ho
    · rcases List.mem_singleton.1 hy with rfl
      exact hx.keepF kX
  have HQ := hide (applyAll_v S _ _ _ hh vals [⟨⟨xk, xkey, xv, xc⟩, .slice vo xv.length vc, .slice co xc.length cc⟩] X (hE.keepF kX) (hS.keepF kX) (hr.keepF kX) hms (by simp))
  simp only [List.map_cons, List.map_nil] at HQ
  generalize applyA S hh vals [⟨xk, xkey, xv, xc⟩] = AA at *
  obtain ⟨Re, Rh, Rv, Rs, Rd⟩ := AA
  simp only at HQ ⊢
  have p0 := cl1 g0
  obtain ⟨r0, r1⟩ := cl2 g1
  obtain ⟨q0, q1, q2, q3⟩ := cl4 g2
  have HKX := hide kX
  have G3 := hide (blk_keep g3 kN)
  clear g0 g1 g2 g3 hkW kN hN kX hms hS hr hx
  go_enter Tryz.func22, Tryz.ntmps22
  go_wp2_with fail
  refine (uh HQ).mono ?_
  rintro e w1 ⟨ro, rc, rfl, hv1, hk1⟩
  have h3 := blk_keep (uh G3) hk1
  obtain ⟨y0, y1⟩ := cl2 h3
  obtain ⟨z0, z1⟩ := fz2 h3
  obtain ⟨s0, s1⟩ := set2c h3 (.bool Rh) (.slice ro Rv.length rc)
  have k2 := keeps_set2 w1 (w.heap.size + 1 + 1 + 1) (.bool Rh) (.slice ro Rv.length rc)
  have HV := hide (vals_off hv1 h3 (off2 (by simp)) k2)
  have HK := hide (((uh HKX).trans hk1).fresh (by omega) k2)
  clear HQ hv1 hk1 k2 h3
  go_wp2_with fail
  refine bodyPost_ret (v := .tuple #[.agg #[.bool Rh, .slice ro Rv.length rc], .int .i64 Re]) (by simp [results, go_sem, s0, s1]) rfl ?_
  exact ⟨_, _, rfl, uh HV, uh HK⟩
set_option maxRecDepth 100000 in
set_option maxHeartbeats 4000000 in
theorem applyR_v (S : List FieldA) (sv u : Value) (hh : Bool) (vals : List ValA) (x : MsgC) (w : World) (hS : FldsAt w sv S) (hr : ValsAt w u vals) (hx : MsgOK w x) (hVL : vals.length ≤ 4398046511104) :
    Calls Tryz.prog 23 #[.agg #[sv], .agg #[.bool hh, u], .agg #[.int .i64 x.m.kind, str x.m.key, x.vv, x.cv]] w fun e w' => ∃ ro rc, e = .returned (.tuple #[.agg #[.bool (applyA S hh vals [x.m]).here, .slice ro (applyA S hh vals [x.m]).vals.length rc], .int .i64 (applyA S hh vals [x.m]).e]) ∧ ValsAt w' (.slice ro (applyA S hh vals [x.m]).vals.length rc) (applyA S hh vals [x.m]).vals ∧ Keeps (fun _ => False) w w' := by
  obtain ⟨so, sc, rfl⟩ := RowAt.form hS
  obtain ⟨uo, uc, rfl⟩ := RowAt.form hr
  obtain ⟨vo, vc, e1⟩ := RowAt.form hx.vals
  obtain ⟨co, cc, e2⟩ := RowAt.form hx.code
  obtain ⟨⟨xk, xkey, xv, xc⟩, xvv, xcv⟩ := x
  simp only at *
  subst e1
  subst e2
  obtain ⟨W, hW, hkW, g0, g1, g2, g3⟩ := boxes4 w #[.slice so S.length sc] #[.bool hh, .slice uo vals.length uc] #[.int .i64 xk, str xkey, .slice vo xv.length vc, .slice co xc.length cc] #[.bool false, .slice none 0 0] 24 28 50 28
  have kN := kAlloc W (.cells #[.int .i64 xk, str xkey, .slice vo xv.length vc, .slice co xc.length cc] 50)
  have hN := heap_alloc_new W (.cells #[.int .i64 xk, str xkey, .slice vo xv.length vc, .slice co xc.length cc] 50)
  have hX' : ∃ X, W.alloc (.cells #[.int .i64 xk, str xkey, .slice vo xv.length vc, .slice co xc.length cc] 50) = X := ⟨_, rfl⟩
  obtain ⟨X, hX⟩ := hX'
  rw [hX] at kN hN
  have kX := hkW.trans kN
  have hms : MsgsAt X (.slice (some ⟨W.heap.size, 0, none⟩) 1 1) [⟨⟨xk, xkey, xv, xc⟩, .slice vo xv.length vc, .slice co xc.length cc⟩] := by
    refine ⟨?_, fun y hy => ?_⟩
    · have ho : X.ownsRow 0 50 4 (.slice (some ⟨W.heap.size, 0, none⟩) 1 1) 1 [.int .i64 xk, str xkey, .slice vo xv.length vc, .slice co xc.length cc] := ⟨rfl, Or.inr ⟨W.heap.size, 1, _, rfl, Nat.zero_le _, hN, Nat.le_refl _, by unfold maxLen; omega, rfl, rfl⟩⟩
      exact rowAt_own ho
    · rcases List.mem_singleton.1 hy with rfl
      exact hx.keepF kX
  have HQ := hide (applyAllR_v S _ _ _ hh vals [⟨⟨xk, xkey, xv, xc⟩, .slice vo xv.length vc, .slice co xc.length cc⟩] X (hS.keepF kX) (hr.keepF kX) hms (by simp) hVL)
  simp only [List.map_cons, List.map_nil] at HQ
  generalize applyA S hh vals [⟨xk, xkey, xv, xc⟩] = AA at *
  obtain ⟨Re, Rh, Rv, Rs, Rd⟩ := AA
  simp only at HQ ⊢
  have p0 := cl1 g0
  obtain ⟨r0, r1⟩ := cl2 g1
  obtain ⟨q0, q1, q2, q3⟩ := cl4 g2
  have HKX := hide kX
  have G3 := hide (blk_keep g3 kN)
  clear g0 g1 g2 g3 hkW kN hN kX hms hS hr hx
  go_enter Tryz.func23, Tryz.ntmps23
  go_wp2_with fail
  refine (uh HQ).mono ?_
  rintro e w1 ⟨ro, rc, rfl, hv1, hk1⟩
  have h3 := blk_keep (uh G3) hk1
  obtain ⟨y0, y1⟩ := cl2 h3
  obtain ⟨z0, z1⟩ := fz2 h3
  obtain ⟨s0, s1⟩ := set2c h3 (.bool Rh) (.slice ro Rv.length rc)
  have k2 := keeps_set2 w1 (w.heap.size + 1 + 1 + 1) (.bool Rh) (.slice ro Rv.length rc)
  have HV := hide (vals_off hv1 h3 (off2 (by simp)) k2)
  have HK := hide (((uh HKX).trans hk1).fresh (by omega) k2)
  clear HQ hv1 hk1 k2 h3
  go_wp2_with fail
  refine bodyPost_ret (v := .tuple #[.agg #[.bool Rh, .slice ro Rv.length rc], .int .i64 Re]) (by simp [results, go_sem, s0, s1]) rfl ?_
  exact ⟨_, _, rfl, uh HV, uh HK⟩
end Go.Proofs.YticcefplndbbmaaGreatDoor
namespace Go.Proofs.YticcefplndbbmaaGreatDoor
open Go.RowKit Go.Maps
theorem exec_len (S : List FieldA) (t : Txt) (hh : Bool) (vals : List ValA) : (execO S t hh vals).vals.length ≤ 8 := by
  unfold execO
  split
  · simp
  · exact runO_len _ _ _ _
theorem did_len {S : List FieldA} {r : Bool × List ValA} {m : MsgA} {M : Nat} (h8 : 8 ≤ M) (hm : m.vals.length ≤ M) : (didA S r m).2.length ≤ M := by
  unfold didA
  split
  · exact hm
  · split
    · simp
    · exact Nat.le_trans (exec_len _ _ _ _) h8
theorem fold_len {S : List FieldA} {M : Nat} (h8 : 8 ≤ M) : ∀ (ms : List MsgA) (r : Bool × List ValA), r.2.length ≤ M → (∀ m ∈ ms, m.vals.length ≤ M) → (foldA S r ms).2.length ≤ M
  | [], r, hr, _ => hr
  | m :: ms, r, hr, h => by
    show (foldA S (didA S r m) ms).2.length ≤ M
    exact fold_len h8 ms _ (did_len h8 (h m (by simp))) (fun x hx => h x (by simp [hx]))
theorem apply_len {S : List FieldA} {hh : Bool} {vals : List ValA} {ms : List MsgA} {M : Nat} (h8 : 8 ≤ M) (hv : vals.length ≤ M) (hm : ∀ m ∈ ms, m.vals.length ≤ M) : (applyA S hh vals ms).vals.length ≤ M := by
  unfold applyA
  split
  · simp
  · exact fold_len h8 ms (hh, vals) hv hm
end Go.Proofs.YticcefplndbbmaaGreatDoor
namespace Go.Proofs.YticcefplndbbmaaGreatDoor
open Go.RowKit Go.Maps
set_option maxRecDepth 100000 in
set_option maxHeartbeats 8000000 in
theorem applies_walk (S : List FieldA) (sv u : Value) (hh : Bool) (vals : List ValA) (x : MsgC) (w : World) (hE : EnvM w) (hS : FldsAt w sv S) (hr : ValsAt w u vals) (hx : MsgOK w x) (hSL : S.length ≤ 4398046511104) (hVL : vals.length ≤ 4398046511104) :
    Calls Tryz.prog 6 #[.agg #[sv], .agg #[.bool hh, u], .agg #[.int .i64 x.m.kind, str x.m.key, x.vv, x.cv]] w fun e w' => e = .returned (.bool true) ∧ Keeps (fun _ => False) w w' := by
  have HIN := hide hx.inr
  have HKL := hide hx.key
  have HAL : Hid ((applyA S hh vals [x.m]).vals.length ≤ maxLen) := Nat.le_trans (apply_len (M := 4398046511104) (by omega) hVL (fun m hm => by rcases List.mem_singleton.1 hm with rfl; exact hx.lv)) (by unfold maxLen; omega)
  have hsl : S.length ≤ maxLen := by unfold maxLen; omega
  have hvl : vals.length ≤ maxLen := by unfold maxLen; omega
  have HLV := hide hx.lv
  have HLC := hide hx.lc
  have hxl : x.m.vals.length ≤ maxLen := by have := hx.lv; unfold maxLen; omega
  have hcl : x.m.code.length ≤ maxLen := by have := hx.lc; unfold maxLen; omega
  obtain ⟨so, sc, rfl⟩ := RowAt.form hS
  obtain ⟨uo, uc, rfl⟩ := RowAt.form hr
  obtain ⟨vo, vc, e1⟩ := RowAt.form hx.vals
  obtain ⟨co, cc, e2⟩ := RowAt.form hx.code
  obtain ⟨⟨xk, xkey, xv, xc⟩, xvv, xcv⟩ := x
  simp only at *
  subst e1
  subst e2
  obtain ⟨W, hW, hkW, g0, g1, g2⟩ := boxes3 w #[.slice so S.length sc] #[.bool hh, .slice uo vals.length uc] #[.int .i64 xk, str xkey, .slice vo xv.length vc, .slice co xc.length cc] 24 28 50
  obtain ⟨Re, Rh, Rv, Rs, Rd, HAA⟩ : ∃ a b c d e, Hid (applyA S hh vals [⟨xk, xkey, xv, xc⟩] = ⟨a, b, c, d, e⟩) := ⟨_, _, _, _, _, rfl⟩
  rw [uh HAA] at HAL
  simp only at HAL
  have PE := hide (hE.keepF hkW)
  have PS := hide (hS.keepF hkW)
  have PR := hide (hr.keepF hkW)
  have PX := hide (hx.keepF hkW)
  have HK := hide hkW
  have BS := hide g0
  have BR := hide g1
  have BM := hide g2
  have hee : (Re != Re) = false := by simp
  clear hE hS hr hx hkW g0 g1 g2
  have cc1 := cl1 (uh BS)
  have HQ := hide (twin_v W _ S (uh PS) hSL)
  go_enter Tryz.func6, Tryz.ntmps6
  go_wp2_with fail
  refine (uh HQ).mono ?_
  rintro e w1 ⟨t1, rfl, hot, hk⟩
  clear HQ
  clear cc1
  replace BS := hide (blk_keep (uh BS) hk)
  replace BR := hide (blk_keep (uh BR) hk)
  replace BM := hide (blk_keep (uh BM) hk)
  replace PE := hide ((uh PE).keepF hk)
  replace PS := hide ((uh PS).keepF hk)
  replace PR := hide ((uh PR).keepF hk)
  replace PX := hide ((uh PX).keepF hk)
  replace HK := hide ((uh HK).trans hk)
  have PT : Hid (FldsAt w1 t1 S) := rowAt_own hot
  obtain ⟨to, tc, rfl⟩ := RowAt.form (uh PT)
  clear hot hk
  have kN := kAlloc w1 (.cells #[.slice to S.length tc] 24)
  have hN := heap_alloc_new w1 (.cells #[.slice to S.length tc] 24)
  generalize hXX1 : w1.alloc (.cells #[.slice to S.length tc] 24) = X1 at *
  replace BS := hide (blk_keep (uh BS) kN)
  replace BR := hide (blk_keep (uh BR) kN)
  replace BM := hide (blk_keep (uh BM) kN)
  replace PE := hide ((uh PE).keepF kN)
  replace PS := hide ((uh PS).keepF kN)
  replace PR := hide ((uh PR).keepF kN)
  replace PX := hide ((uh PX).keepF kN)
  replace PT := hide ((uh PT).keepF kN)
  replace HK := hide ((uh HK).trans kN)
  have BT := hide hN
  clear kN hN
  obtain ⟨cc2, cc3⟩ := cl2 (uh BR)
  have HQ := hide (copyRowL_v X1 hh _ vals (uh PR) hVL)
  go_wp2_with fail
  refine (uh HQ).mono ?_
  rintro e w2 ⟨qo, qc, rfl, hoq, hk⟩
  clear HQ
  clear cc2 cc3
  replace BS := hide (blk_keep (uh BS) hk)
  replace BR := hide (blk_keep (uh BR) hk)
  replace BM := hide (blk_keep (uh BM) hk)
  replace BT := hide (blk_keep (uh BT) hk)
  replace PE := hide ((uh PE).keepF hk)
  replace PS := hide ((uh PS).keepF hk)
  replace PR := hide ((uh PR).keepF hk)
  replace PX := hide ((uh PX).keepF hk)
  replace PT := hide ((uh PT).keepF hk)
  replace HK := hide ((uh HK).trans hk)
  have PQ : Hid (ValsAt w2 (.slice qo vals.length qc) vals) := rowAt_own hoq
  clear hoq hk
  have kN := kAlloc w2 (.cells #[.bool hh, .slice qo vals.length qc] 28)
  have hN := heap_alloc_new w2 (.cells #[.bool hh, .slice qo vals.length qc] 28)
  generalize hXX2 : w2.alloc (.cells #[.bool hh, .slice qo vals.length qc] 28) = X2 at *
  replace BS := hide (blk_keep (uh BS) kN)
  replace BR := hide (blk_keep (uh BR) kN)
  replace BM := hide (blk_keep (uh BM) kN)
  replace BT := hide (blk_keep (uh BT) kN)
  replace PE := hide ((uh PE).keepF kN)
  replace PS := hide ((uh PS).keepF kN)
  replace PR := hide ((uh PR).keepF kN)
  replace PX := hide ((uh PX).keepF kN)
  replace PT := hide ((uh PT).keepF kN)
  replace PQ := hide ((uh PQ).keepF kN)
  replace HK := hide ((uh HK).trans kN)
  have BQ := hide hN
  clear kN hN
  obtain ⟨cc4, cc5, cc6, cc7⟩ := cl4 (uh BM)
  have HQ := hide (copyMsg_v ⟨xk, xkey, xv, xc⟩ _ _ X2 (uh PX).vals (uh PX).code (uh HLV) (uh HLC))
  simp only at HQ
  go_wp2_with fail
  refine (uh HQ).mono ?_
  rintro e w3 ⟨v1, c1, rfl, hov, hoc, hk⟩
  clear HQ
  clear cc4 cc5 cc6 cc7
  replace BS := hide (blk_keep (uh BS) hk)
  replace BR := hide (blk_keep (uh BR) hk)
  replace BM := hide (blk_keep (uh BM) hk)
  replace BT := hide (blk_keep (uh BT) hk)
  replace BQ := hide (blk_keep (uh BQ) hk)
  replace PE := hide ((uh PE).keepF hk)
  replace PS := hide ((uh PS).keepF hk)
  replace PR := hide ((uh PR).keepF hk)
  replace PX := hide ((uh PX).keepF hk)
  replace PT := hide ((uh PT).keepF hk)
  replace PQ := hide ((uh PQ).keepF hk)
  replace HK := hide ((uh HK).trans hk)
  have hv1 : ValsAt w3 v1 xv := rowAt_own hov
  have hc1 : BytesAt w3 c1 xc := rowAt_own hoc
  obtain ⟨ao, ac, rfl⟩ := RowAt.form hv1
  obtain ⟨do_, dc, rfl⟩ := RowAt.form hc1
  have PN : Hid (MsgOK w3 ⟨⟨xk, xkey, xv, xc⟩, .slice ao xv.length ac, .slice do_ xc.length dc⟩) := ⟨hv1, hc1, uh HIN, uh HKL, uh HLV, uh HLC⟩
  clear hov hoc hk hv1 hc1
  have kN := kAlloc w3 (.cells #[.int .i64 xk, str xkey, .slice ao xv.length ac, .slice do_ xc.length dc] 50)
  have hN := heap_alloc_new w3 (.cells #[.int .i64 xk, str xkey, .slice ao xv.length ac, .slice do_ xc.length dc] 50)
  generalize hXX3 : w3.alloc (.cells #[.int .i64 xk, str xkey, .slice ao xv.length ac, .slice do_ xc.length dc] 50) = X3 at *
  replace BS := hide (blk_keep (uh BS) kN)
  replace BR := hide (blk_keep (uh BR) kN)
  replace BM := hide (blk_keep (uh BM) kN)
  replace BT := hide (blk_keep (uh BT) kN)
  replace BQ := hide (blk_keep (uh BQ) kN)
  replace PE := hide ((uh PE).keepF kN)
  replace PS := hide ((uh PS).keepF kN)
  replace PR := hide ((uh PR).keepF kN)
  replace PX := hide ((uh PX).keepF kN)
  replace PT := hide ((uh PT).keepF kN)
  replace PQ := hide ((uh PQ).keepF kN)
  replace PN := hide ((uh PN).keepF kN)
  replace HK := hide ((uh HK).trans kN)
  have BN := hide hN
  clear kN hN
  have cc8 := cl1 (uh BT)
  obtain ⟨cc9, cc10⟩ := cl2 (uh BQ)
  obtain ⟨cc11, cc12, cc13, cc14⟩ := cl4 (uh BN)
  have HQ := hide (apply_v S _ _ hh vals _ X3 (uh PE) (uh PT) (uh PQ) (uh PN))
  rw [uh HAA] at HQ
  simp only at HQ
  go_wp2_with fail
  refine (uh HQ).mono ?_
  rintro e w4 ⟨go, gc, rfl, hv4, hk⟩
  clear HQ
  clear cc8 cc9 cc10 cc11 cc12 cc13 cc14
  replace BS := hide (blk_keep (uh BS) hk)
  replace BR := hide (blk_keep (uh BR) hk)
  replace BM := hide (blk_keep (uh BM) hk)
  replace BT := hide (blk_keep (uh BT) hk)
  replace BQ := hide (blk_keep (uh BQ) hk)
  replace BN := hide (blk_keep (uh BN) hk)
  replace PE := hide ((uh PE).keepF hk)
  replace PS := hide ((uh PS).keepF hk)
  replace PR := hide ((uh PR).keepF hk)
  replace PX := hide ((uh PX).keepF hk)
  replace PT := hide ((uh PT).keepF hk)
  replace PQ := hide ((uh PQ).keepF hk)
  replace PN := hide ((uh PN).keepF hk)
  replace HK := hide ((uh HK).trans hk)
  have PG := hide hv4
  clear hv4 hk
  have kN := kAlloc w4 (.cells #[.bool Rh, .slice go Rv.length gc] 28)
  have hN := heap_alloc_new w4 (.cells #[.bool Rh, .slice go Rv.length gc] 28)
  generalize hXX4 : w4.alloc (.cells #[.bool Rh, .slice go Rv.length gc] 28) = X4 at *
  replace BS := hide (blk_keep (uh BS) kN)
  replace BR := hide (blk_keep (uh BR) kN)
  replace BM := hide (blk_keep (uh BM) kN)
  replace BT := hide (blk_keep (uh BT) kN)
  replace BQ := hide (blk_keep (uh BQ) kN)
  replace BN := hide (blk_keep (uh BN) kN)
  replace PE := hide ((uh PE).keepF kN)
  replace PS := hide ((uh PS).keepF kN)
  replace PR := hide ((uh PR).keepF kN)
  replace PX := hide ((uh PX).keepF kN)
  replace PT := hide ((uh PT).keepF kN)
  replace PQ := hide ((uh PQ).keepF kN)
  replace PN := hide ((uh PN).keepF kN)
  replace PG := hide ((uh PG).keepF kN)
  replace HK := hide ((uh HK).trans kN)
  have BG := hide hN
  clear kN hN
  have cc15 := cl1 (uh BS)
  obtain ⟨cc16, cc17⟩ := cl2 (uh BR)
  obtain ⟨cc18, cc19, cc20, cc21⟩ := cl4 (uh BM)
  have HQ := hide (applyR_v S _ _ hh vals _ X4 (uh PS) (uh PR) (uh PX) hVL)
  simp only at HQ
  rw [uh HAA] at HQ
  simp only at HQ
  go_wp2_with fail
  refine (uh HQ).mono ?_
  rintro e w5 ⟨ho, hc, rfl, hv5, hk⟩
  clear HQ
  clear cc15 cc16 cc17 cc18 cc19 cc20 cc21
  replace BS := hide (blk_keep (uh BS) hk)
  replace BR := hide (blk_keep (uh BR) hk)
  replace BM := hide (blk_keep (uh BM) hk)
  replace BT := hide (blk_keep (uh BT) hk)
  replace BQ := hide (blk_keep (uh BQ) hk)
  replace BN := hide (blk_keep (uh BN) hk)
  replace BG := hide (blk_keep (uh BG) hk)
  replace PE := hide ((uh PE).keepF hk)
  replace PS := hide ((uh PS).keepF hk)
  replace PR := hide ((uh PR).keepF hk)
  replace PX := hide ((uh PX).keepF hk)
  replace PT := hide ((uh PT).keepF hk)
  replace PQ := hide ((uh PQ).keepF hk)
  replace PN := hide ((uh PN).keepF hk)
  replace PG := hide ((uh PG).keepF hk)
  replace HK := hide ((uh HK).trans hk)
  have PH := hide hv5
  clear hv5 hk
  have kN := kAlloc w5 (.cells #[.bool Rh, .slice ho Rv.length hc] 28)
  have hN := heap_alloc_new w5 (.cells #[.bool Rh, .slice ho Rv.length hc] 28)
  generalize hXX5 : w5.alloc (.cells #[.bool Rh, .slice ho Rv.length hc] 28) = X5 at *
  replace BS := hide (blk_keep (uh BS) kN)
  replace BR := hide (blk_keep (uh BR) kN)
  replace BM := hide (blk_keep (uh BM) kN)
  replace BT := hide (blk_keep (uh BT) kN)
  replace BQ := hide (blk_keep (uh BQ) kN)
  replace BN := hide (blk_keep (uh BN) kN)
  replace BG := hide (blk_keep (uh BG) kN)
  replace PE := hide ((uh PE).keepF kN)
  replace PS := hide ((uh PS).keepF kN)
  replace PR := hide ((uh PR).keepF kN)
  replace PX := hide ((uh PX).keepF kN)
  replace PT := hide ((uh PT).keepF kN)
  replace PQ := hide ((uh PQ).keepF kN)
  replace PN := hide ((uh PN).keepF kN)
  replace PG := hide ((uh PG).keepF kN)
  replace PH := hide ((uh PH).keepF kN)
  replace HK := hide ((uh HK).trans kN)
  have BH := hide hN
  clear kN hN
  obtain ⟨cc22, cc23⟩ := cl2 (uh BG)
  obtain ⟨cc24, cc25⟩ := cl2 (uh BH)
  have HQ := hide (eqRow_v X5 Rh Rh _ _ Rv Rv (uh PG) (uh PH) (uh HAL))
  rw [decide_eq_true (show Rh = Rh from rfl), decide_eq_true (show Rv = Rv from rfl)] at HQ
  simp only [Bool.and_true] at HQ
  go_wp2_with fail
  refine (uh HQ).mono ?_
  rintro e w6 ⟨rfl, hk⟩
  clear HQ
  clear cc22 cc23 cc24 cc25
  replace BS := hide (blk_keep (uh BS) hk)
  replace BR := hide (blk_keep (uh BR) hk)
  replace BM := hide (blk_keep (uh BM) hk)
  replace BT := hide (blk_keep (uh BT) hk)
  replace BQ := hide (blk_keep (uh BQ) hk)
  replace BN := hide (blk_keep (uh BN) hk)
  replace BG := hide (blk_keep (uh BG) hk)
  replace BH := hide (blk_keep (uh BH) hk)
  replace PE := hide ((uh PE).keepF hk)
  replace PS := hide ((uh PS).keepF hk)
  replace PR := hide ((uh PR).keepF hk)
  replace PX := hide ((uh PX).keepF hk)
  replace PT := hide ((uh PT).keepF hk)
  replace PQ := hide ((uh PQ).keepF hk)
  replace PN := hide ((uh PN).keepF hk)
  replace PG := hide ((uh PG).keepF hk)
  replace PH := hide ((uh PH).keepF hk)
  replace HK := hide ((uh HK).trans hk)
  clear hk
  have cc26 := cl1 (uh BT)
  have cc27 := cl1 (uh BS)
  have HQ := hide (eqSchema_any w6 _ _ S S (uh PT) (uh PS) hsl)
  rw [decide_eq_true (show S = S from rfl)] at HQ
  go_wp2_with fail
  refine (uh HQ).mono ?_
  rintro e w7 ⟨rfl, hk⟩
  clear HQ
  clear cc26 cc27
  replace BS := hide (blk_keep (uh BS) hk)
  replace BR := hide (blk_keep (uh BR) hk)
  replace BM := hide (blk_keep (uh BM) hk)
  replace BT := hide (blk_keep (uh BT) hk)
  replace BQ := hide (blk_keep (uh BQ) hk)
  replace BN := hide (blk_keep (uh BN) hk)
  replace BG := hide (blk_keep (uh BG) hk)
  replace BH := hide (blk_keep (uh BH) hk)
  replace PE := hide ((uh PE).keepF hk)
  replace PS := hide ((uh PS).keepF hk)
  replace PR := hide ((uh PR).keepF hk)
  replace PX := hide ((uh PX).keepF hk)
  replace PT := hide ((uh PT).keepF hk)
  replace PQ := hide ((uh PQ).keepF hk)
  replace PN := hide ((uh PN).keepF hk)
  replace PG := hide ((uh PG).keepF hk)
  replace PH := hide ((uh PH).keepF hk)
  replace HK := hide ((uh HK).trans hk)
  clear hk
  obtain ⟨cc28, cc29⟩ := cl2 (uh BQ)
  obtain ⟨cc30, cc31⟩ := cl2 (uh BR)
  have HQ := hide (eqRow_v w7 hh hh _ _ vals vals (uh PQ) (uh PR) hvl)
  rw [decide_eq_true (show hh = hh from rfl), decide_eq_true (show vals = vals from rfl)] at HQ
  simp only [Bool.and_true] at HQ
  go_wp2_with fail
  refine (uh HQ).mono ?_
  rintro e w8 ⟨rfl, hk⟩
  clear HQ
  clear cc28 cc29 cc30 cc31
  replace BS := hide (blk_keep (uh BS) hk)
  replace BR := hide (blk_keep (uh BR) hk)
  replace BM := hide (blk_keep (uh BM) hk)
  replace BT := hide (blk_keep (uh BT) hk)
  replace BQ := hide (blk_keep (uh BQ) hk)
  replace BN := hide (blk_keep (uh BN) hk)
  replace BG := hide (blk_keep (uh BG) hk)
  replace BH := hide (blk_keep (uh BH) hk)
  replace PE := hide ((uh PE).keepF hk)
  replace PS := hide ((uh PS).keepF hk)
  replace PR := hide ((uh PR).keepF hk)
  replace PX := hide ((uh PX).keepF hk)
  replace PT := hide ((uh PT).keepF hk)
  replace PQ := hide ((uh PQ).keepF hk)
  replace PN := hide ((uh PN).keepF hk)
  replace PG := hide ((uh PG).keepF hk)
  replace PH := hide ((uh PH).keepF hk)
  replace HK := hide ((uh HK).trans hk)
  clear hk
  obtain ⟨cc32, cc33, cc34, cc35⟩ := cl4 (uh BN)
  obtain ⟨cc36, cc37, cc38, cc39⟩ := cl4 (uh BM)
  have HQ := hide (eqMsg_v w8 xk xkey _ _ _ _ xv xc (uh PN).vals (uh PX).vals (uh PN).code (uh PX).code hxl hcl)
  go_wp2_with fail
  refine (uh HQ).mono ?_
  rintro e w9 ⟨rfl, hk⟩
  clear HQ
  clear cc32 cc33 cc34 cc35 cc36 cc37 cc38 cc39
  go_wp2_with fail
  go_ret
  exact ⟨rfl, (uh HK).trans hk⟩
end Go.Proofs.YticcefplndbbmaaGreatDoor
