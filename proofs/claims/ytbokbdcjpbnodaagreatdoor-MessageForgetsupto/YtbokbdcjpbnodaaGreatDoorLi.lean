import Derived.Test.YtbokbdcjpbnodaaGreatDoorLh
import Derived.Test.YtbokbdcjpbnodaaGreatDoorJk
import Derived.Test.YtbokbdcjpbnodaaGreatDoorKa
import Derived.Test.YtbokbdcjpbnodaaGreatDoorHa
import Derived.Test.YtbokbdcjpbnodaaGreatDoorKg
import Derived.Test.YtbokbdcjpbnodaaGreatDoorJv
import Derived.Test.YtbokbdcjpbnodaaGreatDoorJu
import Derived.Test.YtbokbdcjpbnodaaGreatDoorKe
namespace Go.Proofs.YtbokbdcjpbnodaaGreatDoor
open Go.RowKit Go.Maps
set_option maxRecDepth 100000
theorem eql_nilV (W : World) (a : Option Addr) (l c : Nat) : (binOp .eql 26 (.slice a l c) (.slice none 0 0)).run Tryz.prog W = .ok (.bool a.isNone) W := by
 simp only [binOp]
 simp [run_equal_slice_nil W 26 74 a l c Tryz.underlying26]
theorem owns_empty3 (w : World) : (w.alloc (.cells #[] 74)).ownsRow w.heap.size 74 3 (.slice (some ⟨w.heap.size, 0, none⟩) 0 0) 0 [] :=
 ⟨rfl, Or.inr ⟨w.heap.size, 0, #[], rfl, Nat.le_refl _, heap_alloc_new w (.cells #[] 74), Nat.le_refl _, Nat.zero_le _, rfl, rfl⟩⟩
theorem cloneV_v (l : List ValA) (v : Value) (w : World) (h : ValsAt w v l) (hl : l.length ≤ 1024) :
  Calls Tryz.prog 85 #[v] w fun e w' => ∃ ro rc, e = .returned (.slice ro l.length rc) ∧ ValsAt w' (.slice ro l.length rc) l ∧ Keeps (fun _ => False) w w' := by
 obtain ⟨ao, cap, rfl⟩ := RowAt.form h
 cases ao with
 | none =>
  have h0 : l.length = 0 := by
   rcases Nat.eq_zero_or_pos l.length with h' | h'
   ·exact h'
   ·obtain ⟨b, off, c, e, _⟩ := RowAt.cells h h'
    simp at e
  obtain rfl := List.eq_nil_of_length_eq_zero h0
  have hnone : ∀ W : World, (binOp .eql 26 (.slice none 0 cap) (.slice none 0 0)).run Tryz.prog W = .ok (.bool true) W := fun W => eql_nilV W none 0 cap
  clear h
  go_enter Tryz.func85, Tryz.ntmps85
  go_wp2_with fail
  refine bodyPost_ret (v := .slice none 0 0) (by simp [results, go_sem]) rfl ?_
  exact ⟨none, 0, rfl, nil_vals _, Keeps.refl _ _⟩
 | some ad =>
  obtain ⟨HX, hxb, hxc⟩ := boxed w #[] 74
  have HV := hide (h.keepF (uh HX))
  have HE := hide (owns_empty3 w)
  have hsome : ∀ W : World, (binOp .eql 26 (.slice (some ad) l.length cap) (.slice none 0 0)).run Tryz.prog W = .ok (.bool false) W := fun W => eql_nilV W (some ad) l.length cap
  clear hxc h
  go_enter Tryz.func85, Tryz.ntmps85
  go_wp2_with (at_builtin; refine wpList_appendV_any rfl _ _ rfl w.heap.size (.slice (some ⟨w.heap.size, 0, none⟩) 0 0) 0 [] rfl (uh HE) (.slice (some ad) l.length cap) l rfl (uh HV) (by unfold maxLen; omega) (by omega) (by simp) ?_; intro v2 w2 hown2 hgrow2)
  have hv : ValsAt w2 v2 l := by
   have q := rowAt_own hown2
   simp only [Nat.zero_add, List.nil_append] at q
   exact q
  obtain ⟨ro, rc, rfl⟩ := RowAt.form hv
  have HV2 := hide hv
  have HK2 := hide ((uh HX).grown hgrow2 (fun k e hk => by simp only [Value.ownBlock, Option.some.injEq] at e; omega))
  clear hv hown2 hgrow2
  go_wp2_with fail
  refine bodyPost_ret (v := .slice ro l.length rc) (by simp [results, go_sem]) rfl ?_
  exact ⟨ro, rc, rfl, uh HV2, uh HK2⟩
def didA (S : List FieldA) (r : Bool × List ValA) (m : MsgA) : Bool × List ValA := if m.kind = 1 then (true, m.vals) else if m.kind = 2 then (false, []) else ((execO S m.code r.1 r.2).here, (execO S m.code r.1 r.2).vals)
end Go.Proofs.YtbokbdcjpbnodaaGreatDoor
namespace Go.Proofs.YtbokbdcjpbnodaaGreatDoor
open Go.RowKit Go.Maps
set_option maxRecDepth 100000
set_option maxHeartbeats 6000000
theorem effect_v (S : List FieldA) (sv u vv cv : Value) (hh : Bool) (vals : List ValA) (x : MsgA) (w : World) (hE : Env w) (hS : FldsAt w sv S) (hr : ValsAt w u vals) (hv : ValsAt w vv x.vals) (hc : BytesAt w cv x.code) (hl : x.kind = 1 → x.vals.length ≤ 1024) (hk3 : x.kind = 1 ∨ x.kind = 2 ∨ x.kind = 3) :
  Calls Tryz.prog 57 #[.agg #[sv], .agg #[.bool hh, u], .agg #[.int .i64 x.kind, str x.key, vv, cv]] w fun e w' => ∃ ro rc, e = .returned (.agg #[.bool (didA S (hh, vals) x).1, .slice ro (didA S (hh, vals) x).2.length rc]) ∧ ValsAt w' (.slice ro (didA S (hh, vals) x).2.length rc) (didA S (hh, vals) x).2 ∧ Keeps (fun _ => False) w w' := by
 obtain ⟨so, sc, rfl⟩ := RowAt.form hS
 obtain ⟨uo, uc, rfl⟩ := RowAt.form hr
 obtain ⟨vo, vc, rfl⟩ := RowAt.form hv
 obtain ⟨co, cc, rfl⟩ := RowAt.form hc
 obtain ⟨k, key, xv, xc⟩ := x
 simp only at *
 obtain ⟨W, hW, hkW, g0, g1, g2, g3⟩ := boxes4 w #[.slice so S.length sc] #[.bool hh, .slice uo vals.length uc] #[.int .i64 k, str key, .slice vo xv.length vc, .slice co xc.length cc] #[.bool false, .slice none 0 0] 24 28 50 28
 have p0 := cl1 g0
 obtain ⟨r0, r1⟩ := cl2 g1
 obtain ⟨q0, q1, q2, q3⟩ := cl4 g2
 rcases hk3 with rfl | rfl | rfl
 ·have hl' := hl rfl
  have HQ := hide (cloneV_v xv _ W (hv.keepF hkW) hl')
  rw [show didA S (hh, vals) ⟨1, key, xv, xc⟩ = (true, xv) from rfl]
  have HKW := hide hkW
  have G3 := hide g3
  clear g0 g1 g2 g3 hS hr hc hkW hl hv
  go_enter Tryz.func57, Tryz.ntmps57
  go_wp2_with fail
  refine (uh HQ).mono ?_
  rintro e w1 ⟨ro, rc, rfl, hv1, hk1⟩
  have h3 := blk_keep (uh G3) hk1
  obtain ⟨y0, y1⟩ := cl2 h3
  obtain ⟨z0, z1⟩ := fz2 h3
  obtain ⟨s0, s1⟩ := set2c h3 (.bool true) (.slice ro xv.length rc)
  have k2 := keeps_set2 w1 (w.heap.size + 1 + 1 + 1) (.bool true) (.slice ro xv.length rc)
  have HV := hide (vals_off hv1 h3 (off2 (by simp)) k2)
  have HK := hide (((uh HKW).trans hk1).fresh (by omega) k2)
  clear HQ hv1 hk1 k2 h3
  go_wp2_with fail
  refine bodyPost_ret (v := .agg #[.bool true, .slice ro xv.length rc]) (by simp [results, go_sem, s0, s1]) rfl ?_
  exact ⟨_, _, rfl, uh HV, uh HK⟩
 ·rw [show didA S (hh, vals) ⟨2, key, xv, xc⟩ = (false, []) from rfl]
  obtain ⟨y0, y1⟩ := cl2 g3
  obtain ⟨z0, z1⟩ := fz2 g3
  obtain ⟨s0, s1⟩ := set2c g3 (.bool false) (.slice none 0 0)
  have HK := hide (hkW.fresh (by omega) (keeps_set2 W (w.heap.size + 1 + 1 + 1) (.bool false) (.slice none 0 0)))
  clear g0 g1 g2 g3 hS hr hc hkW hl hv
  go_enter Tryz.func57, Tryz.ntmps57
  go_wp2_with fail
  refine bodyPost_ret (v := .agg #[.bool false, .slice none 0 0]) (by simp [results, go_sem, s0, s1]) rfl ?_
  exact ⟨none, 0, rfl, nil_vals _, uh HK⟩
 ·have HQ := hide (exec_u S _ _ _ xc hh vals W (hE.keepF hkW) (hS.keepF hkW) (hc.keepF hkW) (hr.keepF hkW))
  rw [show didA S (hh, vals) ⟨3, key, xv, xc⟩ = ((execO S xc hh vals).here, (execO S xc hh vals).vals) from rfl]
  generalize execO S xc hh vals = EO at *
  obtain ⟨Re, Rh, Rv, Rs, Rd⟩ := EO
  simp only at HQ ⊢
  have HKW := hide hkW
  have G1 := hide g1
  have G3 := hide g3
  clear g0 g1 g2 g3 hS hr hc hkW hl hv
  go_enter Tryz.func57, Tryz.ntmps57
  go_wp2_with fail
  refine (uh HQ).mono ?_
  rintro e w1 ⟨ro, rc, rfl, hv1, hk1⟩
  have h1 := blk_keep (uh G1) hk1
  have h3 := blk_keep (uh G3) hk1
  obtain ⟨x0, x1⟩ := cl2 h1
  obtain ⟨f0, f1⟩ := fz2 h1
  obtain ⟨X, hX, h1', kX⟩ : ∃ X, (w1.setCell ⟨w.heap.size + 1, 0, none⟩ (.bool Rh)).setCell ⟨w.heap.size + 1, 1, none⟩ (.slice ro Rv.length rc) = X ∧ X.heap[w.heap.size + 1]? = some (.cells #[.bool Rh, .slice ro Rv.length rc] 28 (0, 0)) ∧ Keeps (fun q => q = w.heap.size + 1) w1 X := ⟨_, rfl, heap_setCell_at (o := 1) (heap_setCell_at (o := 0) h1 _) _, keeps_set2 _ _ _ _⟩
  have h3' := (kX.block _ (lt_of_block h3) (by omega)).trans h3
  have hv2 := vals_off hv1 h1 (off2 (by simp)) kX
  have HKX := hide (((uh HKW).trans hk1).fresh (by omega) kX)
  have a0 : X.cell? ⟨w.heap.size + 1, 0, none⟩ = some (.bool Rh) := (cell_of_blk h1' _).trans rfl
  have a1 : X.cell? ⟨w.heap.size + 1, 1, none⟩ = some (.slice ro Rv.length rc) := (cell_of_blk h1' _).trans rfl
  obtain ⟨y0, y1⟩ := cl2 h3'
  obtain ⟨z0, z1⟩ := fz2 h3'
  obtain ⟨s0, s1⟩ := set2c h3' (.bool Rh) (.slice ro Rv.length rc)
  have k2 := keeps_set2 X (w.heap.size + 1 + 1 + 1) (.bool Rh) (.slice ro Rv.length rc)
  have HV := hide (vals_off hv2 h3' (off2 (by simp)) k2)
  have HK := hide ((uh HKX).fresh (by omega) k2)
  clear HQ hv1 hk1 h1 h3 h1' h3' kX hv2 k2
  go_wp2_with fail
  refine bodyPost_ret (v := .agg #[.bool Rh, .slice ro Rv.length rc]) (by simp [results, go_sem, s0, s1]) rfl ?_
  exact ⟨_, _, rfl, uh HV, uh HK⟩
end Go.Proofs.YtbokbdcjpbnodaaGreatDoor
namespace Go.Proofs.YtbokbdcjpbnodaaGreatDoor
open Go.RowKit Go.Maps
set_option maxRecDepth 100000
set_option maxHeartbeats 6000000
theorem did_v (S : List FieldA) (sv u vv cv : Value) (hh : Bool) (vals : List ValA) (x : MsgA) (w : World) (hS : FldsAt w sv S) (hr : ValsAt w u vals) (hv : ValsAt w vv x.vals) (hc : BytesAt w cv x.code) (hl : x.kind = 1 → x.vals.length ≤ 1024) (hk3 : x.kind = 1 ∨ x.kind = 2 ∨ x.kind = 3) :
  Calls Tryz.prog 61 #[.agg #[sv], .agg #[.bool hh, u], .agg #[.int .i64 x.kind, str x.key, vv, cv]] w fun e w' => ∃ ro rc, e = .returned (.agg #[.bool (didA S (hh, vals) x).1, .slice ro (didA S (hh, vals) x).2.length rc]) ∧ ValsAt w' (.slice ro (didA S (hh, vals) x).2.length rc) (didA S (hh, vals) x).2 ∧ Keeps (fun _ => False) w w' := by
 obtain ⟨so, sc, rfl⟩ := RowAt.form hS
 obtain ⟨uo, uc, rfl⟩ := RowAt.form hr
 obtain ⟨vo, vc, rfl⟩ := RowAt.form hv
 obtain ⟨co, cc, rfl⟩ := RowAt.form hc
 obtain ⟨k, key, xv, xc⟩ := x
 simp only at *
 obtain ⟨W, hW, hkW, g0, g1, g2, g3⟩ := boxes4 w #[.slice so S.length sc] #[.bool hh, .slice uo vals.length uc] #[.int .i64 k, str key, .slice vo xv.length vc, .slice co xc.length cc] #[.bool false, .slice none 0 0] 24 28 50 28
 have p0 := cl1 g0
 obtain ⟨r0, r1⟩ := cl2 g1
 obtain ⟨q0, q1, q2, q3⟩ := cl4 g2
 rcases hk3 with rfl | rfl | rfl
 ·have hl' := hl rfl
  have HQ := hide (copyVals_any W _ xv (hv.keepF hkW) (by omega))
  rw [show didA S (hh, vals) ⟨1, key, xv, xc⟩ = (true, xv) from rfl]
  have HKW := hide hkW
  have G3 := hide g3
  clear g0 g1 g2 g3 hS hr hc hkW hl hv
  go_enter Tryz.func61, Tryz.ntmps61
  go_wp2_with fail
  refine (uh HQ).mono ?_
  rintro e w1 ⟨v', rfl, hown, hk1⟩
  have hv1 : ValsAt w1 v' xv := rowAt_own hown
  obtain ⟨ro, rc, rfl⟩ := RowAt.form hv1
  clear hown
  have h3 := blk_keep (uh G3) hk1
  obtain ⟨y0, y1⟩ := cl2 h3
  obtain ⟨z0, z1⟩ := fz2 h3
  obtain ⟨s0, s1⟩ := set2c h3 (.bool true) (.slice ro xv.length rc)
  have k2 := keeps_set2 w1 (w.heap.size + 1 + 1 + 1) (.bool true) (.slice ro xv.length rc)
  have HV := hide (vals_off hv1 h3 (off2 (by simp)) k2)
  have HK := hide (((uh HKW).trans hk1).fresh (by omega) k2)
  clear HQ hv1 hk1 k2 h3
  go_wp2_with fail
  refine bodyPost_ret (v := .agg #[.bool true, .slice ro xv.length rc]) (by simp [results, go_sem, s0, s1]) rfl ?_
  exact ⟨_, _, rfl, uh HV, uh HK⟩
 ·rw [show didA S (hh, vals) ⟨2, key, xv, xc⟩ = (false, []) from rfl]
  obtain ⟨y0, y1⟩ := cl2 g3
  obtain ⟨z0, z1⟩ := fz2 g3
  obtain ⟨s0, s1⟩ := set2c g3 (.bool false) (.slice none 0 0)
  have HK := hide (hkW.fresh (by omega) (keeps_set2 W (w.heap.size + 1 + 1 + 1) (.bool false) (.slice none 0 0)))
  clear g0 g1 g2 g3 hS hr hc hkW hl hv
  go_enter Tryz.func61, Tryz.ntmps61
  go_wp2_with fail
  refine bodyPost_ret (v := .agg #[.bool false, .slice none 0 0]) (by simp [results, go_sem, s0, s1]) rfl ?_
  exact ⟨none, 0, rfl, nil_vals _, uh HK⟩
 ·have HQ := hide (execR_v S _ _ _ xc hh vals W (hS.keepF hkW) (hc.keepF hkW) (hr.keepF hkW))
  rw [show didA S (hh, vals) ⟨3, key, xv, xc⟩ = ((execO S xc hh vals).here, (execO S xc hh vals).vals) from rfl]
  generalize execO S xc hh vals = EO at *
  obtain ⟨Re, Rh, Rv, Rs, Rd⟩ := EO
  simp only at HQ ⊢
  have HKW := hide hkW
  have G1 := hide g1
  have G3 := hide g3
  clear g0 g1 g2 g3 hS hr hc hkW hl hv
  go_enter Tryz.func61, Tryz.ntmps61
  go_wp2_with fail
  refine (uh HQ).mono ?_
  rintro e w1 ⟨ro, rc, rfl, hv1, hk1⟩
  have h1 := blk_keep (uh G1) hk1
  have h3 := blk_keep (uh G3) hk1
  have kz := kAlloc w1 (.cells #[.bool Rh, .slice ro Rv.length rc] 28)
  have hN := heap_alloc_new w1 (.cells #[.bool Rh, .slice ro Rv.length rc] 28)
  generalize hX : w1.alloc (.cells #[.bool Rh, .slice ro Rv.length rc] 28) = X at *
  have h3' := blk_keep h3 kz
  have hv2 := hv1.keepF kz
  have HKX := hide (((uh HKW).trans hk1).trans kz)
  have a0 : X.cell? ⟨w1.heap.size, 0, none⟩ = some (.bool Rh) := (cell_of_blk hN _).trans rfl
  have a1 : X.cell? ⟨w1.heap.size, 1, none⟩ = some (.slice ro Rv.length rc) := (cell_of_blk hN _).trans rfl
  obtain ⟨y0, y1⟩ := cl2 h3'
  obtain ⟨z0, z1⟩ := fz2 h3'
  obtain ⟨s0, s1⟩ := set2c h3' (.bool Rh) (.slice ro Rv.length rc)
  have k2 := keeps_set2 X (w.heap.size + 1 + 1 + 1) (.bool Rh) (.slice ro Rv.length rc)
  have HV := hide (vals_off hv2 h3' (off2 (by simp)) k2)
  have HK := hide ((uh HKX).fresh (by omega) k2)
  clear HQ hv1 hk1 h1 h3 h3' kz hN hv2 k2
  go_wp2_with fail
  refine bodyPost_ret (v := .agg #[.bool Rh, .slice ro Rv.length rc]) (by simp [results, go_sem, s0, s1]) rfl ?_
  exact ⟨_, _, rfl, uh HV, uh HK⟩
end Go.Proofs.YtbokbdcjpbnodaaGreatDoor
namespace Go.Proofs.YtbokbdcjpbnodaaGreatDoor
open Go.RowKit Go.Maps
set_option maxRecDepth 100000
set_option maxHeartbeats 4000000
theorem copied_v (S : List FieldA) (sv u : Value) (hh : Bool) (vals : List ValA) (w : World) (hE : Env w) (hS : FldsAt w sv S) (hr : ValsAt w u vals) :
  Calls Tryz.prog 56 #[.agg #[sv], .agg #[.bool hh, u]] w fun e w' => ∃ ro rc, e = .returned (.tuple #[.agg #[.bool (execO S [] hh vals).here, .slice ro (execO S [] hh vals).vals.length rc], .int .i64 (execO S [] hh vals).e]) ∧ ValsAt w' (.slice ro (execO S [] hh vals).vals.length rc) (execO S [] hh vals).vals ∧ Keeps (fun _ => False) w w' := by
 obtain ⟨so, sc, rfl⟩ := RowAt.form hS
 obtain ⟨uo, uc, rfl⟩ := RowAt.form hr
 obtain ⟨W, hW, hkW, g0, g1, g2⟩ := boxes3 w #[.slice so S.length sc] #[.bool hh, .slice uo vals.length uc] #[.bool false, .slice none 0 0] 24 28 28
 have p0 := cl1 g0
 obtain ⟨r0, r1⟩ := cl2 g1
 have hnil : BytesAt W (.slice none 0 0) [] := ⟨⟨_, _, rfl⟩, fun h0 => by simp at h0, fun ao m cap e => by simp at e; omega⟩
 have HQ := hide (exec_u S _ _ _ [] hh vals W (hE.keepF hkW) (hS.keepF hkW) hnil (hr.keepF hkW))
 generalize execO S [] hh vals = EO at *
 obtain ⟨Re, Rh, Rv, Rs, Rd⟩ := EO
 simp only at HQ ⊢
 have HKW := hide hkW
 have G2 := hide g2
 clear g0 g1 g2 hS hr hkW hE hnil
 go_enter Tryz.func56, Tryz.ntmps56
 go_wp2_with fail
 refine (uh HQ).mono ?_
 rintro e w1 ⟨ro, rc, rfl, hv1, hk1⟩
 have h2 := blk_keep (uh G2) hk1
 obtain ⟨y0, y1⟩ := cl2 h2
 obtain ⟨z0, z1⟩ := fz2 h2
 obtain ⟨s0, s1⟩ := set2c h2 (.bool Rh) (.slice ro Rv.length rc)
 have k2 := keeps_set2 w1 (w.heap.size + 1 + 1) (.bool Rh) (.slice ro Rv.length rc)
 have HV := hide (vals_off hv1 h2 (off2 (by simp)) k2)
 have HK := hide (((uh HKW).trans hk1).fresh (by omega) k2)
 clear HQ hv1 hk1 k2 h2
 go_wp2_with fail
 refine bodyPost_ret (v := .tuple #[.agg #[.bool Rh, .slice ro Rv.length rc], .int .i64 Re]) (by simp [results, go_sem, s0, s1]) rfl ?_
 exact ⟨_, _, rfl, uh HV, uh HK⟩
end Go.Proofs.YtbokbdcjpbnodaaGreatDoor
namespace Go.Proofs.YtbokbdcjpbnodaaGreatDoor
open Go.RowKit Go.Maps
def firstM (S : List FieldA) : List MsgA → Int
 | [] => 0
 | m :: r => if checkM S m ≠ 0 then checkM S m else firstM S r
def foldA (S : List FieldA) (r : Bool × List ValA) (ms : List MsgA) : Bool × List ValA := ms.foldl (didA S) r
def applyE (S : List FieldA) (hh : Bool) (vals : List ValA) (ms : List MsgA) : Int := if errS S ≠ 0 then errS S else if firstM S ms ≠ 0 then firstM S ms else rowE S hh vals
def applyA (S : List FieldA) (hh : Bool) (vals : List ValA) (ms : List MsgA) : OutA := if applyE S hh vals ms ≠ 0 then ⟨applyE S hh vals ms, false, [], 0, 0⟩ else ⟨0, (foldA S (hh, vals) ms).1, (foldA S (hh, vals) ms).2, 0, 0⟩
theorem verify_nil (S : List FieldA) (h : errS S = 0) : (verifyA S []).2.2 = 0 := by
 unfold verifyA lookA
 rw [if_neg (by simp [h])]
 rfl
theorem exec_nil (S : List FieldA) (hh : Bool) (vals : List ValA) : execO S [] hh vals = if errS S ≠ 0 then ⟨errS S, false, [], 0, 0⟩ else if rowE S hh vals ≠ 0 then ⟨rowE S hh vals, false, [], 0, 0⟩ else ⟨0, hh, vals, 0, 0⟩ := by
 by_cases h : errS S = 0
 ·have hd : decC [] = ([], 0) := rfl
  have hv := verify_nil S h
  by_cases hr : rowE S hh vals = 0
  ·simp [execO, decE, h, hd, runO, outO, hv, hr, playM, deepD]
  ·simp [execO, decE, h, hd, runO, outO, hv, hr]
 ·simp [execO, decE, h]
theorem exec_bad {S : List FieldA} {hh : Bool} {vals : List ValA} {ms : List MsgA} (hf : firstM S ms = 0) (h : applyE S hh vals ms ≠ 0) : execO S [] hh vals = ⟨applyE S hh vals ms, false, [], 0, 0⟩ := by
 rw [exec_nil]
 unfold applyE at h ⊢
 by_cases hs : errS S = 0
 ·simp only [hs, hf, ne_eq, not_true_eq_false, if_false] at h ⊢
  rw [if_pos h]
 ·simp [hs]
theorem exec_good {S : List FieldA} {hh : Bool} {vals : List ValA} {ms : List MsgA} (hf : firstM S ms = 0) (h : applyE S hh vals ms = 0) : execO S [] hh vals = ⟨0, hh, vals, 0, 0⟩ := by
 rw [exec_nil]
 unfold applyE at h
 by_cases hs : errS S = 0
 ·simp only [hs, hf, ne_eq, not_true_eq_false, if_false] at h ⊢
  simp [h]
 ·rw [if_pos hs] at h; exact absurd h hs
theorem rowE_two {S : List FieldA} {hh : Bool} {vals : List ValA} (h : errS S = 0) : rowE S hh vals = 0 ∨ rowE S hh vals = 61 := by
 unfold rowE
 split
 ·unfold errR
  unfold errS at h
  split at h
  ·rename_i hs
   rw [if_pos hs]
   split <;> simp
  ·cases h
 ·split <;> simp
theorem check_shape {S : List FieldA} {m : MsgA} (h : checkM S m = 0) : errS S = 0 ∧ (m.kind = 1 ∨ m.kind = 2 ∨ m.kind = 3) ∧ (m.kind = 1 → m.vals.length ≤ 1024) := by
 unfold checkM at h
 by_cases hs : errS S = 0
 ·rw [if_neg (by simp [hs])] at h
  by_cases hb : shapeB m = false
  ·rw [if_pos hb] at h; cases h
  ·rw [if_neg hb] at h
   have hb' : shapeB m = true := by simpa using hb
   by_cases hk : keyE m.key = 0
   ·rw [if_neg (by simp [hk])] at h
    refine ⟨hs, ?_, fun h1 => ?_⟩
    ·rcases shape_kinds hb' with q | q | q
     ·exact Or.inl q.1
     ·exact Or.inr (Or.inl q.1)
     ·exact Or.inr (Or.inr q.1)
    ·rw [if_pos h1] at h
     have := rowOK_len hs (rowE_ok (S := S) (hh := true) (vals := m.vals) h)
     omega
   ·rw [if_pos hk] at h; exact absurd h hk
 ·rw [if_pos hs] at h; exact absurd h hs
theorem firstM_pre {S : List FieldA} : ∀ {ms : List MsgA} {k : Nat} {m : MsgA}, (∀ (j : Nat) (x : MsgA), j < k → ms[j]? = some x → checkM S x = 0) → ms[k]? = some m → checkM S m ≠ 0 → firstM S ms = checkM S m
 | [], _, _, _, h, _ => by simp at h
 | x :: r, 0, m, _, h, hm => by
  simp at h
  subst h
  rw [firstM, if_pos hm]
 | x :: r, k + 1, m, hp, h, hm => by
  have h0 := hp 0 x (by omega) rfl
  rw [firstM, if_neg (by simp [h0])]
  exact firstM_pre (k := k) (fun j y hj hy => hp (j + 1) y (by omega) (by simpa using hy)) (by simpa using h) hm
theorem firstM_all {S : List FieldA} : ∀ {ms : List MsgA}, (∀ (j : Nat) (x : MsgA), ms[j]? = some x → checkM S x = 0) → firstM S ms = 0
 | [], _ => rfl
 | x :: r, h => by
  rw [firstM, if_neg (by simp [h 0 x rfl])]
  exact firstM_all (fun j y hy => h (j + 1) y (by simpa using hy))
theorem foldA_snoc (S : List FieldA) (r : Bool × List ValA) (ms : List MsgA) (m : MsgA) : foldA S r (ms ++ [m]) = didA S (foldA S r ms) m := by simp [foldA]
theorem msgs_cells {w : World} {v : Value} {L : List MsgC} (h : MsgsAt w v L) (h0 : 0 < L.length) :
  ∃ b off cap, v = .slice (some ⟨b, off, none⟩) L.length cap ∧ b < w.heap.size ∧ ∀ i x, L[i]? = some x → w.cell? ⟨b, off + i * 4, none⟩ = some (.int .i64 x.m.kind) ∧ w.cell? ⟨b, off + i * 4 + 1, none⟩ = some (str x.m.key) ∧ w.cell? ⟨b, off + i * 4 + 2, none⟩ = some x.vv ∧ w.cell? ⟨b, off + i * 4 + 3, none⟩ = some x.cv := by
 obtain ⟨b, off, cap, e, hb, hc⟩ := RowAt.cells h.row h0
 refine ⟨b, off, cap, e, hb, fun i c hi => ?_⟩
 have g := fun j x hj => hc _ x (flatC_get MsgC.cs 4 (fun _ => rfl) L i j c x hi hj)
 have g0 := g 0 _ rfl
 have g1 := g 1 _ rfl
 have g2 := g 2 _ rfl
 have g3 := g 3 _ rfl
 rw [Nat.add_zero] at g0
 rw [← Nat.add_assoc] at g1 g2 g3
 exact ⟨g0, g1, g2, g3⟩
end Go.Proofs.YtbokbdcjpbnodaaGreatDoor
namespace Go.Proofs.YtbokbdcjpbnodaaGreatDoor
open Go.RowKit Go.Maps
set_option maxRecDepth 100000
set_option maxHeartbeats 8000000
theorem applyAll_v (S : List FieldA) (sv u vm : Value) (hh : Bool) (vals : List ValA) (L : List MsgC) (w : World) (hE : EnvM w) (hS : FldsAt w sv S) (hr : ValsAt w u vals) (hm : MsgsAt w vm L) (hL : L.length ≤ 4398046511104) :
  Calls Tryz.prog 28 #[.agg #[sv], .agg #[.bool hh, u], vm] w fun e w' => ∃ ro rc, e = .returned (.tuple #[.agg #[.bool (applyA S hh vals (L.map MsgC.m)).here, .slice ro (applyA S hh vals (L.map MsgC.m)).vals.length rc], .int .i64 (applyA S hh vals (L.map MsgC.m)).e]) ∧ ValsAt w' (.slice ro (applyA S hh vals (L.map MsgC.m)).vals.length rc) (applyA S hh vals (L.map MsgC.m)).vals ∧ Keeps (fun _ => False) w w' := by
 obtain ⟨so, sc, rfl⟩ := RowAt.form hS
 obtain ⟨uo, uc, rfl⟩ := RowAt.form hr
 obtain ⟨mo, mc, rfl⟩ := RowAt.form hm.row
 obtain ⟨W, hW, hkW, g0, g1, g2⟩ := boxes3 w #[.slice so S.length sc] #[.bool hh, .slice uo vals.length uc] #[.bool false, .slice none 0 0] 24 28 28
 have HEW := hide (hE.keepF hkW)
 have HSW := hide (hS.keepF hkW)
 have HRW := hide (hr.keepF hkW)
 have HMW := hide (hm.keepF hkW)
 have HKW := hide hkW
 have G0 := hide g0
 have G1 := hide g1
 have G2 := hide g2
 have HAA : Hid ((applyA S hh vals (L.map MsgC.m)) = if applyE S hh vals (L.map MsgC.m) ≠ 0 then ⟨applyE S hh vals (L.map MsgC.m), false, [], 0, 0⟩ else ⟨0, (foldA S (hh, vals) (L.map MsgC.m)).1, (foldA S (hh, vals) (L.map MsgC.m)).2, 0, 0⟩) := rfl
 generalize (applyA S hh vals (L.map MsgC.m)) = AA at *
 have hLm : L.length ≤ 9223372036854775806 := by omega
 clear g0 g1 g2 hkW hE hS hr hm hL
 go_enter Tryz.func28, Tryz.ntmps28
 go_wp2_with fail
 go_loopw [17] (fun i wr => ∃ k : Nat, k ≤ L.length ∧ i = .int .i64 (k : Int) ∧ Hid (∀ (j : Nat) (x : MsgA), j < k → (L.map MsgC.m)[j]? = some x → checkM S x = 0) ∧ Hid (Keeps (fun _ => False) W wr)) (fun i _ => L.length - (intOf i).toNat)
 case atStart => exact ⟨0, Nat.zero_le _, rfl, fun j x hj => absurd hj (Nat.not_lt_zero _), Keeps.refl _ _⟩
 case round =>
  obtain ⟨k, hk, rfl, HPRE, HKX⟩ := hrel
  have h0 := blk_keep (uh G0) (uh HKX)
  have h1 := blk_keep (uh G1) (uh HKX)
  have h2 := blk_keep (uh G2) (uh HKX)
  have i0 : (0 : Int) ≤ (k : Int) := by omega
  by_cases hlt : k < L.length
  ·obtain ⟨x, hx⟩ : ∃ x, L[k]? = some x := ⟨_, List.getElem?_eq_getElem hlt⟩
   obtain ⟨mb, mof, mcc, e, hmb, hmc⟩ := msgs_cells (uh HMW) (by omega)
   simp only [Value.slice.injEq] at e
   obtain ⟨rfl, -, rfl⟩ := e
   have okx := (uh HMW).ok x (List.mem_of_getElem? hx)
   obtain ⟨q0, q1, q2, q3⟩ := hmc k x hx
   have hxm : (L.map MsgC.m)[k]? = some x.m := by rw [List.getElem?_map, hx]; rfl
   have HXM := hide hxm
   obtain ⟨⟨xk, xkey, xv, xc⟩, xvv, xcv⟩ := x
   obtain ⟨vo, vc, e1⟩ := RowAt.form okx.vals
   obtain ⟨co, cc, e2⟩ := RowAt.form okx.code
   simp only at *
   subst e1
   subst e2
   replace q0 := ((uh HKX).cell hmb id).trans q0
   replace q1 := ((uh HKX).cell hmb id).trans q1
   replace q2 := ((uh HKX).cell hmb id).trans q2
   replace q3 := ((uh HKX).cell hmb id).trans q3
   have i1 : (k : Int) < (L.length : Int) := by omega
   have hN := heap_alloc_new wr (.cells #[.int .i64 xk, str xkey, .slice vo xv.length vc, .slice co xc.length cc] 50)
   have kN := kAlloc wr (.cells #[.int .i64 xk, str xkey, .slice vo xv.length vc, .slice co xc.length cc] 50)
   generalize hX : wr.alloc (.cells #[.int .i64 xk, str xkey, .slice vo xv.length vc, .slice co xc.length cc] 50) = X at *
   have n0 : X.cell? ⟨wr.heap.size, 0, none⟩ = some (.int .i64 xk) := (cell_of_blk hN _).trans rfl
   have n1 : X.cell? ⟨wr.heap.size, 1, none⟩ = some (str xkey) := (cell_of_blk hN _).trans rfl
   have n2 : X.cell? ⟨wr.heap.size, 2, none⟩ = some (.slice vo xv.length vc) := (cell_of_blk hN _).trans rfl
   have n3 : X.cell? ⟨wr.heap.size, 3, none⟩ = some (.slice co xc.length cc) := (cell_of_blk hN _).trans rfl
   have h0' := blk_keep h0 kN
   have h2' := blk_keep h2 kN
   have p0 : X.cell? ⟨w.heap.size, 0, none⟩ = some (.slice so S.length sc) := (cell_of_blk h0' _).trans rfl
   have kX := (uh HKX).trans kN
   have HQ := hide (check_v S _ (.slice vo xv.length vc) (.slice co xc.length cc) ⟨xk, xkey, xv, xc⟩ X ((uh HEW).keepF kX) ((uh HSW).keepF kX) (okx.vals.keepF kX) (okx.code.keepF kX) okx.key)
   simp only at HQ
   have HKX2 := hide kX
   have H2' := hide h2'
   by_cases hch : checkM S ⟨xk, xkey, xv, xc⟩ = 0
   ·rw [hch] at HQ
    have HPN : Hid (∀ (j : Nat) (x : MsgA), j < k + 1 → (L.map MsgC.m)[j]? = some x → checkM S x = 0) := fun j y hj hy => by
     by_cases hjk : j = k
     ·subst hjk
      rw [uh HXM] at hy
      cases hy
      exact hch
     ·exact (uh HPRE) j y (by omega) hy
    clear HPRE okx hmc hxm hx hN kN h0 h1 h2 h0' h2' kX hch HXM
    go_wp2_with fail
    refine (uh HQ).mono ?_
    rintro e w2 ⟨rfl, hk2⟩
    have HK2 := hide ((uh HKX2).trans hk2)
    clear hk2 HQ
    go_wp2_with fail
    go_roundw
    case rel => exact ⟨k + 1, by omega, by go_num, uh HPN, uh HK2⟩
    case measure => simp [intOf]; omega
   ·have HEE : Hid (AA = ⟨checkM S ⟨xk, xkey, xv, xc⟩, false, [], 0, 0⟩) := by
     show _ = _
     rw [uh HAA]
     have hf := firstM_pre (uh HPRE) (uh HXM) hch
     have he : applyE S hh vals (L.map MsgC.m) = checkM S ⟨xk, xkey, xv, xc⟩ := by
      unfold applyE
      by_cases hs : errS S = 0
      ·rw [if_neg (by simp [hs]), hf, if_pos hch]
      ·rw [if_pos hs]
       unfold checkM
       rw [if_pos hs]
     rw [he, if_pos hch]
    generalize checkM S ⟨xk, xkey, xv, xc⟩ = CE at *
    have e1 : (CE == 0) = false := by simpa using hch
    have e2 : (CE != 0) = true := by simpa using hch
    clear HPRE okx hmc hxm hx hN kN h0 h1 h2 h0' h2' kX HXM HAA
    go_wp2_with fail
    refine (uh HQ).mono ?_
    rintro e w2 ⟨rfl, hk2⟩
    have hb2 := blk_keep (uh H2') hk2
    have y0 : w2.cell? ⟨w.heap.size + 1 + 1, 0, none⟩ = some (.bool false) := (cell_of_blk hb2 _).trans rfl
    have y1 : w2.cell? ⟨w.heap.size + 1 + 1, 1, none⟩ = some (.slice none 0 0) := (cell_of_blk hb2 _).trans rfl
    have z0 := frozen_of_blk hb2 0
    have z1 := frozen_of_blk hb2 1
    obtain ⟨s0, s1⟩ := set2c hb2 (.bool false) (.slice none 0 0)
    have HK := hide ((((uh HKW).trans (uh HKX2)).trans hk2).fresh (by omega) (keeps_set2 w2 (w.heap.size + 1 + 1) (.bool false) (.slice none 0 0)))
    clear hk2 HQ hb2
    go_wp2_with fail
    refine bodyPost_ret (v := .tuple #[.agg #[.bool false, .slice none 0 0], .int .i64 CE]) (by simp [results, go_sem, s0, s1]) rfl ?_
    exact ⟨none, 0, by rw [uh HEE]; rfl, by rw [uh HEE]; exact nil_vals _, uh HK⟩
  ·have i1 : ¬ (k : Int) < (L.length : Int) := by omega
   have HALL : Hid (∀ (j : Nat) (x : MsgA), (L.map MsgC.m)[j]? = some x → checkM S x = 0) := fun j x hx => (uh HPRE) j x (by have := (List.getElem?_eq_some_iff.1 hx).1; simp at this; omega) hx
   have HF0 : Hid (firstM S (L.map MsgC.m) = 0) := firstM_all (uh HALL)
   have HQ := hide (copied_v S _ _ hh vals wr ((uh HEW).env.keepF (uh HKX)) ((uh HSW).keepF (uh HKX)) ((uh HRW).keepF (uh HKX)))
   have p0 : wr.cell? ⟨w.heap.size, 0, none⟩ = some (.slice so S.length sc) := (cell_of_blk h0 _).trans rfl
   have r0 : wr.cell? ⟨w.heap.size + 1, 0, none⟩ = some (.bool hh) := (cell_of_blk h1 _).trans rfl
   have r1 : wr.cell? ⟨w.heap.size + 1, 1, none⟩ = some (.slice uo vals.length uc) := (cell_of_blk h1 _).trans rfl
   have HB0 := hide h0
   have HB2 := hide h2
   clear HPRE h0 h1 h2 hk hlt
   by_cases hbad : applyE S hh vals (L.map MsgC.m) = 0
   ·rw [exec_good (uh HF0) hbad] at HQ
    simp only at HQ
    have HAE : Hid (AA = ⟨0, (foldA S (hh, vals) (L.map MsgC.m)).1, (foldA S (hh, vals) (L.map MsgC.m)).2, 0, 0⟩) := by show _ = _; rw [uh HAA, if_neg (by simp [hbad])]
    clear HAA hbad HF0
    go_wp2_with fail
    refine (uh HQ).mono ?_
    rintro e w2 ⟨ro, rc, rfl, hv2, hk2⟩
    have kN := kAlloc w2 (.cells #[.bool hh, .slice ro vals.length rc] 28)
    have hN := heap_alloc_new w2 (.cells #[.bool hh, .slice ro vals.length rc] 28)
    generalize hX : w2.alloc (.cells #[.bool hh, .slice ro vals.length rc] 28) = X at *
    have kX := ((uh HKX).trans hk2).trans kN
    have HWX := hide kX
    have HBO := hide hN
    have HVO := hide (hv2.keepF kN)
    have HY0 := hide (blk_keep (blk_keep (uh HB0) hk2) kN)
    have HY2 := hide (blk_keep (blk_keep (uh HB2) hk2) kN)
    have hbo : W.heap.size ≤ w2.heap.size := ((uh HKX).trans hk2).size
    have hWs : W.heap.size = w.heap.size + 1 + 1 + 1 := by rw [← hW]; simp
    clear HQ hv2 hk2 kN hN kX HKX HB0 HB2 p0 r0 r1
    go_wp2_with fail
    go_loopw [41] (fun i wr => ∃ (k : Nat) (R1 : Bool) (R2 : List ValA) (ro : Option Addr) (rc : Nat), k ≤ L.length ∧ i = .int .i64 (k : Int) ∧ Hid (foldA S (hh, vals) ((L.map MsgC.m).take k) = (R1, R2)) ∧ Hid (wr.heap[w2.heap.size]? = some (.cells #[.bool R1, .slice ro R2.length rc] 28 (0, 0))) ∧ Hid (ValsAt wr (.slice ro R2.length rc) R2) ∧ Hid (wr.heap[w.heap.size]? = some (.cells #[.slice so S.length sc] 24 (0, 0))) ∧ Hid (wr.heap[w.heap.size + 1 + 1]? = some (.cells #[.bool false, .slice none 0 0] 28 (0, 0))) ∧ Hid (Keeps (fun _ => False) W wr)) (fun i _ => L.length - (intOf i).toNat)
    case atStart => exact ⟨0, hh, vals, ro, rc, Nat.zero_le _, rfl, by simp [Hid, foldA], uh HBO, uh HVO, uh HY0, uh HY2, uh HWX⟩
    case round =>
     clear HBO HVO HY0 HY2 HWX
     obtain ⟨k, R1, R2, ro, rc, hk, rfl, HFO, HBO, HVO, HY0, HY2, HKX⟩ := hrel
     have i0 : (0 : Int) ≤ (k : Int) := by omega
     have o0 : wr.cell? ⟨w2.heap.size, 0, none⟩ = some (.bool R1) := (cell_of_blk (uh HBO) _).trans rfl
     have o1 : wr.cell? ⟨w2.heap.size, 1, none⟩ = some (.slice ro R2.length rc) := (cell_of_blk (uh HBO) _).trans rfl
     by_cases hlt : k < L.length
     ·obtain ⟨x, hx⟩ : ∃ x, L[k]? = some x := ⟨_, List.getElem?_eq_getElem hlt⟩
      obtain ⟨mb, mof, mcc, e, hmb, hmc⟩ := msgs_cells (uh HMW) (by omega)
      simp only [Value.slice.injEq] at e
      obtain ⟨rfl, -, rfl⟩ := e
      have okx := (uh HMW).ok x (List.mem_of_getElem? hx)
      obtain ⟨q0, q1, q2, q3⟩ := hmc k x hx
      have hxm : (L.map MsgC.m)[k]? = some x.m := by rw [List.getElem?_map, hx]; rfl
      obtain ⟨_, c2, c3⟩ := check_shape ((uh HALL) k _ hxm)
      have HFN : Hid (foldA S (hh, vals) ((L.map MsgC.m).take (k + 1)) = didA S (R1, R2) x.m) := by show _ = _; rw [take_snoc _ _ _ hxm, foldA_snoc, uh HFO]
      obtain ⟨⟨xk, xkey, xv, xc⟩, xvv, xcv⟩ := x
      obtain ⟨vo, vc, e1⟩ := RowAt.form okx.vals
      obtain ⟨co, cc, e2⟩ := RowAt.form okx.code
      simp only at *
      subst e1
      subst e2
      replace q0 := ((uh HKX).cell hmb id).trans q0
      replace q1 := ((uh HKX).cell hmb id).trans q1
      replace q2 := ((uh HKX).cell hmb id).trans q2
      replace q3 := ((uh HKX).cell hmb id).trans q3
      have i1 : (k : Int) < (L.length : Int) := by omega
      have hN := heap_alloc_new wr (.cells #[.int .i64 xk, str xkey, .slice vo xv.length vc, .slice co xc.length cc] 50)
      have kN := kAlloc wr (.cells #[.int .i64 xk, str xkey, .slice vo xv.length vc, .slice co xc.length cc] 50)
      generalize hY : wr.alloc (.cells #[.int .i64 xk, str xkey, .slice vo xv.length vc, .slice co xc.length cc] 50) = Y at *
      have n0 : Y.cell? ⟨wr.heap.size, 0, none⟩ = some (.int .i64 xk) := (cell_of_blk hN _).trans rfl
      have n1 : Y.cell? ⟨wr.heap.size, 1, none⟩ = some (str xkey) := (cell_of_blk hN _).trans rfl
      have n2 : Y.cell? ⟨wr.heap.size, 2, none⟩ = some (.slice vo xv.length vc) := (cell_of_blk hN _).trans rfl
      have n3 : Y.cell? ⟨wr.heap.size, 3, none⟩ = some (.slice co xc.length cc) := (cell_of_blk hN _).trans rfl
      have y0 := blk_keep (uh HY0) kN
      have y2 := blk_keep (uh HY2) kN
      have yo := blk_keep (uh HBO) kN
      have p0 : Y.cell? ⟨w.heap.size, 0, none⟩ = some (.slice so S.length sc) := (cell_of_blk y0 _).trans rfl
      have m0 : Y.cell? ⟨w2.heap.size, 0, none⟩ = some (.bool R1) := (cell_of_blk yo _).trans rfl
      have m1 : Y.cell? ⟨w2.heap.size, 1, none⟩ = some (.slice ro R2.length rc) := (cell_of_blk yo _).trans rfl
      have kY := (uh HKX).trans kN
      have HQ := hide (effect_v S _ _ (.slice vo xv.length vc) (.slice co xc.length cc) R1 R2 ⟨xk, xkey, xv, xc⟩ Y ((uh HEW).env.keepF kY) ((uh HSW).keepF kY) ((uh HVO).keepF kN) (okx.vals.keepF kY) (okx.code.keepF kY) c3 c2)
      simp only at HQ
      generalize didA S (R1, R2) ⟨xk, xkey, xv, xc⟩ = DR at *
      obtain ⟨D1, D2⟩ := DR
      simp only at HQ
      have HKY := hide kY
      have E0 := hide y0
      have E2 := hide y2
      have EO := hide yo
      clear okx hmc hxm hx hN kN y0 y2 yo kY c2 c3 HFO HBO HVO HY0 HY2 HKX
      go_wp2_with fail
      refine (uh HQ).mono ?_
      rintro e w3 ⟨to, tc, rfl, hv3, hk3⟩
      have x0 := blk_keep (uh E0) hk3
      have x2 := blk_keep (uh E2) hk3
      have xo := blk_keep (uh EO) hk3
      have f0 := frozen_of_blk xo 0
      have f1 := frozen_of_blk xo 1
      have a0 : w3.cell? ⟨w2.heap.size, 0, none⟩ = some (.bool R1) := (cell_of_blk xo _).trans rfl
      have a1 : w3.cell? ⟨w2.heap.size, 1, none⟩ = some (.slice ro R2.length rc) := (cell_of_blk xo _).trans rfl
      obtain ⟨Z, hZ, hzo, kZ⟩ : ∃ Z, (w3.setCell ⟨w2.heap.size, 0, none⟩ (.bool D1)).setCell ⟨w2.heap.size, 1, none⟩ (.slice to D2.length tc) = Z ∧ Z.heap[w2.heap.size]? = some (.cells #[.bool D1, .slice to D2.length tc] 28 (0, 0)) ∧ Keeps (fun q => q = w2.heap.size) w3 Z := ⟨_, rfl, heap_setCell_at (o := 1) (heap_setCell_at (o := 0) xo _) _, keeps_set2 _ _ _ _⟩
      have HZ0 := hide ((kZ.block _ (lt_of_block x0) (by omega)).trans x0)
      have HZ2 := hide ((kZ.block _ (lt_of_block x2) (by omega)).trans x2)
      have HZO := hide hzo
      have HZV := hide (vals_off hv3 xo (off2 (by simp)) kZ)
      have HKZ := hide (((uh HKY).trans hk3).fresh hbo kZ)
      clear HQ hv3 hk3 x0 x2 xo hzo kZ E0 E2 EO HKY
      go_wp2_with fail
      go_roundw
      case rel => exact ⟨k + 1, D1, D2, to, tc, by omega, by go_num, uh HFN, uh HZO, uh HZV, uh HZ0, uh HZ2, uh HKZ⟩
      case measure => simp [intOf]; omega
     ·have i1 : ¬ (k : Int) < (L.length : Int) := by omega
      have HRS : Hid (AA = ⟨0, R1, R2, 0, 0⟩) := by
       show _ = _
       rw [uh HAE]
       have : foldA S (hh, vals) (L.map MsgC.m) = (R1, R2) := by rw [← uh HFO, List.take_of_length_le (by simp; omega)]
       rw [this]
      have y0 : wr.cell? ⟨w.heap.size + 1 + 1, 0, none⟩ = some (.bool false) := (cell_of_blk (uh HY2) _).trans rfl
      have y1 : wr.cell? ⟨w.heap.size + 1 + 1, 1, none⟩ = some (.slice none 0 0) := (cell_of_blk (uh HY2) _).trans rfl
      have z0 := frozen_of_blk (uh HY2) 0
      have z1 := frozen_of_blk (uh HY2) 1
      obtain ⟨s0, s1⟩ := set2c (uh HY2) (.bool R1) (.slice ro R2.length rc)
      have k2 := keeps_set2 wr (w.heap.size + 1 + 1) (.bool R1) (.slice ro R2.length rc)
      have HV := hide (vals_off (uh HVO) (uh HY2) (off2 (by simp)) k2)
      have HK := hide (((uh HKW).trans (uh HKX)).fresh (by omega) k2)
      clear k2 HAE HFO HALL
      go_wp2_with fail
      refine bodyPost_ret (v := .tuple #[.agg #[.bool R1, .slice ro R2.length rc], .int .i64 0]) (by simp [results, go_sem, s0, s1]) rfl ?_
      rw [uh HRS]
      exact ⟨ro, rc, rfl, uh HV, uh HK⟩
   ·rw [exec_bad (uh HF0) hbad] at HQ
    simp only [List.length_nil] at HQ
    have HAE : Hid (AA = ⟨applyE S hh vals (L.map MsgC.m), false, [], 0, 0⟩) := by show _ = _; rw [uh HAA, if_pos hbad]
    generalize applyE S hh vals (L.map MsgC.m) = CE at *
    have e1 : (CE == 0) = false := by simpa using hbad
    have e2 : (CE != 0) = true := by simpa using hbad
    clear HAA HF0 HALL
    go_wp2_with fail
    refine (uh HQ).mono ?_
    rintro e w2 ⟨ro, rc, rfl, hv2, hk2⟩
    have kN := kAlloc w2 (.cells #[.bool false, .slice ro 0 rc] 28)
    generalize hX : w2.alloc (.cells #[.bool false, .slice ro 0 rc] 28) = X at *
    have hb2 := blk_keep (blk_keep (uh HB2) hk2) kN
    have y0 : X.cell? ⟨w.heap.size + 1 + 1, 0, none⟩ = some (.bool false) := (cell_of_blk hb2 _).trans rfl
    have y1 : X.cell? ⟨w.heap.size + 1 + 1, 1, none⟩ = some (.slice none 0 0) := (cell_of_blk hb2 _).trans rfl
    have z0 := frozen_of_blk hb2 0
    have z1 := frozen_of_blk hb2 1
    obtain ⟨s0, s1⟩ := set2c hb2 (.bool false) (.slice none 0 0)
    have HK := hide (((((uh HKW).trans (uh HKX)).trans hk2).trans kN).fresh (by omega) (keeps_set2 X (w.heap.size + 1 + 1) (.bool false) (.slice none 0 0)))
    clear hk2 HQ hb2 hv2 kN
    go_wp2_with fail
    refine bodyPost_ret (v := .tuple #[.agg #[.bool false, .slice none 0 0], .int .i64 CE]) (by simp [results, go_sem, s0, s1]) rfl ?_
    rw [uh HAE]
    exact ⟨none, 0, rfl, nil_vals _, uh HK⟩
end Go.Proofs.YtbokbdcjpbnodaaGreatDoor
