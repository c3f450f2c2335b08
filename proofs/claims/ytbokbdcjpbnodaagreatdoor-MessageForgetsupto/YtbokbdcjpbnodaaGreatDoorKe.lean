import Derived.Test.YtbokbdcjpbnodaaGreatDoorMs
import Derived.Test.YtbokbdcjpbnodaaGreatDoorKd
namespace Go.Proofs.YtbokbdcjpbnodaaGreatDoor
open Go.RowKit Go.Maps
set_option maxRecDepth 100000
set_option maxHeartbeats 4000000
theorem playM_len {S : List FieldA} {l : List ValA} : ∀ (fu k : Nat) (m : MS), (playM S l fu k m).1.length ≤ fu
 | 0, _, _ => Nat.le_refl _
 | f + 1, k, m => by
  rw [playM]
  split
  ·exact Nat.zero_le _
  ·simp only [List.length_cons]
   have := playM_len (S := S) (l := l) f
   exact Nat.succ_le_succ (this _ _)
def Ran (w : World) (V R : Int) (T : List (Nat × List ValA) × MS) (e : Ending) (w' : World) : Prop :=
 ((V ≠ 0 ∨ R ≠ 0) ∧ e = .returned (.tuple #[.agg #[.bool false, .slice none 0 0, .int .i64 0, .int .i64 0], .int .i64 (if V ≠ 0 then V else R)]) ∧ Keeps (fun _ => False) w w') ∨
 (V = 0 ∧ R = 0 ∧ ∃ rv, e = .returned (.tuple #[.agg #[.bool T.2.here, rv, .int .i64 (T.1.length : Int), .int .i64 (deepD T.1 : Int)], .int .i64 0]) ∧ ValsAt w' rv T.2.vals ∧ (∀ q, rv.ownBlock = some q → w.heap.size ≤ q) ∧ Keeps (fun _ => False) w w')
theorem keeps_set4 (w : World) (b : Nat) (x y z u : Value) : Keeps (fun q => q = b) w ((((w.setCell ⟨b, 0, none⟩ x).setCell ⟨b, 1, none⟩ y).setCell ⟨b, 2, none⟩ z).setCell ⟨b, 3, none⟩ u) :=
 Keeps.setCell (F := fun q => q = b) (p := ⟨b, 3, none⟩) (Keeps.setCell (F := fun q => q = b) (p := ⟨b, 2, none⟩) (Keeps.setCell (F := fun q => q = b) (p := ⟨b, 1, none⟩) (Keeps.setCell (F := fun q => q = b) (p := ⟨b, 0, none⟩) (Keeps.refl (fun q => q = b) w) (fun _ => rfl) x) (fun _ => rfl) y) (fun _ => rfl) z) (fun _ => rfl) u
theorem set4c {w : World} {b : Nat} {c0 c1 c2 c3 : Value} {t : TypeId} (h : w.heap[b]? = some (.cells #[c0, c1, c2, c3] t (0, 0))) (x y z u : Value) :
  ((((w.setCell ⟨b, 0, none⟩ x).setCell ⟨b, 1, none⟩ y).setCell ⟨b, 2, none⟩ z).setCell ⟨b, 3, none⟩ u).cell? ⟨b, 0, none⟩ = some x ∧ ((((w.setCell ⟨b, 0, none⟩ x).setCell ⟨b, 1, none⟩ y).setCell ⟨b, 2, none⟩ z).setCell ⟨b, 3, none⟩ u).cell? ⟨b, 1, none⟩ = some y ∧ ((((w.setCell ⟨b, 0, none⟩ x).setCell ⟨b, 1, none⟩ y).setCell ⟨b, 2, none⟩ z).setCell ⟨b, 3, none⟩ u).cell? ⟨b, 2, none⟩ = some z ∧ ((((w.setCell ⟨b, 0, none⟩ x).setCell ⟨b, 1, none⟩ y).setCell ⟨b, 2, none⟩ z).setCell ⟨b, 3, none⟩ u).cell? ⟨b, 3, none⟩ = some u := by
 have hb := heap_setCell_at (o := 3) (heap_setCell_at (o := 2) (heap_setCell_at (o := 1) (heap_setCell_at (o := 0) h x) y) z) u
 refine ⟨?_, ?_, ?_, ?_⟩ <;> (rw [cell_of_blk hb]; rfl)
theorem look_parts' {S : List FieldA} {l : List ValA} {ps : List PlA} (h : lookA S l = (some ps, 0, 0)) : errS S = 0 := by
 unfold lookA at h
 by_cases h1 : errS S = 0
 ·exact h1
 ·rw [if_pos h1] at h; cases h
theorem rowE_ok {S : List FieldA} {hh : Bool} {vals : List ValA} (h : rowE S hh vals = 0) : rowOK S hh vals := by
 unfold rowOK
 cases hh with
 | false => rw [if_neg (by decide)]; exact rowE_nil h
 | true =>
  rw [if_pos rfl]
  unfold rowE at h
  rw [if_pos rfl] at h
  unfold errR at h
  split at h
  ·split at h
   ·rename_i hr
    unfold recB at hr
    simp only [Bool.and_eq_true, decide_eq_true_eq] at hr
    refine ⟨hr.1, fun k f v hf hv => ?_⟩
    have := hr.2
    unfold fitAll at this
    exact List.all_eq_true.1 this (f, v) (List.mem_of_getElem? (zip_get hf hv))
   ·cases h
  ·cases h
theorem out_facts {w : World} {b : Nat} (h : w.heap[b]? = some (.cells #[.bool false, .slice none 0 0, .int .i64 0, .int .i64 0] 32 (0, 0))) : w.frozen? ⟨b, 0, none⟩ = false ∧ w.frozen? ⟨b, 1, none⟩ = false ∧ w.frozen? ⟨b, 2, none⟩ = false ∧ w.frozen? ⟨b, 3, none⟩ = false ∧ w.cell? ⟨b, 0, none⟩ = some (.bool false) ∧ w.cell? ⟨b, 1, none⟩ = some (.slice none 0 0) ∧ w.cell? ⟨b, 2, none⟩ = some (.int .i64 0) ∧ w.cell? ⟨b, 3, none⟩ = some (.int .i64 0) :=
 ⟨frozen_of_blk h 0, frozen_of_blk h 1, frozen_of_blk h 2, frozen_of_blk h 3, (cell_of_blk h _).trans rfl, (cell_of_blk h _).trans rfl, (cell_of_blk h _).trans rfl, (cell_of_blk h _).trans rfl⟩
theorem machRun_v (S : List FieldA) (sv u v : Value) (l : List ValA) (hh : Bool) (vals : List ValA) (w : World) (hE : Env w) (hS : FldsAt w sv S) (hl : ValsAt w v l) (hI : InR l) (hr : ValsAt w u vals) :
  Calls Tryz.prog 10 #[.agg #[sv], v, .agg #[.bool hh, u]] w fun e w' => Ran w (verifyA S l).2.2 (rowE S hh vals) (playM S l l.length 0 ⟨[], hh, vals⟩) e w' := by
 obtain ⟨so, sc, rfl⟩ := RowAt.form hS
 obtain ⟨uo, uc, rfl⟩ := RowAt.form hr
 obtain ⟨vo, vc, rfl⟩ := RowAt.form hl
 have HB := hide (fun (W : World) (hk : Keeps (fun _ => False) w W) => begin_v S (.slice so S.length sc) (.slice uo vals.length uc) (.slice vo l.length vc) l hh vals W (hE.keepF hk) (hS.keepF hk) (hl.keepF hk) hI (hr.keepF hk))
 have HKA := hide (((kAlloc w (.cells #[.slice so S.length sc] 24)).alloc (.cells #[.bool hh, .slice uo vals.length uc] 28)).alloc (.cells #[.bool false, .slice none 0 0, .int .i64 0, .int .i64 0] 32))
 have hX := heap_alloc_new ((w.alloc (.cells #[.slice so S.length sc] 24)).alloc (.cells #[.bool hh, .slice uo vals.length uc] 28)) (.cells #[.bool false, .slice none 0 0, .int .i64 0, .int .i64 0] 32)
 rw [show ((w.alloc (.cells #[.slice so S.length sc] 24)).alloc (.cells #[.bool hh, .slice uo vals.length uc] 28)).heap.size = w.heap.size + 1 + 1 by simp] at hX
 have HX := hide hX
 have HEE := hide hE
 have HSS := hide hS
 have HLL := hide hl
 have HLT := hide (look_tells S l)
 have HVA : Hid ((verifyA S l).2.2 = (lookA S l).2.2) := rfl
 generalize hV : (verifyA S l).2.2 = V at *
 generalize hR : rowE S hh vals = R at *
 obtain ⟨T, HTT⟩ : ∃ T, Hid (playM S l l.length 0 ⟨[], hh, vals⟩ = T) := ⟨_, rfl⟩
 rw [uh HTT]
 clear hE hS hl hr hX
 go_enter Tryz.func10, Tryz.ntmps10
 go_wp2_with fail
 refine ((uh HB) _ (uh HKA)).mono ?_
 rintro e w1 hbg
 generalize ((w.alloc (.cells #[.slice so S.length sc] 24)).alloc (.cells #[.bool hh, .slice uo vals.length uc] 28)).alloc (.cells #[.bool false, .slice none 0 0, .int .i64 0, .int .i64 0] 32) = W0 at *
 rcases hbg with ⟨hV0, rfl, hk1⟩ | ⟨hV0, hR0, rfl, hk1⟩ | ⟨hV0, hR0, b, rv, rfl, hm1⟩
 ·have hk2 := hk1.alloc (.cells #[.pointer none] 69)
  have hX1 := (hk2.block _ (lt_of_block (uh HX)) id).trans (uh HX)
  obtain ⟨z0, z1, z2, z3, y0, y1, y2, y3⟩ := out_facts hX1
  obtain ⟨s0, s1, s2, s3⟩ := set4c hX1 (.bool false) (.slice none 0 0) (.int .i64 0) (.int .i64 0)
  have HK := hide (((uh HKA).trans hk2).fresh (by omega) (keeps_set4 (w1.alloc (.cells #[.pointer none] 69)) (w.heap.size + 1 + 1) (.bool false) (.slice none 0 0) (.int .i64 0) (.int .i64 0)))
  clear hX1 hk1 hk2
  go_wp2_with fail
  refine bodyPost_ret (v := .tuple #[.agg #[.bool false, .slice none 0 0, .int .i64 0, .int .i64 0], .int .i64 V]) (by simp [results, go_sem, s0, s1, s2, s3]) rfl ?_
  exact Or.inl ⟨Or.inl hV0, by rw [if_pos hV0], uh HK⟩
 ·have hk2 := hk1.alloc (.cells #[.pointer none] 69)
  have hX1 := (hk2.block _ (lt_of_block (uh HX)) id).trans (uh HX)
  obtain ⟨z0, z1, z2, z3, y0, y1, y2, y3⟩ := out_facts hX1
  obtain ⟨s0, s1, s2, s3⟩ := set4c hX1 (.bool false) (.slice none 0 0) (.int .i64 0) (.int .i64 0)
  have HK := hide (((uh HKA).trans hk2).fresh (by omega) (keeps_set4 (w1.alloc (.cells #[.pointer none] 69)) (w.heap.size + 1 + 1) (.bool false) (.slice none 0 0) (.int .i64 0) (.int .i64 0)))
  clear hX1 hk1 hk2
  go_wp2_with fail
  refine bodyPost_ret (v := .tuple #[.agg #[.bool false, .slice none 0 0, .int .i64 0, .int .i64 0], .int .i64 R]) (by simp [results, go_sem, s0, s1, s2, s3]) rfl ?_
  exact Or.inl ⟨Or.inr hR0, by rw [if_neg (by rw [hV0]; decide)], uh HK⟩
 ·have HM1 := hide hm1
  have hkr := kAlloc w1 (.cells #[.pointer (some ⟨b, 0, none⟩)] 69)
  have hko := kAlloc (w1.alloc (.cells #[.pointer (some ⟨b, 0, none⟩)] 69)) (.cells #[.bool false, .slice none 0 0, .int .i64 0, .int .i64 0] 32)
  have hR1 := heap_alloc_new w1 (.cells #[.pointer (some ⟨b, 0, none⟩)] 69)
  have hO1 := heap_alloc_new (w1.alloc (.cells #[.pointer (some ⟨b, 0, none⟩)] 69)) (.cells #[.bool false, .slice none 0 0, .int .i64 0, .int .i64 0] 32)
  rw [show (w1.alloc (.cells #[.pointer (some ⟨b, 0, none⟩)] 69)).heap.size = w1.heap.size + 1 by simp] at hO1
  have hR2 := (hko.block _ (lt_of_block hR1) id).trans hR1
  have hm2 := hm1.keepF (hkr.trans hko)
  have HKW := hide (hkr.trans hko)
  have hP0 : RunP W0 ((w1.alloc (.cells #[.pointer (some ⟨b, 0, none⟩)] 69)).alloc (.cells #[.bool false, .slice none 0 0, .int .i64 0, .int .i64 0] 32)) b (w1.heap.size + 1) w1.heap.size [] := ⟨hO1, hR2, ⟨Nat.le_trans hm1.kept.size (by omega), hm1.kept.size⟩, by simp [deepD]⟩
  obtain ⟨ps, hlk, _, hH, _, hL96, hSK, hF, hJ⟩ := (uh HLT).resolve_left (fun ⟨k', e', hle, hne⟩ => hne (by have := uh HVA; rw [hle] at this; simp only at this; omega))
  have hz : errS S = 0 := by
   have := look_parts' hlk
   exact this
  have hTy : TyM S ⟨[], hh, vals⟩ [] := ⟨rfl, fun v hv => by simp at hv, rowE_ok (by rw [hR]; exact hR0)⟩
  have HQ := hide (play24_v S l (.slice vo l.length vc) _ (.pointer (some ⟨w1.heap.size + 1, 0, none⟩)) (.pointer (some ⟨w1.heap.size, 0, none⟩)) (fun D W => RunP W0 W b (w1.heap.size + 1) w1.heap.size D) (fun D k m rv W hk hdk _ hp hm => run1_v D k hp hm (by omega)) (fun D W W' rv m hm hp hk => hp.stays hm hk) hm2 hP0 ((uh HEE).keepF (uh HKA)).types ((uh HSS).keepF (uh HKA)) hz ((uh HLL).keepF (uh HKA)) hL96 hF hJ hH hTy)
  subst hV0
  subst hR0
  have hsz1 : w.heap.size + 1 + 1 < w1.heap.size := Nat.lt_of_lt_of_le (lt_of_block (uh HX)) (uh HM1).kept.size
  clear hR1 hO1 hR2 hm1 hm2 hP0 hF hJ hH hSK hlk hz hTy hkr hko HLT
  rw [uh HTT] at HQ
  go_wp2_with fail
  refine (uh HQ).mono ?_
  rintro e w2 ⟨rfl, hp2, ⟨rv2, hm2⟩, _⟩
  have hvals2 := hm2.vals
  obtain ⟨xo, xc, rfl⟩ := RowAt.form hvals2
  have hX2 := (hm2.kept.block _ (lt_of_block (uh HX)) id).trans (uh HX)
  obtain ⟨z0, z1, z2, z3, y0, y1, y2, y3⟩ := out_facts hX2
  obtain ⟨curb, hBb, _⟩ := hm2.run.blk
  have hob : ¬ w1.heap.size + 1 = b := fun q => by have := hp2.o; rw [q, hBb] at this; simp at this
  have hrb : ¬ w.heap.size + 1 + 1 = b := fun q => by rw [q, hBb] at hX2; simp at hX2
  have c1 := hm2.run.c1
  have c2 := hm2.run.c2
  have a0 := frozen_of_blk hp2.o 0
  have a1 := frozen_of_blk hp2.o 1
  have e0 : w2.cell? ⟨w1.heap.size + 1, 0, none⟩ = some (.bool false) := (cell_of_blk hp2.o _).trans rfl
  have e1 : w2.cell? ⟨w1.heap.size + 1, 1, none⟩ = some (.slice none 0 0) := (cell_of_blk hp2.o _).trans rfl
  have e2 : w2.cell? ⟨w1.heap.size + 1, 2, none⟩ = some (.int .i64 (T.1.length : Int)) := (cell_of_blk hp2.o _).trans rfl
  have e3 : w2.cell? ⟨w1.heap.size + 1, 3, none⟩ = some (.int .i64 (deepD T.1 : Int)) := (cell_of_blk hp2.o _).trans rfl
  have r0 : w2.cell? ⟨w1.heap.size, 0, none⟩ = some (.pointer (some ⟨b, 0, none⟩)) := (cell_of_blk hp2.r _).trans rfl
  have HP2 := hide hp2
  have HM2 := hide hm2
  have HX2 := hide hX2
  generalize hOB : w1.heap.size + 1 = ob at *
  have hres : ¬ w.heap.size + 1 + 1 = ob := by omega
  clear HQ hBb hX2 hp2 hm2 hvals2
  have hP := uh HP2
  have hM2 := uh HM2
  have ko : Keeps (fun q => q = ob) w2 ((w2.setCell ⟨ob, 0, none⟩ (.bool T.2.here)).setCell ⟨ob, 1, none⟩ (.slice xo T.2.vals.length xc)) := Keeps.setCell (F := fun q => q = ob) (p := ⟨ob, 1, none⟩) (Keeps.setCell (F := fun q => q = ob) (p := ⟨ob, 0, none⟩) (Keeps.refl (fun q => q = ob) w2) (fun _ => rfl) _) (fun _ => rfl) _
  have hX3 := (ko.block _ (lt_of_block (uh HX2)) hres).trans (uh HX2)
  obtain ⟨s0, s1, s2, s3⟩ := set4c hX3 (.bool T.2.here) (.slice xo T.2.vals.length xc) (.int .i64 (T.1.length : Int)) (.int .i64 (deepD T.1 : Int))
  have kr := keeps_set4 ((w2.setCell ⟨ob, 0, none⟩ (.bool T.2.here)).setCell ⟨ob, 1, none⟩ (.slice xo T.2.vals.length xc)) (w.heap.size + 1 + 1) (.bool T.2.here) (.slice xo T.2.vals.length xc) (.int .i64 (T.1.length : Int)) (.int .i64 (deepD T.1 : Int))
  have hvf : ∀ q, (Value.slice xo T.2.vals.length xc).ownBlock = some q → ¬ q = ob ∧ ¬ q = w.heap.size + 1 + 1 := fun q e => by
   obtain ⟨_, cur, hc⟩ := hM2.rty q e
   refine ⟨fun h => ?_, fun h => ?_⟩
   ·have := hP.o; rw [← h, hc] at this; simp at this
   ·have := uh HX2; rw [← h, hc] at this; simp at this
  have hv3 := ((hM2.vals.kept ko (fun q e => (hvf q e).1)).kept kr (fun q e => (hvf q e).2))
  have hkf := ((((uh HKA).trans hM2.kept).then ko (fun i hi e => by omega)).then kr (fun i hi e => by omega) : Keeps (fun _ => False) w _)
  have HNW : Hid (∀ q, (Value.slice xo T.2.vals.length xc).ownBlock = some q → w.heap.size ≤ q) := fun q e => Nat.le_trans (uh HKA).size (hM2.rty q e).1
  have HV3 := hide hv3
  have HKF := hide hkf
  clear ko kr hX3 hvf hv3 hkf hP hM2
  go_wp2_with fail
  refine bodyPost_ret (v := .tuple #[.agg #[.bool T.2.here, .slice xo T.2.vals.length xc, .int .i64 (T.1.length : Int), .int .i64 (deepD T.1 : Int)], .int .i64 0]) (by simp [results, go_sem, s0, s1, s2, s3]) rfl ?_
  exact Or.inr ⟨rfl, rfl, .slice xo T.2.vals.length xc, rfl, uh HV3, uh HNW, uh HKF⟩
end Go.Proofs.YtbokbdcjpbnodaaGreatDoor
