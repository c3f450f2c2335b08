import Derived.Test.YtlnkleicnkfkpaaDoorIf
namespace Go.Proofs.YtlnkleicnkfkpaaDoor
open Go.RowKit Go.Maps

/-- writeList of every list of well-made statements. -/
theorem wrL_v (N : Nat) : ∀ (l : SL), l.size < N → l.size ≤ 2147483647 → wellS l = true → intS l → WrL l := by
  induction N with
  | zero => intro l h; omega
  | succ N ih =>
    intro l hN hsz hw hi
    have key : ∀ r : SL, r.size ≤ l.size → wellS r = true → intS r → ListW r := by
      intro r
      induction r with
      | nil => exact fun _ _ _ => trivial
      | cons op f x th el r iht ihe ihr =>
        intro hl hwr hir
        simp only [SL.size] at hl
        simp only [wellS, Bool.and_eq_true] at hwr
        obtain ⟨g1, g2, g3, g4, g5⟩ := hwr
        obtain ⟨i1, i2, i3, i4⟩ := hir
        have t1 := tlS_le th g3 i2
        have t2 := tlS_le el g4 i3
        have t3 := tail_le th 0
        have t4 := tail_le el 0
        have t5 := brace_le th
        have t6 := head_le x g2 i1
        have t7 := written_le op f (headT x) th el (head_name g1)
        exact ⟨wrS_step op f x th el g1 g2 i1 (by omega) (wrB_of (ih th (by omega) (by omega) g3 i2) (by omega)) (wrB_of (ih el (by omega) (by omega) g4 i3) (by omega)) (by omega), by omega, ihr (by omega) g5 i4⟩
    exact writeList_v l (key l (Nat.le_refl _) hw hi) (by have := SL.len_le l; omega)
end Go.Proofs.YtlnkleicnkfkpaaDoor
