import Derived.Test.YtbgapbaeegloaabGreatDoorZh
namespace Go.Proofs.YtbgapbaeegloaabGreatDoor
open Go.RowKit Go.Maps

theorem mark_mkT (T : Txt) (h : 1 ≤ T.length) : markP T = if mkT T = [] then (zeroT, 0, 72) else (⟨5, mkT T, 0, 0⟩, (mkT T).length, 0) := by
  unfold markP mkT
  by_cases h2 : 2 ≤ T.length ∧ T.take 2 ∈ marks
  · have hl : (T.take 2).length = 2 := by rw [List.length_take]; omega
    rw [if_pos h2, if_pos h2, if_neg (by intro e; rw [e] at hl; simp at hl), hl]
  · rw [if_neg h2, if_neg h2]
    by_cases h1 : T.take 1 ∈ marks
    · have hl : (T.take 1).length = 1 := by rw [List.length_take]; omega
      rw [if_pos h1, if_pos h1, if_neg (by intro e; rw [e] at hl; simp at hl), hl]
    · rw [if_neg h1, if_neg h1, if_pos rfl]
theorem letter_part {c : Int} (h : letterB c = true) : partB c = true ∧ digitB c = false := by
  refine ⟨by rw [part_split, h]; rfl, ?_⟩
  unfold letterB at h
  unfold digitB
  simp only [Bool.or_eq_true, Bool.and_eq_true, decide_eq_true_eq] at h
  rw [← Bool.decide_and]
  exact decide_eq_false (by omega)
/-- A token's answer; with an error how many bytes it takes is left open. -/
def T7 (e : Ending) (D : TokA × Nat × Int) : Prop := ∃ n : Nat, e = .returned (tokV (D.1, n, D.2.2)) ∧ (D.2.2 = 0 → n = D.2.1)
theorem digit_part {c : Int} (h : digitB c = true) : partB c = true := by rw [part_split, h]; simp
end Go.Proofs.YtbgapbaeegloaabGreatDoor
