import Derived.Test.YtbgapbaeegloaabGreatDoorMi
namespace Go.Proofs.YtbgapbaeegloaabGreatDoor
open Go.RowKit Go.Maps

theorem blank_cases (c : UInt8) : (blankB c = true ∧ (num c = 32 ∨ num c = 9 ∨ num c = 10 ∨ num c = 13)) ∨ (blankB c = false ∧ (num c == 32) = false ∧ (num c == 9) = false ∧ (num c == 10) = false ∧ (num c == 13) = false) := by
  have e : ∀ n : Nat, n < 256 → (decide (c = UInt8.ofNat n) = decide (num c = (n : Int))) := fun n hn => by
    apply decide_eq_decide.2
    constructor
    · rintro rfl; exact num_of n hn
    · intro h; exact num_inj (by rw [num_of n hn]; exact h)
  have e32 : decide (c = 32) = decide (num c = 32) := e 32 (by omega)
  have e9 : decide (c = 9) = decide (num c = 9) := e 9 (by omega)
  have e10 : decide (c = 10) = decide (num c = 10) := e 10 (by omega)
  have e13 : decide (c = 13) = decide (num c = 13) := e 13 (by omega)
  unfold blankB
  rw [e32, e9, e10, e13]
  by_cases h : num c = 32 ∨ num c = 9 ∨ num c = 10 ∨ num c = 13
  · left
    refine ⟨?_, h⟩
    rcases h with h | h | h | h <;> simp [h]
  · right
    simp only [not_or] at h
    obtain ⟨h1, h2, h3, h4⟩ := h
    simp [h1, h2, h3, h4]
theorem cut_none {t : Txt} {f : Nat} {acc : List TokA} {a : Nat} (h : t[a]? = none) : cutL t (f + 1) acc a = (acc, 0, 0) := by rw [cutL, h]
theorem cut_blank {t : Txt} {f : Nat} {acc : List TokA} {a : Nat} {c : UInt8} (h : t[a]? = some c) (hb : blankB c = true) : cutL t (f + 1) acc a = cutL t f acc (a + 1) := by rw [cutL, h]; simp only [hb, if_true]
theorem cut_hash {t : Txt} {f : Nat} {acc : List TokA} {a : Nat} (h : t[a]? = some 35) : cutL t (f + 1) acc a = if lineB t a < t.length then cutL t f acc (lineB t a) else (acc, 0, 0) := by
  rw [cutL, h]
  rfl
theorem cut_tok {t : Txt} {f : Nat} {acc : List TokA} {a : Nat} {c : UInt8} (h : t[a]? = some c) (hb : blankB c = false) (hc : c ≠ 35) : cutL t (f + 1) acc a = if (firstP c (t.drop a)).2.2 = 0 then cutL t f (acc ++ [{ (firstP c (t.drop a)).1 with pos := (a : Int) }]) (a + (firstP c (t.drop a)).2.1) else ([], (firstP c (t.drop a)).2.2, a) := by
  rw [cutL, h]
  simp only [hb, if_neg hc]
  rfl
theorem unq_ge {f : Nat} : ∀ {t b : Txt} {a : Nat} {r : Txt × Nat}, unqLoop f t b a = some r → a + 1 ≤ r.2 := by
  induction f with
  | zero => intro t b a r h; simp [unqLoop] at h
  | succ f ih =>
    intro t b a r h
    rw [unqLoop] at h
    split at h
    · cases hx : t[a]? with
      | none => rw [hx] at h; simp at h
      | some c =>
        rw [hx] at h
        simp only at h
        split at h
        · simp at h
          rw [← h]
          simp
        · split at h
          · simp at h
          · have := ih h
            omega
    · simp at h
theorem first_le (c : UInt8) (T : Txt) (h0 : T[0]? = some c) (h : (firstP c T).2.2 = 0) : 1 ≤ (firstP c T).2.1 ∧ (firstP c T).2.1 ≤ T.length := by
  have h1 := get_lt h0
  unfold firstP at h ⊢
  cases hp : partB (num c) with
  | true =>
    obtain ⟨r1, r2⟩ := run_pos h0 hp
    rw [hp] at h
    simp only [if_true] at h ⊢
    have hl : (T.take (runB T)).length = runB T := by rw [List.length_take]; omega
    split
    · rename_i hd
      rw [if_pos hd] at h
      unfold numP at h ⊢
      cases hn : numB (T.take (runB T)) with
      | none => rw [hn] at h; simp at h
      | some v => simp only [hl]; exact ⟨r1, r2⟩
    · rename_i hd
      rw [if_neg hd] at h
      unfold wordP at h ⊢
      split
      · simp only [hl]; exact ⟨r1, r2⟩
      · rename_i hk
        rw [if_neg hk] at h
        split
        · simp only [hl]; exact ⟨r1, r2⟩
        · rename_i hn
          rw [if_neg hn] at h
          simp at h
  | false =>
    rw [hp] at h
    simp only [Bool.false_eq_true, if_false] at h ⊢
    split
    · rename_i h34
      rw [if_pos h34] at h
      unfold litP at h ⊢
      rcases unquoteB_n T with ⟨q1, q2⟩ | ⟨q1, q2⟩
      · rw [if_pos q2]
        refine ⟨?_, q1⟩
        simp only
        unfold unquoteB at q2 ⊢
        rw [if_pos (by rw [h0, h34])] at q2 ⊢
        cases hu : unqLoop T.length T [] 1 with
        | none => rw [hu] at q2; simp at q2
        | some r =>
          simp only
          have := unq_ge hu
          omega
      · rw [if_neg (by rw [q2]; decide)] at h
        simp at h
    · rename_i h34
      rw [if_neg h34] at h
      unfold markP at h ⊢
      split
      · rename_i h2; simp only; omega
      · rename_i h2
        rw [if_neg h2] at h
        split
        · simp only; omega
        · rename_i h3
          rw [if_neg h3] at h
          simp at h
end Go.Proofs.YtbgapbaeegloaabGreatDoor
