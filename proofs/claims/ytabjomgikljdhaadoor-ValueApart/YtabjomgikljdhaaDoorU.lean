import Derived.Test.YtabjomgikljdhaaDoorT
namespace Go.Proofs.YtabjomgikljdhaaDoor
open Go.RowKit Go.Maps

/-- Reading leniently, field by field. -/
def decLoop : List FieldA → Txt → Nat → Nat → Option (List ValA)
  | [], _, _, _ => some []
  | f :: rest, t, h, a =>
    if f.opt = true ∧ h % 2 ≠ 1 then (decLoop rest t (h / 2) a).map (⟨0, 0, []⟩ :: ·)
    else if (readB f t a).2 < 0 then none
    else (decLoop rest t (if f.opt then h / 2 else h) (readB f t a).2.toNat).map ((readB f t a).1 :: ·)
def head0 (l : List FieldA) (t : Txt) : Nat := if 0 < headB l then (t.getD 0 0).toNat else 0
def decodeB (l : List FieldA) (t : Txt) : List ValA × Int :=
  if schemaB l = false then ([], 60)
  else if t.length < headB l ∨ 64 < t.length then ([], 62)
  else match decLoop l t (head0 l t) (headB l) with
    | none => ([], 62)
    | some r => if errR l r = 0 ∧ encB l r = t then (r, 0) else ([], 62)

theorem readG_len : ∀ (f : Nat) (l : Txt) (u k u' k' : Nat), readG f l u k = some (u', k') → k' ≤ k + l.length ∧ k + 1 ≤ k' ∧ u' < 18446744073709551616
  | 0, _, _, _, _, _, h => by simp [readG] at h
  | _ + 1, [], _, _, _, _, h => by simp [readG] at h
  | f + 1, c :: r, u, k, u', k', h => by
    rw [readG] at h
    split at h
    · simp at h
      obtain ⟨rfl, rfl⟩ := h
      exact ⟨by simp, by omega, Nat.mod_lt _ (by omega)⟩
    · have := readG_len f r _ _ _ _ h
      simp only [List.length_cons]
      omega
theorem backB_range (u : Nat) (h : u < 18446744073709551616) : -9223372036854775808 ≤ backB u ∧ backB u ≤ 9223372036854775807 := by
  unfold backB
  split <;> omega
theorem readB_facts (f : FieldA) (t : Txt) (a : Nat) (ha : a ≤ t.length) : (readB f t a).2 ≤ (t.length : Int) ∧ -9223372036854775808 ≤ (readB f t a).1.n ∧ (readB f t a).1.n ≤ 9223372036854775807 := by
  unfold readB
  split
  · unfold readIntB
    cases h : readG 10 (t.drop a) 0 0 with
    | none => simp
    | some p =>
      obtain ⟨u, k⟩ := p
      have h1 := readG_len _ _ _ _ _ _ h
      rw [List.length_drop] at h1
      have h2 := backB_range u h1.2.2
      simp only
      omega
  · cases h : t[a]? with
    | none => simp
    | some c =>
      have h1 := get_lt h
      have h2 := num_range c
      simp only
      split
      · simp only; omega
      · split
        · simp only; omega
        · simp only; omega
theorem readB_pos (f : FieldA) (t : Txt) (a : Nat) : -1 ≤ (readB f t a).2 := by
  unfold readB
  split
  · unfold readIntB
    cases h : readG 10 (t.drop a) 0 0 with
    | none => simp
    | some p => simp only; omega
  · cases h : t[a]? with
    | none => simp
    | some c =>
      simp only
      split
      · simp only; omega
      · split
        · simp
        · simp only; omega

end Go.Proofs.YtabjomgikljdhaaDoor
