import Derived.Test.YtabjomgikljdhaaDoorF
namespace Go.Proofs.YtabjomgikljdhaaDoor
open Go.RowKit Go.Maps

/-- What digits tell. -/
def val (l : Txt) : Int := l.foldl (fun a c => a * 10 + num c - 48) 0
theorem val_snoc (l : Txt) (c : UInt8) : val (l ++ [c]) = val l * 10 + num c - 48 := by simp [val]
theorem val_decN (k : Nat) : ∀ u, u ≤ k → val (decN u) = u := by
  induction k with
  | zero => intro u h; obtain rfl : u = 0 := by omega
            simp [decN_zero, val]
  | succ k ih =>
    intro u h
    by_cases h0 : u = 0
    · subst h0; simp [decN_zero, val]
    · rw [decN_pos (by omega), val_snoc, digit_num, ih (u / 10) (by omega)]
      omega
theorem decN_ge (k : Nat) : ∀ u, u ≤ k → ∀ c ∈ decN u, 48 ≤ num c := by
  induction k with
  | zero => intro u h; obtain rfl : u = 0 := by omega
            simp [decN_zero]
  | succ k ih =>
    intro u h c hc
    by_cases h0 : u = 0
    · subst h0; simp [decN_zero] at hc
    · rw [decN_pos (by omega), List.mem_append] at hc
      rcases hc with hc | hc
      · exact ih (u / 10) (by omega) c hc
      · simp only [List.mem_singleton] at hc
        rw [hc, digit_num]
        omega

def neg (t : Txt) : Bool := decide (t[0]? = some 45)
def readN (t : Txt) : Int := if neg t then wrap64 (-wrap64 (val (t.drop 1))) else wrap64 (val t)
theorem readN_decimal (n : Int) (h0 : -9223372036854775808 ≤ n) (h1 : n ≤ 9223372036854775807) : readN (decimal n) = n := by
  by_cases hz : n = 0
  · subst hz; decide +kernel
  unfold decimal
  rw [if_neg hz]
  by_cases hn : n < 0
  · rw [if_pos hn]
    unfold readN
    rw [if_pos (by simp [neg])]
    rw [List.drop_one, List.tail_cons, val_decN _ _ (Nat.le_refl _)]
    unfold wrap64
    omega
  · rw [if_neg hn]
    unfold readN
    rw [if_neg, val_decN _ _ (Nat.le_refl _)]
    · unfold wrap64; omega
    · simp only [neg, decide_eq_true_eq]
      intro e
      have := decN_ge _ _ (Nat.le_refl _) 45 (List.mem_of_getElem? e)
      simp [num] at this
theorem decimal_length (n : Int) (h0 : -9223372036854775808 ≤ n) (h1 : n ≤ 9223372036854775807) : (decimal n).length ≤ 20 := by
  unfold decimal
  have := decN_20 n.natAbs (by omega)
  split
  · simp
  · split
    · simp; omega
    · omega
end Go.Proofs.YtabjomgikljdhaaDoor
