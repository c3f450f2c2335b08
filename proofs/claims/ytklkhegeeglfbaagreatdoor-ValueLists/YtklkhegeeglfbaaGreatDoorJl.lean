import Derived.Test.YtklkhegeeglfbaaGreatDoorJe
import Derived.Test.YtklkhegeeglfbaaGreatDoorJi
namespace Go.Proofs.YtklkhegeeglfbaaGreatDoor
open Go.RowKit Go.Maps

/-- What digits tell. -/
def val (l : Txt) : Int := l.foldl (fun a c => a * 10 + num c - 48) 0
theorem val_snoc (l : Txt) (c : UInt8) : val (l ++ [c]) = val l * 10 + num c - 48 := by simp [val]
theorem val_decN (k : Nat) : ∀ u, u ≤ k → val (decN u) = u := by
  induction k with
  | zero => intro u h; obtain rfl : u = 0 := by omega
            simp [decN_zero, val]
  | succ k ih =>
    intro u h
    by_cases h0 : u = 0
    · subst h0; simp [decN_zero, val]
    · rw [decN_pos (by omega), val_snoc, digit_num, ih (u / 10) (by omega)]
      omega
theorem decN_ge (k : Nat) : ∀ u, u ≤ k → ∀ c ∈ decN u, 48 ≤ num c := by
  induction k with
  | zero => intro u h; obtain rfl : u = 0 := by omega
            simp [decN_zero]
  | succ k ih =>
    intro u h c hc
    by_cases h0 : u = 0
    · subst h0; simp [decN_zero] at hc
    · rw [decN_pos (by omega), List.mem_append] at hc
      rcases hc with hc | hc
      · exact ih (u / 10) (by omega) c hc
      · simp only [List.mem_singleton] at hc
        rw [hc, digit_num]
        omega

def neg (t : Txt) : Bool := decide (t[0]? = some 45)
/-- What is read of the first k. -/
def pre (t : Txt) (k : Nat) : Txt := if neg t then (t.take k).drop 1 else t.take k
def readN (t : Txt) : Int := if neg t then wrap64 (-wrap64 (val (t.drop 1))) else wrap64 (val t)
def numberB (t : Txt) : Int × Bool := if 20 < t.length then (0, false) else (readN t, decide (decimal (readN t) = t))

theorem wrap64_range (x : Int) : -9223372036854775808 ≤ wrap64 x ∧ wrap64 x ≤ 9223372036854775807 := by unfold wrap64; omega
theorem readN_range (t : Txt) : -9223372036854775808 ≤ readN t ∧ readN t ≤ 9223372036854775807 := by
  unfold readN
  split <;> exact wrap64_range _
theorem readN_decimal (n : Int) (h0 : -9223372036854775808 ≤ n) (h1 : n ≤ 9223372036854775807) : readN (decimal n) = n := by
  by_cases hz : n = 0
  · subst hz; decide +kernel
  unfold decimal
  rw [if_neg hz]
  by_cases hn : n < 0
  · rw [if_pos hn]
    unfold readN
    rw [if_pos (by simp [neg])]
    rw [List.drop_one, List.tail_cons, val_decN _ _ (Nat.le_refl _)]
    unfold wrap64
    omega
  · rw [if_neg hn]
    unfold readN
    rw [if_neg, val_decN _ _ (Nat.le_refl _)]
    · unfold wrap64; omega
    · simp only [neg, decide_eq_true_eq]
      intro e
      have := decN_ge _ _ (Nat.le_refl _) 45 (List.mem_of_getElem? e)
      simp [num] at this
theorem decimal_length (n : Int) (h0 : -9223372036854775808 ≤ n) (h1 : n ≤ 9223372036854775807) : (decimal n).length ≤ 20 := by
  unfold decimal
  have := decN_20 n.natAbs (by omega)
  split
  · simp
  · split
    · simp; omega
    · omega
/-- What is taken is written so, and what is written so is taken. -/
theorem numberB_ok (t : Txt) (h : (numberB t).2 = true) : decimal (numberB t).1 = t ∧ -9223372036854775808 ≤ (numberB t).1 ∧ (numberB t).1 ≤ 9223372036854775807 := by
  unfold numberB at *
  split
  · simp_all
  · rename_i hl
    rw [if_neg hl] at h
    exact ⟨of_decide_eq_true h, readN_range t⟩
theorem numberB_decimal (n : Int) (h0 : -9223372036854775808 ≤ n) (h1 : n ≤ 9223372036854775807) : numberB (decimal n) = (n, true) := by
  unfold numberB
  rw [if_neg (by have := decimal_length n h0 h1; omega), readN_decimal n h0 h1]
  simp

theorem pre_zero (t : Txt) : pre t 0 = [] := by simp [pre]
theorem pre_neg {t : Txt} (h : neg t = true) : pre t 1 = [] := by
  unfold pre
  rw [if_pos h]
  apply List.drop_eq_nil_of_le
  simp; omega
theorem pre_snoc {t : Txt} {k : Nat} {c : UInt8} (h : t[k]? = some c) (hk : neg t = false ∨ 0 < k) : pre t (k + 1) = pre t k ++ [c] := by
  unfold pre
  rw [take_snoc _ _ _ h]
  split
  · rename_i hn
    rw [List.drop_append_of_le_length]
    have := get_lt h
    rcases hk with hk | hk
    · simp [hn] at hk
    · simp; omega
  · rfl
theorem pre_all (t : Txt) : pre t t.length = if neg t then t.drop 1 else t := by unfold pre; rw [List.take_length]
theorem wrap64_step (v c : Int) : wrap64 (wrap64 (wrap64 (wrap64 v * 10) + c) - 48) = wrap64 (v * 10 + c - 48) := by unfold wrap64; omega

theorem ret_ib {k : IntKind} {a b : Int} {p q : Bool} (h : a = b) (h2 : p = q) : Ending.returned (.tuple #[.int k a, .bool p]) = .returned (.tuple #[.int k b, .bool q]) := by rw [h, h2]

end Go.Proofs.YtklkhegeeglfbaaGreatDoor
namespace Go.Proofs.YtklkhegeeglfbaaGreatDoor
open Go.RowKit Go.Maps

/-- How far a reading has come: what stands for all from here on. -/
def decRest (l : List FieldA) (t : Txt) (k h a : Nat) (R : List ValA) : Option (List ValA) := (decLoop (l.drop k) t h a).map (R ++ ·)
theorem decRest_skip {l : List FieldA} {t : Txt} {k h a : Nat} {R : List ValA} {f : FieldA} (hf : l[k]? = some f) (ho : f.opt = true) (hh : h % 2 ≠ 1) : decRest l t k h a R = decRest l t (k + 1) (h / 2) a (R ++ [⟨0, 0, []⟩]) := by
  unfold decRest
  rw [drop_at hf, decLoop, if_pos ⟨ho, hh⟩, Option.map_map]
  congr 1
  funext x
  simp
theorem decRest_none {l : List FieldA} {t : Txt} {k h a : Nat} {R : List ValA} {f : FieldA} (hf : l[k]? = some f) (hh : ¬ (f.opt = true ∧ h % 2 ≠ 1)) (hn : (readB f t a).2 < 0) : decRest l t k h a R = none := by
  unfold decRest
  rw [drop_at hf, decLoop, if_neg hh, if_pos hn]
  rfl
theorem decRest_some {l : List FieldA} {t : Txt} {k h a : Nat} {R : List ValA} {f : FieldA} (hf : l[k]? = some f) (hh : ¬ (f.opt = true ∧ h % 2 ≠ 1)) (hn : ¬ (readB f t a).2 < 0) : decRest l t k h a R = decRest l t (k + 1) (if f.opt then h / 2 else h) (readB f t a).2.toNat (R ++ [(readB f t a).1]) := by
  unfold decRest
  rw [drop_at hf, decLoop, if_neg hh, if_neg hn, Option.map_map]
  congr 1
  funext x
  simp
theorem decRest_zero (l : List FieldA) (t : Txt) (h a : Nat) : decRest l t 0 h a [] = decLoop l t h a := by
  unfold decRest
  rw [List.drop_zero]
  cases decLoop l t h a <;> simp
theorem ownsRow_max {w : World} {B e size n : Nat} {v : Value} {xs : List Value} (h : w.ownsRow B e size v n xs) : n ≤ maxLen := by
  rcases h.2 with ⟨_, hn⟩ | ⟨g, cap, cur, hv, _, _, h1, h2, _⟩
  · omega
  · omega
theorem InR_nil : InR [] := fun x hx => by cases hx
theorem InR_snoc {R : List ValA} {x : ValA} (h : InR R) (hx : -9223372036854775808 ≤ x.n ∧ x.n ≤ 9223372036854775807) : InR (R ++ [x]) := by
  intro y hy
  rcases List.mem_append.1 hy with hy | hy
  · exact h y hy
  · simp at hy; rw [hy]; exact hx

end Go.Proofs.YtklkhegeeglfbaaGreatDoor
