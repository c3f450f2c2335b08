import Derived.Test.YtabjomgikljdhaaDoorU
namespace Go.Proofs.YtabjomgikljdhaaDoor
open Go.RowKit Go.Maps

/-- How far a reading has come: what stands for all from here on. -/
def decRest (l : List FieldA) (t : Txt) (k h a : Nat) (R : List ValA) : Option (List ValA) := (decLoop (l.drop k) t h a).map (R ++ ·)
theorem decRest_skip {l : List FieldA} {t : Txt} {k h a : Nat} {R : List ValA} {f : FieldA} (hf : l[k]? = some f) (ho : f.opt = true) (hh : h % 2 ≠ 1) : decRest l t k h a R = decRest l t (k + 1) (h / 2) a (R ++ [⟨0, 0, []⟩]) := by
  unfold decRest
  rw [drop_at hf, decLoop, if_pos ⟨ho, hh⟩, Option.map_map]
  congr 1
  funext x
  simp
theorem decRest_none {l : List FieldA} {t : Txt} {k h a : Nat} {R : List ValA} {f : FieldA} (hf : l[k]? = some f) (hh : ¬ (f.opt = true ∧ h % 2 ≠ 1)) (hn : (readB f t a).2 < 0) : decRest l t k h a R = none := by
  unfold decRest
  rw [drop_at hf, decLoop, if_neg hh, if_pos hn]
  rfl
theorem decRest_some {l : List FieldA} {t : Txt} {k h a : Nat} {R : List ValA} {f : FieldA} (hf : l[k]? = some f) (hh : ¬ (f.opt = true ∧ h % 2 ≠ 1)) (hn : ¬ (readB f t a).2 < 0) : decRest l t k h a R = decRest l t (k + 1) (if f.opt then h / 2 else h) (readB f t a).2.toNat (R ++ [(readB f t a).1]) := by
  unfold decRest
  rw [drop_at hf, decLoop, if_neg hh, if_neg hn, Option.map_map]
  congr 1
  funext x
  simp
theorem decRest_zero (l : List FieldA) (t : Txt) (h a : Nat) : decRest l t 0 h a [] = decLoop l t h a := by
  unfold decRest
  rw [List.drop_zero]
  cases decLoop l t h a <;> simp
theorem ownsRow_max {w : World} {B e size n : Nat} {v : Value} {xs : List Value} (h : w.ownsRow B e size v n xs) : n ≤ maxLen := by
  rcases h.2 with ⟨_, hn⟩ | ⟨g, cap, cur, hv, _, _, h1, h2, _⟩
  · omega
  · omega
theorem InR_nil : InR [] := fun x hx => by cases hx
theorem InR_snoc {R : List ValA} {x : ValA} (h : InR R) (hx : -9223372036854775808 ≤ x.n ∧ x.n ≤ 9223372036854775807) : InR (R ++ [x]) := by
  intro y hy
  rcases List.mem_append.1 hy with hy | hy
  · exact h y hy
  · simp at hy; rw [hy]; exact hx

end Go.Proofs.YtabjomgikljdhaaDoor
