import Derived.Test.YtbgapbaeegloaaaDoorL
namespace Go.Proofs.YtbgapbaeegloaaaDoor
open Go.RowKit Go.Maps

theorem take_succ_eq {α : Type} {a b : List α} {k : Nat} (h : a.take k = b.take k) {x : α} (ha : a[k]? = some x) (hb : b[k]? = some x) : a.take (k + 1) = b.take (k + 1) := by
  rw [take_snoc _ _ _ ha, take_snoc _ _ _ hb, h]
theorem take_end {α : Type} {a b : List α} (hl : a.length = b.length) {k : Nat} (hk : a.length ≤ k) (h : a.take k = b.take k) : a = b := by
  rwa [List.take_of_length_le hk, List.take_of_length_le (by omega)] at h
theorem get_ne {α : Type} {a b : List α} {k : Nat} {x y : α} (ha : a[k]? = some x) (hb : b[k]? = some y) (h : x ≠ y) : a ≠ b := by
  intro e
  rw [e, hb] at ha
  exact h (by simpa using ha.symm)

end Go.Proofs.YtbgapbaeegloaaaDoor
