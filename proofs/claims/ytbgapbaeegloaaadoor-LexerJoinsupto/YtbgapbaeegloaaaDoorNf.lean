import Derived.Test.YtbgapbaeegloaaaDoorNe
namespace Go.Proofs.YtbgapbaeegloaaaDoor
open Go.RowKit Go.Maps

theorem type_of {f : FieldA} (h : fieldOK f = true) : f.type = 1 ∨ f.type = 2 ∨ f.type = 3 := by
  unfold fieldOK at h
  simp only [Bool.and_eq_true, decide_eq_true_eq] at h
  have h2 := h.2
  unfold wideB at h2
  repeat' split at h2
  all_goals omega
theorem schemaB_ok {l : List FieldA} (h : schemaB l = true) : l.all fieldOK = true := by
  unfold schemaB at h
  simp only [Bool.and_eq_true, decide_eq_true_eq] at h
  exact h.1.1.2

end Go.Proofs.YtbgapbaeegloaaaDoor
