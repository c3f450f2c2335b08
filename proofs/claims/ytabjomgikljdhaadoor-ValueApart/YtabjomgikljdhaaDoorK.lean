import Derived.Test.YtabjomgikljdhaaDoorJb
namespace Go.Proofs.YtabjomgikljdhaaDoor
open Go.RowKit Go.Maps

/-- Is it a record of the fields? -/
def fitAll (l : List FieldA) (r : List ValA) : Bool := (l.zip r).all fun p => fitsB p.1 p.2
def recB (l : List FieldA) (r : List ValA) : Bool := decide (r.length = l.length) && fitAll l r
def errR (l : List FieldA) (r : List ValA) : Int := if schemaB l then (if recB l r then 0 else 61) else 60

theorem zip_get {l : List FieldA} {r : List ValA} {k : Nat} {f : FieldA} {x : ValA} (h : l[k]? = some f) (g : r[k]? = some x) : (l.zip r)[k]? = some (f, x) := by
  simp [List.getElem?_zip_eq_some, h, g]
theorem schemaB_len {l : List FieldA} (h : schemaB l = true) : 1 ≤ l.length ∧ l.length ≤ 8 := by
  unfold schemaB at h
  simp only [Bool.and_eq_true, decide_eq_true_eq] at h
  exact ⟨h.1.1.1.1, h.1.1.1.2⟩
theorem errS_eq (l : List FieldA) : (schemaB l = true ∧ errS l = 0) ∨ (schemaB l = false ∧ errS l = 60) := by
  unfold errS
  cases h : schemaB l <;> simp

end Go.Proofs.YtabjomgikljdhaaDoor
