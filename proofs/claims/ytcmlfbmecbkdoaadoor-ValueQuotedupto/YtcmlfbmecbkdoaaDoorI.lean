import Derived.Test.YtcmlfbmecbkdoaaDoorH
namespace Go.Proofs.YtcmlfbmecbkdoaaDoor
open Go.RowKit Go.Maps

def wides (l : List FieldA) : Int := (l.map fun f => wideB f.type).sum
def widthB (l : List FieldA) : Int := headB l + wides l
theorem wides_snoc (l : List FieldA) (f : FieldA) : wides (l ++ [f]) = wides l + wideB f.type := by simp [wides, List.sum_append]
theorem wideB_range (t : Int) : -1 ≤ wideB t ∧ wideB t ≤ 21 := by unfold wideB; repeat' split
                                                                  all_goals omega
theorem wides_range : ∀ l : List FieldA, -(l.length : Int) ≤ wides l ∧ wides l ≤ 21 * (l.length : Int)
  | [] => by simp [wides]
  | f :: r => by
    have h1 := wides_range r
    have h2 := wideB_range f.type
    unfold wides at *
    simp only [List.map_cons, List.sum_cons, List.length_cons]
    omega
theorem headB_le (l : List FieldA) : headB l ≤ l.length := by
  unfold headB
  have := opts_le l
  rcases Nat.eq_zero_or_pos (opts l) with h | h
  · rw [h]; omega
  · omega

/-- May a schema be so? -/
def fieldOK (f : FieldA) : Bool := nameB f.name && decide (0 ≤ wideB f.type)
def schemaB (l : List FieldA) : Bool := decide (1 ≤ l.length) && decide (l.length ≤ 8) && l.all fieldOK && decide (l.map FieldA.name).Nodup && decide (widthB l ≤ 64)
def errS (l : List FieldA) : Int := if schemaB l then 0 else 60

end Go.Proofs.YtcmlfbmecbkdoaaDoor
