import Derived.Test.YtabjomgikljdhaaDoorNj
import Derived.Test.YtabjomgikljdhaaDoorR
namespace Go.Proofs.YtabjomgikljdhaaDoor
open Go.RowKit Go.Maps

/-- The groups of an int at the head of some bytes, by the program's own looking. -/
def takeG : Nat → Txt → Nat → Option (Nat × Txt)
  | _, [], _ => none
  | k, c :: r, U =>
    if k = 9 ∧ 1 < c.toNat then none
    else if c.toNat < 128 then (if c.toNat = 0 ∧ 0 < k then none else some (U + 128 ^ k * (c.toNat % 128), r))
    else takeG (k + 1) r (U + 128 ^ k * (c.toNat % 128))

end Go.Proofs.YtabjomgikljdhaaDoor
