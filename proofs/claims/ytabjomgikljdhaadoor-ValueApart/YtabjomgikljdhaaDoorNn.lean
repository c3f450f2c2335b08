import Derived.Test.YtabjomgikljdhaaDoorNl
import Derived.Test.YtabjomgikljdhaaDoorU
namespace Go.Proofs.YtabjomgikljdhaaDoor
open Go.RowKit Go.Maps

/-- Decoding, by the program's own looking. -/
def decP : List FieldA → Nat → Txt → Option (List ValA × Nat × Txt)
  | [], m, t => some ([], m, t)
  | f :: l, m, t =>
    if f.opt = true ∧ m % 2 ≠ 1 then (decP l (m / 2) t).map (fun q => (⟨0, 0, []⟩ :: q.1, q.2))
    else (takeP f.type t).bind fun p => (decP l (if f.opt then m / 2 else m) p.2).map (fun q => (p.1 :: q.1, q.2))
def decodeP (l : List FieldA) (t : Txt) : Option (List ValA) :=
  if t.length < headB l then none else (decP l (head0 l t) (t.drop (headB l))).bind fun q => if q.2.1 = 0 ∧ q.2.2 = [] then some q.1 else none
def zeroVal : ValA := ⟨0, 0, []⟩
end Go.Proofs.YtabjomgikljdhaaDoor
