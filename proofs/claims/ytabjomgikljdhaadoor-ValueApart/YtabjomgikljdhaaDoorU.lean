import Derived.Test.YtabjomgikljdhaaDoorT
namespace Go.Proofs.YtabjomgikljdhaaDoor
open Go.RowKit Go.Maps

def head0 (l : List FieldA) (t : Txt) : Nat := if 0 < headB l then (t.getD 0 0).toNat else 0
end Go.Proofs.YtabjomgikljdhaaDoor
