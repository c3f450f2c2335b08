import Derived.Test.YtabjomgikljdhaaDoorNv
namespace Go.Proofs.YtabjomgikljdhaaDoor
open Go.RowKit Go.Maps

theorem encodeB_eq {l : List FieldA} {r : List ValA} (h : errR l r = 0) : encodeB l r = encB l r := by unfold encodeB; rw [if_pos h]

end Go.Proofs.YtabjomgikljdhaaDoor
