import Derived.Test.YtljoacpaehmbdaaGreatDoorJzao
import Derived.Test.YtljoacpaehmbdaaGreatDoorJzam
import Derived.Test.YtljoacpaehmbdaaGreatDoorJzaj
namespace Go.Proofs.YtljoacpaehmbdaaGreatDoor
open Go.RowKit Go.Maps

theorem orL_skip (r : List Int) : orL (0 :: r) = orL r := rfl
theorem orL_head {a : Int} (h : a ≠ 0) (r : List Int) : orL (a :: r) = a := by show (if a = 0 then orL r else a) = a; rw [if_neg h]
end Go.Proofs.YtljoacpaehmbdaaGreatDoor
