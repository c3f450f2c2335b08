import Derived.Test.YticcefplndbbmaaGreatDoorQLh
import Derived.Test.YticcefplndbbmaaGreatDoorQJk
import Derived.Test.YticcefplndbbmaaGreatDoorQKa
import Derived.Test.YticcefplndbbmaaGreatDoorQHa
import Derived.Test.YticcefplndbbmaaGreatDoorQKg
import Derived.Test.YticcefplndbbmaaGreatDoorQJv
import Derived.Test.YticcefplndbbmaaGreatDoorQJu
import Derived.Test.YticcefplndbbmaaGreatDoorQKe
namespace Go.Proofs.YticcefplndbbmaaGreatDoor
open Go.RowKit Go.Maps
end Go.Proofs.YticcefplndbbmaaGreatDoor
namespace Go.Proofs.YticcefplndbbmaaGreatDoor
open Go.RowKit Go.Maps
end Go.Proofs.YticcefplndbbmaaGreatDoor
namespace Go.Proofs.YticcefplndbbmaaGreatDoor
open Go.RowKit Go.Maps
theorem exec_len (S : List FieldA) (t : Txt) (hh : Bool) (vals : List ValA) : (execO S t hh vals).vals.length ≤ 8 := by
  unfold execO
  split
  · simp
  · exact runO_len _ _ _ _
end Go.Proofs.YticcefplndbbmaaGreatDoor
