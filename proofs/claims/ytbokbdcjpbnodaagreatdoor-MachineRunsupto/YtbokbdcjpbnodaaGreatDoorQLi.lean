import Derived.Test.YtbokbdcjpbnodaaGreatDoorQLh
import Derived.Test.YtbokbdcjpbnodaaGreatDoorQJk
import Derived.Test.YtbokbdcjpbnodaaGreatDoorQKa
import Derived.Test.YtbokbdcjpbnodaaGreatDoorQXa
import Derived.Test.YtbokbdcjpbnodaaGreatDoorQJw
import Derived.Test.YtbokbdcjpbnodaaGreatDoorQJs
import Derived.Test.YtbokbdcjpbnodaaGreatDoorQKg
import Derived.Test.YtbokbdcjpbnodaaGreatDoorQJv
import Derived.Test.YtbokbdcjpbnodaaGreatDoorQJu
import Derived.Test.YtbokbdcjpbnodaaGreatDoorQKe
namespace Go.Proofs.YtbokbdcjpbnodaaGreatDoor
open Go.RowKit Go.Maps
theorem exec_len (S : List FieldA) (t : Txt) (hh : Bool) (vals : List ValA) : (execO S t hh vals).vals.length ≤ 8 := by
 unfold execO
 split
 ·simp
 ·exact runO_len _ _ _ _
end Go.Proofs.YtbokbdcjpbnodaaGreatDoor
