import Derived.Test.YtiinohibmcefkaaGreatDoorZzaw
import Derived.Test.YtiinohibmcefkaaGreatDoorZzbs
import Derived.Deep.DeepCutAuto
import Derived.Test.YtiinohibmcefkaaGreatDoorZzbl
import Derived.Deep.AppendLies
import Derived.Test.YtiinohibmcefkaaGreatDoorZzax
import Derived.Test.YtiinohibmcefkaaGreatDoorZzay
import Derived.Test.YtiinohibmcefkaaGreatDoorZzae
import Derived.Test.YtiinohibmcefkaaGreatDoorZzat
import Derived.Test.YtiinohibmcefkaaGreatDoorZzak
import Derived.Test.YtiinohibmcefkaaGreatDoorZzbq
import Derived.Test.YtiinohibmcefkaaGreatDoorZzac
import Derived.Test.YtiinohibmcefkaaGreatDoorZzau
import Derived.Deep.DeepAppendRoom
namespace Go.Proofs.YtiinohibmcefkaaGreatDoor
open Go.RowKit Go.Maps

section
variable {A B F : Nat → Prop} {w w' : World}
end
end Go.Proofs.YtiinohibmcefkaaGreatDoor
