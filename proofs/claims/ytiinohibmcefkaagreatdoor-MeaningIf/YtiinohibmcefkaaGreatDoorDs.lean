import Derived.Test.YtiinohibmcefkaaGreatDoorZc
namespace Go.Proofs.YtiinohibmcefkaaGreatDoor
open Go.ChangeShapes Go.WideShapes Go.ChangeAt Go.RowKit Go.Deep
section
variable {H : Type} {enc : TypeId × Value → H} {W : World}
end
end Go.Proofs.YtiinohibmcefkaaGreatDoor
