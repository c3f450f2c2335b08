import Derived.Test.YticcefplndbbmaaGreatDoorQJt
namespace Go.Proofs.YticcefplndbbmaaGreatDoor
open Go.RowKit Go.Maps
end Go.Proofs.YticcefplndbbmaaGreatDoor
