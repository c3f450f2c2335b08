import Derived.Test.YticcefplndbbmaaGreatDoorQJf
namespace Go.Proofs.YticcefplndbbmaaGreatDoor
open Go.RowKit Go.Maps

end Go.Proofs.YticcefplndbbmaaGreatDoor
namespace Go.Proofs.YticcefplndbbmaaGreatDoor
open Go.RowKit Go.Maps

end Go.Proofs.YticcefplndbbmaaGreatDoor
