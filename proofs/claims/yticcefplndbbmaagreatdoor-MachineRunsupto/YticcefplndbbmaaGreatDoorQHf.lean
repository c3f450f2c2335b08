import Derived.Test.YticcefplndbbmaaGreatDoorQJu
namespace Go.Proofs.YticcefplndbbmaaGreatDoor
open Go.RowKit Go.Maps
end Go.Proofs.YticcefplndbbmaaGreatDoor
