import Derived.Test.YtklkhegeeglfbaaGreatDoorJy
namespace Go.Proofs.YtklkhegeeglfbaaGreatDoor
open Go.RowKit Go.Maps

end Go.Proofs.YtklkhegeeglfbaaGreatDoor
