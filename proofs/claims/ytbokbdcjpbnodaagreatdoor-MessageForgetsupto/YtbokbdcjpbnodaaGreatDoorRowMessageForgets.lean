import Derived.Test.YtbokbdcjpbnodaaGreatDoorJv
import Derived.Test.YtbokbdcjpbnodaaGreatDoorZo5
import Derived.Test.YtbokbdcjpbnodaaGreatDoorCards
import Derived.Test.YtbokbdcjpbnodaaGreatDoorTie
import Derived.Deep.DeepWitnessRowRef
namespace Go.Proofs.YtbokbdcjpbnodaaGreatDoor
open Go.ChangeShapes Go.WideShapes Go.ChangeAt Go.RowKit Go.Deep
theorem own : ownKnob Tryz.prog.godebug = none := by kernel_rfl
theorem laidOut : laidOutB Tryz.prog = true := by kernel_rfl
noncomputable def doorWorld (os : Os) : World := World.doorLaid Tryz.prog 800 os
end Go.Proofs.YtbokbdcjpbnodaaGreatDoor
