import Derived.Test.YtiinohibmcefkaaGreatDoorZzbm
import Derived.Test.YtiinohibmcefkaaGreatDoorZzbe
import Derived.Deep.AppendLies
import Derived.Deep.DeepCutAuto
import Derived.Test.YtiinohibmcefkaaGreatDoorZzbl
namespace Go.Proofs.YtiinohibmcefkaaGreatDoor
open Go.RowKit Go.Maps

section
variable {P : Program} {ops : Array Oper} {Q : Exit → Act → World → Prop}
end
end Go.Proofs.YtiinohibmcefkaaGreatDoor
namespace Go.Proofs.YtiinohibmcefkaaGreatDoor
open Go.RowKit Go.Maps

section
variable {Q : Exit → Act → World → Prop} {K : Act → World → Prop} {o : Oper} {a : Act} {w : World}
end
end Go.Proofs.YtiinohibmcefkaaGreatDoor
namespace Go.Proofs.YtiinohibmcefkaaGreatDoor
open Go.RowKit Go.Maps

section
variable {Q : Exit → Act → World → Prop} {K : Act → World → Prop} {o : Oper} {a : Act} {w : World}
end
end Go.Proofs.YtiinohibmcefkaaGreatDoor
namespace Go.Proofs.YtiinohibmcefkaaGreatDoor
open Go.RowKit Go.Maps

section
variable {A B F : Nat → Prop} {w w' : World}
end
end Go.Proofs.YtiinohibmcefkaaGreatDoor
namespace Go.Proofs.YtiinohibmcefkaaGreatDoor
open Go.RowKit Go.Maps

section
variable {Q : Exit → Act → World → Prop} {K : Act → World → Prop} {o : Oper} {a : Act} {w : World}
end

end Go.Proofs.YtiinohibmcefkaaGreatDoor
