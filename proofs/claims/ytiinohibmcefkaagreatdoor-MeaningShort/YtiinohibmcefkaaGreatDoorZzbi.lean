import Derived.Test.YtiinohibmcefkaaGreatDoorZzbh
import Derived.Deep.DeepCutAuto
namespace Go.Proofs.YtiinohibmcefkaaGreatDoor
open Go.RowKit Go.Maps

section
variable {Q : Exit → Act → World → Prop} {K : Act → World → Prop} {o : Oper} {a : Act} {w : World}
end
end Go.Proofs.YtiinohibmcefkaaGreatDoor
