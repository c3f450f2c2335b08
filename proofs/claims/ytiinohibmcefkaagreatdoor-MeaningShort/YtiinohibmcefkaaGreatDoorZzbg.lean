import Derived.Test.YtiinohibmcefkaaGreatDoorZzbf
import Derived.Deep.AppendLies
import Derived.Deep.DeepCutAuto
import Derived.Test.YtiinohibmcefkaaGreatDoorZzbt
import Derived.Test.YtiinohibmcefkaaGreatDoorZzax
import Derived.Test.YtiinohibmcefkaaGreatDoorZzat
namespace Go.Proofs.YtiinohibmcefkaaGreatDoor
open Go.RowKit Go.Maps

section
variable {Q : Exit → Act → World → Prop} {K : Act → World → Prop} {o : Oper} {a : Act} {w : World}
end
end Go.Proofs.YtiinohibmcefkaaGreatDoor
namespace Go.Proofs.YtiinohibmcefkaaGreatDoor
open Go.RowKit Go.Maps

theorem cl5 {w : World} {b : Nat} {c0 c1 c2 c3 c4 : Value} {t : TypeId} (h : w.heap[b]? = some (.cells #[c0, c1, c2, c3, c4] t (0, 0))) : w.cell? ⟨b, 0, none⟩ = some c0 ∧ w.cell? ⟨b, 1, none⟩ = some c1 ∧ w.cell? ⟨b, 2, none⟩ = some c2 ∧ w.cell? ⟨b, 3, none⟩ = some c3 ∧ w.cell? ⟨b, 4, none⟩ = some c4 :=
  ⟨(cell_of_blk h _).trans rfl, (cell_of_blk h _).trans rfl, (cell_of_blk h _).trans rfl, (cell_of_blk h _).trans rfl, (cell_of_blk h _).trans rfl⟩
end Go.Proofs.YtiinohibmcefkaaGreatDoor
