import Derived.Test.YtiinohibmcefkaaGreatDoorZzad
import Derived.Test.YtiinohibmcefkaaGreatDoorZzay
import Derived.Test.YtiinohibmcefkaaGreatDoorZzat
import Derived.Test.YtiinohibmcefkaaGreatDoorZzbs
import Derived.Test.YtiinohibmcefkaaGreatDoorZzac
import Derived.Deep.AppendLies
import Derived.Test.YtiinohibmcefkaaGreatDoorZzaw
import Derived.Deep.DeepCutAuto
import Derived.Test.YtiinohibmcefkaaGreatDoorZzbl
import Derived.Test.YtiinohibmcefkaaGreatDoorZzax
import Derived.Test.YtiinohibmcefkaaGreatDoorZzae
import Derived.Test.YtiinohibmcefkaaGreatDoorZzak
import Derived.Test.YtiinohibmcefkaaGreatDoorZzbq
import Derived.Test.YtiinohibmcefkaaGreatDoorZzau
import Derived.Test.YtiinohibmcefkaaGreatDoorZzbf
import Derived.Test.YtiinohibmcefkaaGreatDoorZzbg
import Derived.Test.YtiinohibmcefkaaGreatDoorZzas
import Derived.Test.YtiinohibmcefkaaGreatDoorZzaq
namespace Go.Proofs.YtiinohibmcefkaaGreatDoor
open Go.RowKit Go.Maps

section
variable {Q : Exit → Act → World → Prop} {K : Act → World → Prop} {o : Oper} {a : Act} {w : World}
theorem step_load39 {t b off : Nat} {v0 v1 v2 v3 v4 : Value} (ho : o.op = .load 39 (.tmp t)) (ht : a.tmps.getD t undef = .pointer (some ⟨b, off, none⟩)) (h0 : w.cell? ⟨b, off, none⟩ = some v0) (h1 : w.cell? ⟨b, off + 1, none⟩ = some v1) (h2 : w.cell? ⟨b, off + 2, none⟩ = some v2) (h3 : w.cell? ⟨b, off + 3, none⟩ = some v3) (h4 : w.cell? ⟨b, off + 4, none⟩ = some v4) (hk : K (a.put o.dst (.agg #[v0, v1, v2, v3, v4])) w) : Oper.wp Tryz.prog o a w K Q := by
  have he := slot_of ht
  unfold Oper.wp
  simp [execOp, ho, he, go_sem, h0, h1, h2, h3, h4]
  exact hk
end
end Go.Proofs.YtiinohibmcefkaaGreatDoor
namespace Go.Proofs.YtiinohibmcefkaaGreatDoor
open Go.RowKit Go.Maps

section
variable {Q : Exit → Act → World → Prop} {K : Act → World → Prop} {o : Oper} {a : Act} {w : World}
end

end Go.Proofs.YtiinohibmcefkaaGreatDoor
