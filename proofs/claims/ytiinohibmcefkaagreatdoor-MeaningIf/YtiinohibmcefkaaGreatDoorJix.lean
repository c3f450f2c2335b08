import Derived.Test.YtiinohibmcefkaaGreatDoorDs
import Derived.Deep.RegionHeld3
import Derived.Laws.Rows
namespace Go.Proofs.YtiinohibmcefkaaGreatDoor
open Go.RowKit Go.Maps

section
variable {P : Program} {ops : Array Oper} {Q : Exit → Act → World → Prop}
end
end Go.Proofs.YtiinohibmcefkaaGreatDoor
namespace Go.Proofs.YtiinohibmcefkaaGreatDoor
open Go.RowKit Go.Maps

section
variable {P : Program} {ops : Array Oper} {Q : Exit → Act → World → Prop}
end
end Go.Proofs.YtiinohibmcefkaaGreatDoor
namespace Go.Proofs.YtiinohibmcefkaaGreatDoor
open Go.RowKit Go.Maps

/-- A slice of these expressions. -/
def isL (w : World) (v : Value) (l : EL) : Prop := SlE (argZ w.heap.size) w 0 v l
theorem sl_top {B : Nat} {w w' : World} {v : Value} {l : EL} (h : SlE (argZ B) w 0 v l) (hk : Keeps (fun _ => False) w w') : SlE (argZ w'.heap.size) w' 0 v l := (h.keepF hk).argUp (Nat.le_refl _) 0
theorem isL_new {w : World} {l : EL} {xs : List Value} (h : EsIn (argZ w.heap.size) w l xs) : isL (w.alloc (.cells xs.toArray 27)) (.slice (some ⟨w.heap.size, 0, none⟩) l.len l.len) l := by
  obtain ⟨HB, hxb, hxc⟩ := boxed w xs.toArray 27
  have h2 := h.argKeep (unhide HB) (fun _ q => q.elim)
  refine ⟨_, _, rfl, Nat.le_refl _, fun _ => ⟨w.heap.size, 0, rfl, trivial, h2.exIn hxb (Nat.le_refl _) (fun j x hx => ?_)⟩⟩
  rw [Nat.zero_add]
  exact hxc j x (by simpa using hx)
section
variable {Q : Exit → Act → World → Prop} {K : Act → World → Prop} {o : Oper} {a : Act} {w : World}
end
end Go.Proofs.YtiinohibmcefkaaGreatDoor
