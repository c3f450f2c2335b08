import Derived.Test.YtafniangljmjeabDoorDi
import Derived.Test.YtafniangljmjeabDoorDj
namespace Go.Proofs.YtafniangljmjeabDoor
open Go.RowKit Go.Maps

/-- What all of package code wants of the world. -/
structure Env (w : World) : Prop where
  ops : Ops w
  types : Types w
theorem Env.keepF {w w' : World} (h : Env w) (hk : Keeps (fun _ => False) w w') : Env w' := ⟨h.ops.keepF hk, h.types.keepF hk⟩
theorem encC_len (l : List ValA) : (encC l).1.length ≤ 96 := by
  unfold encC
  repeat' split
  all_goals (simp only [List.length_nil]; omega)
end Go.Proofs.YtafniangljmjeabDoor
