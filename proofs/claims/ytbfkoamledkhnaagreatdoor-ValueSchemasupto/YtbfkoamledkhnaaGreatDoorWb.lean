import Derived.Test.YtbfkoamledkhnaaGreatDoorWa
import Derived.Test.YtbfkoamledkhnaaGreatDoorCards
import Derived.Test.YtbfkoamledkhnaaGreatDoorTie
import Derived.Deep.DeepWitnessRowRef
import Derived.Stop.Joined
namespace Go.Proofs.YtbfkoamledkhnaaGreatDoor
open Go.ChangeShapes Go.WideShapes Go.ChangeAt Go.RowKit Go.Deep

theorem Keeps.belowF {a b : World} (h : Keeps (fun _ => False) a b) : Below a.heap.size a b := h.below (Nat.le_refl _) (fun _ f => f.elim)

section
variable {H : Type} {enc : TypeId × Value → H} {W : World} {fuel : Nat}
theorem script_of (hE : Env W) {c : Value} {x : DataW H × List MemPlace} (h : DataW.trod enc Tryz.prog W 0 (fun _ => true) true fuel 22 [c] = some x) (hb : Rows.uptoBulk x.1 ≤ 1048576) : ∃ ops : List OpA, Script W c ops ∧ ops.length ≤ 1048576 := by
  obtain ⟨ops, hr, hl, hq⟩ := rows_of OpA.cs 5 (by omega) (fun _ => rfl) Tryz.underlying22 Tryz.cells32 (Q := fun o => OpOK W o) (M := 1048576) (fun _ _ _ h hb => op_of hE (by omega) h hb) h hb
  refine ⟨ops, ⟨hr.form, fun h0 => ?_, hq⟩, hl⟩
  obtain ⟨b, off, cap, e, hbl, hc⟩ := hr.cells h0
  refine ⟨b, off, cap, e, hbl, fun i o ho => ?_⟩
  have k := fun j (hj : j < 5) => show (ops.flatMap OpA.cs)[i * 5 + j]? = o.cs[j]? by
    rw [flat_at OpA.cs 5 (by omega) (fun _ => rfl), show (i * 5 + j) / 5 = i by omega, show (i * 5 + j) % 5 = j by omega, ho]
    rfl
  exact ⟨hc (i * 5 + 0) _ (k 0 (by omega)), hc (i * 5 + 1) _ (k 1 (by omega)), hc (i * 5 + 2) _ (k 2 (by omega)), hc (i * 5 + 3) _ (k 3 (by omega)), hc (i * 5 + 4) _ (k 4 (by omega))⟩
end

/-- A world at the door: what the variables' own text lays, and the great table that the text leaves out. -/
noncomputable def doorWorld (os : Os) : World :=
  { World.doorLaid Tryz.prog 400 os with heap := (World.doorLaid Tryz.prog 400 os).heap.modify 2 fun
      | .cells _ t frozen => .cells (Pinned.utf8FirstZ.map fun (z : Nat) => Value.int .u8 (z : Int)).toArray t frozen
      | o => o }
theorem door_met (os : Os) : laidMetH Tryz.prog laidL ((doorWorld os).forCall (fun _ _ => 0) ⟨#[], #[.slice none 0 0], []⟩).memory :=
  laidMetH_of_parts3 (fuel := 8) (laidMet_of_run' 8 (by kernel_rfl) (by kernel_rfl)) (by kernel_rfl) (by kernel_rfl)
end Go.Proofs.YtbfkoamledkhnaaGreatDoor
