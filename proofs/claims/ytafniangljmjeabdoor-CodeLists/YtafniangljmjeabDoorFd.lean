import Derived.Test.YtafniangljmjeabDoorJo
namespace Go.Proofs.YtafniangljmjeabDoor
open Go.RowKit Go.Maps

def TookC (w' : World) (x : ValA) (y : Value) (ok : Bool) (bk : Nat) : Option (ValA × Txt) → Prop
  | none => ok = false
  | some (i, r) => ok = true ∧ x = i ∧ BytesAt w' y r ∧ y.ownBlock = some bk
theorem keeps_set3 (w4 : World) (b : Nat) (x y z : Value) : Keeps (fun q => q = b) w4 (((w4.setCell ⟨b, 0, none⟩ x).setCell ⟨b, 1, none⟩ y).setCell ⟨b, 2, none⟩ z) :=
  Keeps.setCell (F := fun q => q = b) (p := ⟨b, 2, none⟩) (Keeps.setCell (F := fun q => q = b) (p := ⟨b, 1, none⟩) (Keeps.setCell (F := fun q => q = b) (p := ⟨b, 0, none⟩) (Keeps.refl (fun q => q = b) w4) (fun _ => rfl) x) (fun _ => rfl) y) (fun _ => rfl) z
theorem keeps_set1 (w4 : World) (b o : Nat) (x : Value) : Keeps (fun q => q = b) w4 (w4.setCell ⟨b, o, none⟩ x) :=
  Keeps.setCell (F := fun q => q = b) (p := ⟨b, o, none⟩) (Keeps.refl (fun q => q = b) w4) (fun _ => rfl) x
theorem set3 {w4 : World} {b : Nat} {c0 c1 c2 : Value} {t : TypeId} (h : w4.heap[b]? = some (.cells #[c0, c1, c2] t (0, 0))) (x y z : Value) :
    (((w4.setCell ⟨b, 0, none⟩ x).setCell ⟨b, 1, none⟩ y).setCell ⟨b, 2, none⟩ z).cell? ⟨b, 0, none⟩ = some x ∧ (((w4.setCell ⟨b, 0, none⟩ x).setCell ⟨b, 1, none⟩ y).setCell ⟨b, 2, none⟩ z).cell? ⟨b, 1, none⟩ = some y ∧ (((w4.setCell ⟨b, 0, none⟩ x).setCell ⟨b, 1, none⟩ y).setCell ⟨b, 2, none⟩ z).cell? ⟨b, 2, none⟩ = some z := by
  have hb := heap_setCell_at (o := 2) (heap_setCell_at (o := 1) (heap_setCell_at (o := 0) h x) y) z
  refine ⟨?_, ?_, ?_⟩
  · rw [cell_of_blk hb]; rfl
  · rw [cell_of_blk hb]; rfl
  · rw [cell_of_blk hb]; rfl
/-- A block that is new to w may be written. -/
theorem Keeps.fresh {w w4 w5 : World} {b : Nat} (h : Keeps (fun _ => False) w w4) (hb : w.heap.size ≤ b) (k : Keeps (fun q => q = b) w4 w5) : Keeps (fun _ => False) w w5 :=
  h.then k (fun i hi e => by omega)

end Go.Proofs.YtafniangljmjeabDoor
