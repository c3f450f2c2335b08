import Derived.Test.YtgdabnkjipcbhaaGreatDoorHl
namespace Go.Proofs.YtgdabnkjipcbhaaGreatDoor
open Go.RowKit Go.Maps

/-- A new Builder. -/
theorem fresh_env {w : World} (hF : Forms w) (hP : Pow w) : Lib.IsBuilder 64 5 w.heap.size w.heap.size (bs []) (w.alloc (.cells #[.pointer none, .slice none 0 0] 64)) ∧ Env w.heap.size w.heap.size (w.alloc (.cells #[.pointer none, .slice none 0 0] 64)) := by
  have hk : Keeps (fun _ => False) w (w.alloc (.cells #[.pointer none, .slice none 0 0] 64)) := (Keeps.refl _ w).alloc _
  refine ⟨Or.inl ⟨Nat.le_refl _, .slice none 0 0, heap_alloc_new w _, ⟨rfl, Or.inl ⟨rfl, rfl⟩⟩, by simp [Value.ownBlock]⟩, ⟨hF.lt, Nat.le_refl _, hk.size, hF.keepF hk, fun w2 h2 => ?_⟩⟩
  exact hP.keepF (Keeps.ofBelow (((Below.refl w.heap.size w).alloc (Nat.le_refl _) _).trans h2))

end Go.Proofs.YtgdabnkjipcbhaaGreatDoor
