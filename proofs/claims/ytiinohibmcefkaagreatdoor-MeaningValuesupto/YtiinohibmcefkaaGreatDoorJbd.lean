import Derived.Test.YtiinohibmcefkaaGreatDoorJbc
import Derived.Test.YtiinohibmcefkaaGreatDoorJah
namespace Go.Proofs.YtiinohibmcefkaaGreatDoor
open Go.RowKit Go.Maps

theorem named_some {S : List FieldA} {f : Txt} (h : (namedK S f).2 = 0) : ∃ fd, fieldOf S f = some fd ∧ namedK S f = (⟨fd.type, fd.opt⟩, 0) := by
  unfold namedK at h ⊢
  cases hf : fieldOf S f with
  | none => rw [hf] at h; simp at h
  | some fd => exact ⟨fd, rfl, rfl⟩
end Go.Proofs.YtiinohibmcefkaaGreatDoor
namespace Go.Proofs.YtiinohibmcefkaaGreatDoor
open Go.RowKit Go.Maps
set_option maxRecDepth 100000 in
set_option maxHeartbeats 800000 in
theorem deepExprs (B up : Nat) (l : EL) (v : Value) (w : World) (hB : B ≤ w.heap.size) (hS : SlE (argZ B) w up v l) : Calls Tryz.prog 22 #[v] w (DPost l.size w) := by
  have HS := hide (hS.keepF ((Keeps.refl _ w).alloc (.cells #[.int .i64 0] 80)))
  have HK : Hid (Keeps (fun _ => False) w (w.alloc (.cells #[.int .i64 0] 80))) := hide ((Keeps.refl _ w).alloc _)
  obtain ⟨ao, cap, rfl, hc⟩ := hS.head
  clear hS
  go_enter Tryz.func22, Tryz.ntmps22
  go_wp2_with (go_at_call 37; refine (parts_exprs B w.heap.size hB (l.size + 1) l (by omega) _ up _ 0 65536 (unhide HS) (heap_alloc_new w _) (by omega) (by omega) (by omega) (by omega)).mono ?_; rintro e w1 ⟨r, n1, rfl, hc1, hk1, hn1, hr1⟩)
  go_ret
  exact ⟨r, rfl, keeps_new (unhide HK) hk1, fun h => by have := hr1 h; omega⟩

end Go.Proofs.YtiinohibmcefkaaGreatDoor
