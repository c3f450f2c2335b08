import Derived.Test.YtiinohibmcefkaaGreatDoorXr
namespace Go.Proofs.YtiinohibmcefkaaGreatDoor
open Go.RowKit Go.Maps

/-- A row in a box. -/
theorem row_box {w : World} {B : Nat} {h : Bool} {ao : Option Addr} {c : Nat} {l : List ValA} (ho : w.ownsRow B 41 3 (.slice ao l.length c) l.length (vcs l)) :
    ∀ W' : World, Keeps (fun _ => False) (w.alloc (.cells #[.bool h, .slice ao l.length c] 31)) W' → W'.cell? ⟨w.heap.size, 0, none⟩ = some (.bool h) ∧ W'.cell? ⟨w.heap.size, 1, none⟩ = some (.slice ao l.length c) ∧ Hid (ValsAt W' (.slice ao l.length c) l) := fun W' hk => by
  obtain ⟨HB, hb, hc⟩ := boxed w #[.bool h, .slice ao l.length c] 31
  exact ⟨(hk.cell (o := 0) hb id).trans (hc 0 _ rfl), (hk.cell (o := 1) hb id).trans (hc 1 _ rfl), hide ((show ValsAt w _ _ from rowAt_own ho).keepF ((unhide HB).trans hk))⟩
end Go.Proofs.YtiinohibmcefkaaGreatDoor
