import Derived.Test.YtiinohibmcefkaaGreatDoorJal
import Derived.Test.YtiinohibmcefkaaGreatDoorJan
import Derived.Test.YtiinohibmcefkaaGreatDoorKm
import Derived.Test.YtiinohibmcefkaaGreatDoorJad
import Derived.Test.YtiinohibmcefkaaGreatDoorJzaa
import Derived.Maps.OwnSet
namespace Go.Proofs.YtiinohibmcefkaaGreatDoor
open Go.RowKit Go.Maps

/-- A map of counts. -/
def Cnt (w : World) (mb n : Nat) (c : Txt → Nat) : Prop :=
  ∃ D : DataW Unit, w.ownsMap Tryz.prog 9 (plainElem Tryz.prog 3) mb n D ∧ (∀ s, D.atKey (.string s) (.lit (.int .i64 0)) = .lit (.int .i64 (c s))) ∧ ∀ s, c s ≤ n
theorem zero3 (w : World) : (zeroValue 3).run Tryz.prog w = .ok (.int .i64 0) w := by kernel_rfl
theorem Cnt.congr {w : World} {mb n : Nat} {c c' : Txt → Nat} (h : Cnt w mb n c) (e : ∀ s, c s = c' s) : Cnt w mb n c' := by
  have : c = c' := funext e
  rw [← this]
  exact h
theorem Cnt.keep {w w' : World} {mb n : Nat} {c : Txt → Nat} (h : Cnt w mb n c) {F : Nat → Prop} (hk : Keeps F w w') (hF : ¬ F mb) : Cnt w' mb n c := by
  obtain ⟨D, ⟨es, clock, hb, r⟩, h2⟩ := h
  exact ⟨D, ⟨es, clock, (hk.block _ (lt_of_block hb) hF).trans hb, r⟩, h2⟩
theorem Cnt.lt {w : World} {mb n : Nat} {c : Txt → Nat} (h : Cnt w mb n c) : mb < w.heap.size := by
  obtain ⟨D, h1, _⟩ := h
  exact h1.lt
theorem Cnt.made (w : World) : Cnt (w.alloc (.map #[] 0)) w.heap.size 0 (fun _ => 0) :=
  ⟨.map [], World.ownsMap_made w Tryz.prog 9 _, fun _ => rfl, fun _ => Nat.le_refl _⟩
theorem Cnt.look {w : World} {mb n : Nat} {c : Txt → Nat} (h : Cnt w mb n c) {nm : Txt} (hl : nm.length ≤ 1000) :
    (Instr.lookup 94 (.map (some mb)) (str nm) false).run Tryz.prog w = .ok (.int .i64 (c nm)) w := by
  obtain ⟨D, h1, h2, _⟩ := h
  obtain ⟨x, hrun, hat, _⟩ := h1.lookup_int strKeyed Tryz.underlying94 Tryz.underlying3 (zero3 w) (keyStr hl)
  rw [h2 nm] at hat
  simp at hat
  rw [hrun, hat]
end Go.Proofs.YtiinohibmcefkaaGreatDoor
