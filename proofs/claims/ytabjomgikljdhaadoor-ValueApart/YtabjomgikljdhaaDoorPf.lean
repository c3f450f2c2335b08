import Derived.Test.YtabjomgikljdhaaDoorPa
import Derived.Lib.ConvBytes
import Derived.Test.YtabjomgikljdhaaDoorNl
import Derived.Test.YtabjomgikljdhaaDoorNi
namespace Go.Proofs.YtabjomgikljdhaaDoor
open Go.RowKit Go.Maps

theorem quote1_head (c : UInt8) : ∃ y z, quote1 c = y :: z ∧ (num y == 34) = false := by
  unfold quote1
  by_cases h : c = 34 ∨ c = 92
  · rw [if_pos h]; exact ⟨_, _, rfl, rfl⟩
  · rw [if_neg h]
    split
    · refine ⟨_, _, rfl, ?_⟩
      have : num c ≠ 34 := fun e => h (.inl (num_inj (a := c) (b := 34) e))
      simpa using this
    · exact ⟨_, _, rfl, rfl⟩
theorem owns_keep {w w' : World} {B e sz n : Nat} {v : Value} {xs : List Value} (h : w.ownsRow B e sz v n xs) (k : Keeps (fun _ => False) w w') : w'.ownsRow B e sz v n xs :=
  ⟨h.1, h.2.imp id fun ⟨g, cap, cur, e1, e2, e3, e4⟩ => ⟨g, cap, cur, e1, e2, (k.block g (by
    rcases Nat.lt_or_ge g w.heap.size with h' | h'
    · exact h'
    · simp [Array.getElem?_eq_none h'] at e3) id).trans e3, e4⟩⟩
end Go.Proofs.YtabjomgikljdhaaDoor
