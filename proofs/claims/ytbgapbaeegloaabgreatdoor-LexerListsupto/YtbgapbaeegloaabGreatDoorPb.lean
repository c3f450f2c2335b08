import Derived.Test.YtbgapbaeegloaabGreatDoorPa
namespace Go.Proofs.YtbgapbaeegloaabGreatDoor
open Go.RowKit Go.Maps

theorem and15 (c : UInt8) : bits .and .u8 (num c) 15 = ((c.toNat % 16 : Nat) : Int) := by
  have h : ∀ n : Fin 256, bits .and .u8 ((n.val : Nat) : Int) 15 = ((n.val % 16 : Nat) : Int) := by decide +kernel
  exact h ⟨c.toNat, c.toNat_lt⟩

end Go.Proofs.YtbgapbaeegloaabGreatDoor
