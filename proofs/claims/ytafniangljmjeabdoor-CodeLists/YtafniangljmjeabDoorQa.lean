import Derived.Test.YtafniangljmjeabDoorVl
import Derived.Test.YtafniangljmjeabDoorFd
import Derived.Test.YtafniangljmjeabDoorEd
namespace Go.Proofs.YtafniangljmjeabDoor
open Go.RowKit Go.Maps

def hexD (n : Nat) : UInt8 := if n < 10 then UInt8.ofNat (48 + n) else UInt8.ofNat (87 + n)
def quote1 (c : UInt8) : Txt := if c = 34 ∨ c = 92 then [92, c] else if 32 ≤ c.toNat ∧ c.toNat ≤ 126 then [c] else [92, 120, hexD (c.toNat / 16), hexD (c.toNat % 16)]
def quoteB (t : Txt) : Txt := 34 :: (t.flatMap quote1 ++ [34])
theorem own_block {w : World} {B e size n : Nat} {v : Value} {xs : List Value} (h : w.ownsRow B e size v n xs) {k : Nat} (hk : v.ownBlock = some k) : B ≤ k ∧ ∃ cur, w.heap[k]? = some (.cells cur e (0, 0)) := by
  rcases h.2 with ⟨hv, _⟩ | ⟨g, cap, cur, hv, hb, hg, rest⟩
  · rw [hv] at hk; cases hk
  · rw [hv] at hk
    simp [Value.ownBlock] at hk
    subst hk
    exact ⟨hb, cur, hg⟩

theorem quote1_le (c : UInt8) : (quote1 c).length ≤ 4 := by
  unfold quote1
  (repeat' split) <;> simp

end Go.Proofs.YtafniangljmjeabDoor
