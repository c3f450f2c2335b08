import Derived.Test.YtgdabnkjipcbhaaGreatDoorQc
import Derived.Test.YtgdabnkjipcbhaaGreatDoorQ9
namespace Go.Proofs.YtgdabnkjipcbhaaGreatDoor
open Go.RowKit Go.Maps

theorem exsT_app : ∀ a b : EL, exsT (a.app b) = exsT a ++ exsT b
  | .nil, _ => rfl
  | .cons _ _ _ _ r, b => by simp [exsT, EL.app, exsT_app r b]
theorem exsC_app : ∀ a b : EL, exsC a = 0 → exsC (a.app b) = exsC b
  | .nil, _, _ => rfl
  | .cons op n s k r, b, h => by
    have h' : (if checkE (.cons op n s k .nil) = 0 then exsC r else checkE (.cons op n s k .nil)) = 0 := h
    show (if checkE (.cons op n s k .nil) = 0 then exsC (r.app b) else checkE (.cons op n s k .nil)) = exsC b
    split at h'
    · rename_i h0; rw [if_pos h0]; exact exsC_app r b h'
    · omega
theorem okE_app : ∀ a b : EL, okE (a.app b) → okE b
  | .nil, _, h => h
  | .cons op n s k r, b, h => okE_app r b ⟨by have := h.1; simp only [EL.app, EL.size] at this; omega, h.2.2.2⟩
theorem okE_both : ∀ a b : EL, intE a → intE b → intE (a.app b)
  | .nil, _, _, h => h
  | .cons _ _ _ _ r, b, ⟨h1, h2, h3⟩, h => ⟨h1, h2, okE_both r b h3 h⟩
theorem Cs.at {Z : Zone} {w : World} : ∀ {pre : EL} {op n : Int} {s : Txt} {k r : EL} {xs : List Value}, Cs Z w (pre.app (.cons op n s k r)) xs → ∃ kv up, xs[pre.len * 4]? = some (.int .i64 op) ∧ xs[pre.len * 4 + 1]? = some (.int .i64 n) ∧ xs[pre.len * 4 + 2]? = some (str s) ∧ xs[pre.len * 4 + 3]? = some kv ∧ SlE Z w up kv k
  | .nil, _, _, _, _, _, _, ⟨kv, up, xs', e, h1, _⟩ => by subst e; exact ⟨kv, up, rfl, rfl, rfl, rfl, h1⟩
  | .cons _ _ _ _ q, _, _, _, _, _, _, ⟨kv, up, xs', e, _, h⟩ => by
    subst e
    obtain ⟨kv', up', h1, h2, h3, h4, h5⟩ := Cs.at h
    refine ⟨kv', up', ?_, ?_, ?_, ?_, h5⟩
    · rw [show (EL.cons _ _ _ _ q).len * 4 = q.len * 4 + 4 by simp [EL.len]; omega]; simpa using h1
    · rw [show (EL.cons _ _ _ _ q).len * 4 + 1 = q.len * 4 + 1 + 4 by simp [EL.len]; omega]; simpa using h2
    · rw [show (EL.cons _ _ _ _ q).len * 4 + 2 = q.len * 4 + 2 + 4 by simp [EL.len]; omega]; simpa using h3
    · rw [show (EL.cons _ _ _ _ q).len * 4 + 3 = q.len * 4 + 3 + 4 by simp [EL.len]; omega]; simpa using h4
theorem own_cell {w : World} {N e size n m : Nat} {ao : Option Addr} {cap : Nat} {xs : List Value} (h : w.ownsRow N e size (.slice ao m cap) n xs) (h0 : 0 < n) : ∃ g, ao = some ⟨g, 0, none⟩ ∧ N ≤ g ∧ g < w.heap.size ∧ m = n ∧ n ≤ cap ∧ ∀ j x, xs[j]? = some x → w.cell? ⟨g, j, none⟩ = some x := by
  rcases h.2 with ⟨_, h1⟩ | ⟨g, cp, cur, a1, a2, a3, a4, _⟩
  · omega
  · have ao' := a1
    simp only [Value.slice.injEq] at a1
    obtain ⟨rfl, rfl, rfl⟩ := a1
    refine ⟨g, rfl, a2, lt_of_block a3, rfl, a4, fun j x hx => ?_⟩
    have := h.cells (g := g) rfl j x hx
    rwa [Addr.add_lit, Nat.zero_add] at this
end Go.Proofs.YtgdabnkjipcbhaaGreatDoor
