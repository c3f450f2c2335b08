import Derived.Test.YtiinohibmcefkaaGreatDoorXt
namespace Go.Proofs.YtiinohibmcefkaaGreatDoor
open Go.RowKit Go.Maps

/-- These cells hold these expressions. -/
def EsIn (Z : Zone) (w : World) : EL → List Value → Prop
  | .nil, xs => xs = []
  | .cons op n s kids r, xs => ∃ kv xs', xs = .int .i64 op :: .int .i64 n :: str s :: kv :: xs' ∧ SlE Z w 0 kv kids ∧ EsIn Z w r xs'
theorem EsIn.argKeep {B : Nat} {F : Nat → Prop} {w w' : World} (hk : Keeps F w w') (hF : ∀ k, F k → B ≤ k) : ∀ {l : EL} {xs : List Value}, EsIn (argZ B) w l xs → EsIn (argZ B) w' l xs
  | .nil, _, h => h
  | .cons _ _ _ _ _, _, ⟨kv, xs', e, h1, h⟩ => ⟨kv, xs', e, h1.argKeep hk hF, h.argKeep hk hF⟩
theorem SlE.argUp {w : World} {up A : Nat} {Z : Zone} {v : Value} {l : EL} (hA : w.heap.size ≤ A) (up' : Nat) (h : SlE Z w up v l) : SlE (argZ A) w up' v l := by
  obtain ⟨ao, cap, e, hc, hr⟩ := h
  refine ⟨ao, cap, e, hc, fun h0 => ?_⟩
  obtain ⟨b, o, e1, _, hx⟩ := hr h0
  exact ⟨b, o, e1, trivial, hx.arg hA⟩
/-- The cells as expressions in a block. -/
theorem EsIn.exIn {Z : Zone} {w : World} {A b : Nat} (hb : b < w.heap.size) (hA : w.heap.size ≤ A) : ∀ {l : EL} {xs : List Value} {o : Nat}, EsIn Z w l xs → (∀ j x, xs[j]? = some x → w.cell? ⟨b, o + j, none⟩ = some x) → ExIn (argZ A) w l b o
  | .nil, _, _, _, _ => trivial
  | .cons op n s kids r, _, o, ⟨kv, xs', ee, h1, h4⟩, hc => by
    subst ee
    obtain ⟨ao, cap, et, hcap, hr⟩ := h1.argUp hA b
    refine ⟨hb, Nat.lt_of_lt_of_le hb hA, hc 0 _ rfl, hc 1 _ rfl, hc 2 _ rfl, ⟨ao, cap, by rw [← et]; exact hc 3 _ rfl, hcap, hr⟩, EsIn.exIn hb hA h4 (fun j x hx => ?_)⟩
    rw [show o + 4 + j = o + (j + 4) by omega]
    exact hc (j + 4) x (by simpa using hx)
end Go.Proofs.YtiinohibmcefkaaGreatDoor
