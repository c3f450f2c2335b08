import Derived.Test.YtiinohibmcefkaaGreatDoorR8
import Derived.Test.YtiinohibmcefkaaGreatDoorG3
import Derived.Test.YtiinohibmcefkaaGreatDoorJzac
namespace Go.Proofs.YtiinohibmcefkaaGreatDoor
open Go.RowKit Go.Maps

/-- A mark behind a list of expressions. -/
def markE (i : Nat) : List Value := [.int .i64 (-77 - (i : Int)), .int .i64 0, str spareT, .slice none 0 0]
/-- Sixteen marks stand in a block, from a cell on. -/
def MarksE (w : World) (g o : Nat) : Prop := ∀ j x, (marksW markE 16)[j]? = some x → w.cell? ⟨g, o + j, none⟩ = some x
/-- Expressions in a block from a cell on, each list of theirs with its marks behind it, in these blocks alone. -/
def WdIn (A : Nat → Prop) (w : World) : EL → Nat → Nat → Prop
  | .nil, _, _ => True
  | .cons op n s kids rest, b, o =>
    b < w.heap.size ∧ A b ∧ w.cell? ⟨b, o, none⟩ = some (.int .i64 op) ∧ w.cell? ⟨b, o + 1, none⟩ = some (.int .i64 n) ∧ w.cell? ⟨b, o + 2, none⟩ = some (str s) ∧
      (∃ g cap, w.cell? ⟨b, o + 3, none⟩ = some (.slice (some ⟨g, 0, none⟩) kids.len cap) ∧ kids.len + 16 ≤ cap ∧ g < w.heap.size ∧ A g ∧ MarksE w g (kids.len * 4) ∧ WdIn A w kids g 0) ∧ WdIn A w rest b (o + 4)
/-- A list of expressions that is a piece of a longer array, with its marks. -/
def WdSl (A : Nat → Prop) (w : World) (v : Value) (l : EL) : Prop := ∃ g cap, v = .slice (some ⟨g, 0, none⟩) l.len cap ∧ l.len + 16 ≤ cap ∧ g < w.heap.size ∧ A g ∧ MarksE w g (l.len * 4) ∧ WdIn A w l g 0
section
variable {A B F : Nat → Prop} {w w' : World}
theorem MarksE.keep {g o : Nat} (h : MarksE w g o) (hk : Keeps F w w') (hg : g < w.heap.size) (hF : ¬ F g) : MarksE w' g o := fun j x hx => (hk.cell hg hF).trans (h j x hx)
theorem WdIn.keep (hk : Keeps F w w') (hF : ∀ k, k < w.heap.size → A k → ¬ F k) : ∀ {l : EL} {b o : Nat}, WdIn A w l b o → WdIn A w' l b o
  | .nil, _, _, _ => trivial
  | .cons _ _ _ _ _, _, _, ⟨h1, h2, h3, h4, h5, ⟨g, cap, h6, h7, h8, h9, h10, h11⟩, h12⟩ => by
    have hf := hF _ h1 h2
    exact ⟨Nat.lt_of_lt_of_le h1 hk.size, h2, (hk.cell h1 hf).trans h3, (hk.cell h1 hf).trans h4, (hk.cell h1 hf).trans h5, ⟨g, cap, (hk.cell h1 hf).trans h6, h7, Nat.lt_of_lt_of_le h8 hk.size, h9, h10.keep hk h8 (hF _ h8 h9), h11.keep hk hF⟩, h12.keep hk hF⟩
theorem WdIn.mono (hAB : ∀ k, k < w.heap.size → A k → B k) : ∀ {l : EL} {b o : Nat}, WdIn A w l b o → WdIn B w l b o
  | .nil, _, _, _ => trivial
  | .cons _ _ _ _ _, _, _, ⟨h1, h2, h3, h4, h5, ⟨g, cap, h6, h7, h8, h9, h10, h11⟩, h12⟩ => ⟨h1, hAB _ h1 h2, h3, h4, h5, ⟨g, cap, h6, h7, h8, hAB _ h8 h9, h10, h11.mono hAB⟩, h12.mono hAB⟩
theorem WdSl.keep {v : Value} {l : EL} (h : WdSl A w v l) (hk : Keeps F w w') (hF : ∀ k, k < w.heap.size → A k → ¬ F k) : WdSl A w' v l := by
  obtain ⟨g, cap, e, h1, h2, h3, h4, h5⟩ := h
  exact ⟨g, cap, e, h1, Nat.lt_of_lt_of_le h2 hk.size, h3, h4.keep hk h2 (hF _ h2 h3), h5.keep hk hF⟩
theorem WdSl.keepF {v : Value} {l : EL} (h : WdSl A w v l) (hk : Keeps (fun _ => False) w w') : WdSl A w' v l := h.keep hk (fun _ _ _ => id)
theorem WdSl.mono {v : Value} {l : EL} (h : WdSl A w v l) (hAB : ∀ k, k < w.heap.size → A k → B k) : WdSl B w v l := by
  obtain ⟨g, cap, e, h1, h2, h3, h4, h5⟩ := h
  exact ⟨g, cap, e, h1, h2, hAB _ h2 h3, h4, h5.mono hAB⟩
theorem WdIn.exIn : ∀ {l : EL} {b o : Nat}, WdIn A w l b o → ExIn (inZ A) w l b o
  | .nil, _, _, _ => trivial
  | .cons _ _ _ _ _, _, _, ⟨h1, h2, h3, h4, h5, ⟨g, cap, h6, h7, h8, h9, h10, h11⟩, h12⟩ => ⟨h1, h2, h3, h4, h5, ⟨some ⟨g, 0, none⟩, cap, h6, by omega, fun _ => ⟨g, 0, rfl, trivial, h11.exIn⟩⟩, h12.exIn⟩
theorem WdSl.slE {v : Value} {l : EL} (h : WdSl A w v l) (up : Nat) : SlE (inZ A) w up v l := by
  obtain ⟨g, cap, e, h1, _, _, _, h5⟩ := h
  exact ⟨some ⟨g, 0, none⟩, cap, e, by omega, fun _ => ⟨g, 0, rfl, trivial, h5.exIn⟩⟩
end
/-- These cells hold these expressions, their lists with marks. -/
def WsIn (A : Nat → Prop) (w : World) : EL → List Value → Prop
  | .nil, xs => xs = []
  | .cons op n s kids rest, xs => ∃ kv xs', xs = .int .i64 op :: .int .i64 n :: str s :: kv :: xs' ∧ WdSl A w kv kids ∧ WsIn A w rest xs'
theorem WsIn.keep {A F : Nat → Prop} {w w' : World} (hk : Keeps F w w') (hF : ∀ k, k < w.heap.size → A k → ¬ F k) : ∀ {l : EL} {xs : List Value}, WsIn A w l xs → WsIn A w' l xs
  | .nil, _, h => h
  | .cons _ _ _ _ _, _, ⟨kv, xs', e, h1, h2⟩ => ⟨kv, xs', e, h1.keep hk hF, h2.keep hk hF⟩
theorem WsIn.mono {A B : Nat → Prop} {w : World} (hAB : ∀ k, k < w.heap.size → A k → B k) : ∀ {l : EL} {xs : List Value}, WsIn A w l xs → WsIn B w l xs
  | .nil, _, h => h
  | .cons _ _ _ _ _, _, ⟨kv, xs', e, h1, h2⟩ => ⟨kv, xs', e, h1.mono hAB, h2.mono hAB⟩
theorem WsIn.snoc {A : Nat → Prop} {w : World} {op n : Int} {s : Txt} {kids : EL} {kv : Value} (hk : WdSl A w kv kids) : ∀ {l : EL} {xs : List Value}, WsIn A w l xs → WsIn A w (l.app (.cons op n s kids .nil)) (xs ++ [.int .i64 op, .int .i64 n, str s, kv])
  | .nil, _, h => by
    have h' : _ = _ := h
    subst h'
    exact ⟨kv, [], rfl, hk, rfl⟩
  | .cons _ _ _ _ _, _, ⟨kv', xs', e, h1, h2⟩ => ⟨kv', xs' ++ [.int .i64 op, .int .i64 n, str s, kv], by rw [e]; rfl, h1, h2.snoc hk⟩
theorem WsIn.length {A : Nat → Prop} {w : World} : ∀ {l : EL} {xs : List Value}, WsIn A w l xs → xs.length = l.len * 4
  | .nil, _, h => by have h' : _ = _ := h; subst h'; rfl
  | .cons _ _ _ _ r, _, ⟨kv, xs', e, _, h⟩ => by have := WsIn.length h; subst e; simp [EL.len, this]; omega
theorem WsIn.wdIn {A B : Nat → Prop} {w : World} {b : Nat} (hb : b < w.heap.size) (hB : B b) (hAB : ∀ k, k < w.heap.size → A k → B k) : ∀ {l : EL} {xs : List Value} {o : Nat}, WsIn A w l xs → (∀ j x, xs[j]? = some x → w.cell? ⟨b, o + j, none⟩ = some x) → WdIn B w l b o
  | .nil, _, _, _, _ => trivial
  | .cons _ _ _ _ _, _, o, ⟨kv, xs', e, h1, h2⟩, hc => by
    subst e
    obtain ⟨g, cap, ek, hcap, hg, hA, hm, hi⟩ := h1.mono hAB
    refine ⟨hb, hB, hc 0 _ rfl, hc 1 _ rfl, hc 2 _ rfl, ⟨g, cap, by rw [← ek]; exact hc 3 _ rfl, hcap, hg, hA, hm, hi⟩, WsIn.wdIn hb hB hAB h2 (fun j x hx => ?_)⟩
    rw [show o + 4 + j = o + (j + 4) by omega]
    exact hc (j + 4) x (by simpa using hx)
end Go.Proofs.YtiinohibmcefkaaGreatDoor
