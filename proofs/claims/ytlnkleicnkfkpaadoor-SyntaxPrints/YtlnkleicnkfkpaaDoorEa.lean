import Derived.Test.YtlnkleicnkfkpaaDoorA
namespace Go.Proofs.YtlnkleicnkfkpaaDoor
open Go.RowKit Go.Maps

/-- A list of expressions, as a tree. -/
inductive EL where
  | nil
  | cons (op n : Int) (s : Txt) (kids rest : EL)
/-- A list of statements. -/
inductive SL where
  | nil
  | cons (op : Int) (f : Txt) (ex : EL) (th el rest : SL)
namespace EL
def len : EL → Nat
  | nil => 0
  | cons _ _ _ _ r => r.len + 1
def size : EL → Nat
  | nil => 0
  | cons _ _ _ k r => k.size + r.size + 1
def app : EL → EL → EL
  | nil, m => m
  | cons o n s k r, m => cons o n s k (r.app m)
theorem app_nil : ∀ l : EL, l.app nil = l
  | nil => rfl
  | cons o n s k r => by simp [app, app_nil r]
theorem app_assoc : ∀ l m k : EL, (l.app m).app k = l.app (m.app k)
  | nil, _, _ => rfl
  | cons o n s k r, m, q => by simp [app, app_assoc r m q]
theorem len_app : ∀ l m : EL, (l.app m).len = l.len + m.len
  | nil, _ => by simp [app, len]
  | cons o n s k r, m => by simp [app, len, len_app r m]; omega
theorem size_app : ∀ l m : EL, (l.app m).size = l.size + m.size
  | nil, _ => by simp [app, size]
  | cons o n s k r, m => by simp [app, size, size_app r m]; omega
theorem len_le : ∀ l : EL, l.len ≤ l.size
  | nil => Nat.le_refl _
  | cons o n s k r => by have := len_le r; simp [len, size]; omega
end EL
namespace SL
def len : SL → Nat
  | nil => 0
  | cons _ _ _ _ _ r => r.len + 1
def size : SL → Nat
  | nil => 0
  | cons _ _ x t e r => x.size + t.size + e.size + r.size + 1
def app : SL → SL → SL
  | nil, m => m
  | cons o f x t e r, m => cons o f x t e (r.app m)
theorem app_nil : ∀ l : SL, l.app nil = l
  | nil => rfl
  | cons o f x t e r => by simp [app, app_nil r]
theorem app_assoc : ∀ l m k : SL, (l.app m).app k = l.app (m.app k)
  | nil, _, _ => rfl
  | cons o f x t e r, m, q => by simp [app, app_assoc r m q]
theorem len_app : ∀ l m : SL, (l.app m).len = l.len + m.len
  | nil, _ => by simp [app, len]
  | cons o f x t e r, m => by simp [app, len, len_app r m]; omega
theorem size_app : ∀ l m : SL, (l.app m).size = l.size + m.size
  | nil, _ => by simp [app, size]
  | cons o f x t e r, m => by simp [app, size, size_app r m]; omega
theorem len_le : ∀ l : SL, l.len ≤ l.size
  | nil => Nat.le_refl _
  | cons o f x t e r => by have := len_le r; simp [len, size]; omega
end SL

/-- Where trees may lie: G tells the blocks of expressions (false) and of statements (true), P which block may hang below which. -/
structure Zone where
  G : World → Bool → Nat → Prop
  P : Nat → Nat → Prop
  stable : ∀ {w w' : World} {s : Bool} {k : Nat}, Keeps (fun _ => False) w w' → k < w.heap.size → G w s k → G w' s k

/-- Expressions lie in a block, from a cell on. -/
def ExIn (Z : Zone) (w : World) : EL → Nat → Nat → Prop
  | .nil, _, _ => True
  | .cons op n s kids rest, b, o =>
    b < w.heap.size ∧ Z.G w false b ∧ w.cell? ⟨b, o, none⟩ = some (.int .i64 op) ∧ w.cell? ⟨b, o + 1, none⟩ = some (.int .i64 n) ∧ w.cell? ⟨b, o + 2, none⟩ = some (str s) ∧
      (∃ ao cap, w.cell? ⟨b, o + 3, none⟩ = some (.slice ao kids.len cap) ∧ kids.len ≤ cap ∧
        (kids.len ≠ 0 → ∃ b' o', ao = some ⟨b', o', none⟩ ∧ Z.P b b' ∧ ExIn Z w kids b' o')) ∧ ExIn Z w rest b (o + 4)
/-- A slice of expressions, hanging below a block. -/
def SlE (Z : Zone) (w : World) (up : Nat) (v : Value) (l : EL) : Prop :=
  ∃ ao cap, v = .slice ao l.len cap ∧ l.len ≤ cap ∧ (l.len ≠ 0 → ∃ b o, ao = some ⟨b, o, none⟩ ∧ Z.P up b ∧ ExIn Z w l b o)
/-- Statements lie in a block, from a cell on. -/
def StIn (Z : Zone) (w : World) : SL → Nat → Nat → Prop
  | .nil, _, _ => True
  | .cons op f ex th el rest, b, o =>
    b < w.heap.size ∧ Z.G w true b ∧ w.cell? ⟨b, o, none⟩ = some (.int .i64 op) ∧ w.cell? ⟨b, o + 1, none⟩ = some (str f) ∧
      (∃ v, w.cell? ⟨b, o + 2, none⟩ = some v ∧ SlE Z w b v ex) ∧
      (∃ ao cap, w.cell? ⟨b, o + 3, none⟩ = some (.slice ao th.len cap) ∧ th.len ≤ cap ∧
        (th.len ≠ 0 → ∃ b' o', ao = some ⟨b', o', none⟩ ∧ Z.P b b' ∧ StIn Z w th b' o')) ∧
      (∃ ao cap, w.cell? ⟨b, o + 4, none⟩ = some (.slice ao el.len cap) ∧ el.len ≤ cap ∧
        (el.len ≠ 0 → ∃ b' o', ao = some ⟨b', o', none⟩ ∧ Z.P b b' ∧ StIn Z w el b' o')) ∧ StIn Z w rest b (o + 5)
/-- A slice of statements, hanging below a block. -/
def SlS (Z : Zone) (w : World) (up : Nat) (v : Value) (l : SL) : Prop :=
  ∃ ao cap, v = .slice ao l.len cap ∧ l.len ≤ cap ∧ (l.len ≠ 0 → ∃ b o, ao = some ⟨b, o, none⟩ ∧ Z.P up b ∧ StIn Z w l b o)

theorem EL.len0 : ∀ {l : EL}, l.len = 0 → l = .nil
  | .nil, _ => rfl
theorem SL.len0 : ∀ {l : SL}, l.len = 0 → l = .nil
  | .nil, _ => rfl

section
variable {Z : Zone} {w w' : World} {F : Nat → Prop} {Q : Nat → Prop}
/-- What is not written stays. -/
theorem ExIn.keep (hQ : ∀ b b', Q b → Z.P b b' → Q b') (hk : Keeps F w w') (hG : ∀ s k, Q k → k < w.heap.size → Z.G w s k → ¬ F k ∧ Z.G w' s k) :
    ∀ {l : EL} {b o : Nat}, Q b → ExIn Z w l b o → ExIn Z w' l b o
  | .nil, _, _, _, _ => trivial
  | .cons op n s kids rest, b, o, hq, ⟨h1, h2, h3, h4, h5, ⟨ao, cap, h6, h7, h8⟩, h9⟩ => by
    obtain ⟨hF, hg⟩ := hG _ _ hq h1 h2
    refine ⟨Nat.lt_of_lt_of_le h1 hk.size, hg, (hk.cell h1 hF).trans h3, (hk.cell h1 hF).trans h4, (hk.cell h1 hF).trans h5, ⟨ao, cap, (hk.cell h1 hF).trans h6, h7, fun h0 => ?_⟩, ExIn.keep hQ hk hG hq h9⟩
    obtain ⟨b', o', e, hp, hr⟩ := h8 h0
    exact ⟨b', o', e, hp, ExIn.keep hQ hk hG (hQ _ _ hq hp) hr⟩
theorem SlE.keep (hQ : ∀ b b', Q b → Z.P b b' → Q b') (hk : Keeps F w w') (hG : ∀ s k, Q k → k < w.heap.size → Z.G w s k → ¬ F k ∧ Z.G w' s k) {up : Nat} {v : Value} {l : EL} (hu : Q up) (h : SlE Z w up v l) : SlE Z w' up v l := by
  obtain ⟨ao, cap, e, hc, hr⟩ := h
  refine ⟨ao, cap, e, hc, fun h0 => ?_⟩
  obtain ⟨b, o, e1, hp, hx⟩ := hr h0
  exact ⟨b, o, e1, hp, ExIn.keep hQ hk hG (hQ _ _ hu hp) hx⟩
theorem StIn.keep (hQ : ∀ b b', Q b → Z.P b b' → Q b') (hk : Keeps F w w') (hG : ∀ s k, Q k → k < w.heap.size → Z.G w s k → ¬ F k ∧ Z.G w' s k) :
    ∀ {l : SL} {b o : Nat}, Q b → StIn Z w l b o → StIn Z w' l b o
  | .nil, _, _, _, _ => trivial
  | .cons op f ex th el rest, b, o, hq, ⟨h1, h2, h3, h4, ⟨v, h5, h5'⟩, ⟨ao, cap, h6, h7, h8⟩, ⟨ao2, cap2, k6, k7, k8⟩, h9⟩ => by
    obtain ⟨hF, hg⟩ := hG _ _ hq h1 h2
    refine ⟨Nat.lt_of_lt_of_le h1 hk.size, hg, (hk.cell h1 hF).trans h3, (hk.cell h1 hF).trans h4, ⟨v, (hk.cell h1 hF).trans h5, h5'.keep hQ hk hG hq⟩, ⟨ao, cap, (hk.cell h1 hF).trans h6, h7, fun h0 => ?_⟩, ⟨ao2, cap2, (hk.cell h1 hF).trans k6, k7, fun h0 => ?_⟩, StIn.keep hQ hk hG hq h9⟩
    · obtain ⟨b', o', e, hp, hr⟩ := h8 h0
      exact ⟨b', o', e, hp, StIn.keep hQ hk hG (hQ _ _ hq hp) hr⟩
    · obtain ⟨b', o', e, hp, hr⟩ := k8 h0
      exact ⟨b', o', e, hp, StIn.keep hQ hk hG (hQ _ _ hq hp) hr⟩
theorem SlS.keep (hQ : ∀ b b', Q b → Z.P b b' → Q b') (hk : Keeps F w w') (hG : ∀ s k, Q k → k < w.heap.size → Z.G w s k → ¬ F k ∧ Z.G w' s k) {up : Nat} {v : Value} {l : SL} (hu : Q up) (h : SlS Z w up v l) : SlS Z w' up v l := by
  obtain ⟨ao, cap, e, hc, hr⟩ := h
  refine ⟨ao, cap, e, hc, fun h0 => ?_⟩
  obtain ⟨b, o, e1, hp, hx⟩ := hr h0
  exact ⟨b, o, e1, hp, StIn.keep hQ hk hG (hQ _ _ hu hp) hx⟩
end
section
variable {Z : Zone} {w w' : World}
theorem ExIn.keepF {l : EL} {b o : Nat} (h : ExIn Z w l b o) (hk : Keeps (fun _ => False) w w') : ExIn Z w' l b o :=
  ExIn.keep (Q := fun _ => True) (fun _ _ _ _ => trivial) hk (fun _ _ _ hl hg => ⟨id, Z.stable hk hl hg⟩) trivial h
theorem SlE.keepF {up : Nat} {v : Value} {l : EL} (h : SlE Z w up v l) (hk : Keeps (fun _ => False) w w') : SlE Z w' up v l :=
  SlE.keep (Q := fun _ => True) (fun _ _ _ _ => trivial) hk (fun _ _ _ hl hg => ⟨id, Z.stable hk hl hg⟩) trivial h
theorem StIn.keepF {l : SL} {b o : Nat} (h : StIn Z w l b o) (hk : Keeps (fun _ => False) w w') : StIn Z w' l b o :=
  StIn.keep (Q := fun _ => True) (fun _ _ _ _ => trivial) hk (fun _ _ _ hl hg => ⟨id, Z.stable hk hl hg⟩) trivial h
theorem SlS.keepF {up : Nat} {v : Value} {l : SL} (h : SlS Z w up v l) (hk : Keeps (fun _ => False) w w') : SlS Z w' up v l :=
  SlS.keep (Q := fun _ => True) (fun _ _ _ _ => trivial) hk (fun _ _ _ hl hg => ⟨id, Z.stable hk hl hg⟩) trivial h
theorem SlE.head {up : Nat} {v : Value} {l : EL} (h : SlE Z w up v l) : ∃ ao cap, v = .slice ao l.len cap ∧ l.len ≤ cap := by
  obtain ⟨ao, cap, e, hc, _⟩ := h
  exact ⟨ao, cap, e, hc⟩
theorem SlS.head {up : Nat} {v : Value} {l : SL} (h : SlS Z w up v l) : ∃ ao cap, v = .slice ao l.len cap ∧ l.len ≤ cap := by
  obtain ⟨ao, cap, e, hc, _⟩ := h
  exact ⟨ao, cap, e, hc⟩
theorem ExIn.app : ∀ {l m : EL} {b o : Nat}, ExIn Z w l b o → ExIn Z w m b (o + 4 * l.len) → ExIn Z w (l.app m) b o
  | .nil, m, b, o, _, h => by simpa [EL.app, EL.len] using h
  | .cons op n s kids rest, m, b, o, ⟨h1, h2, h3, h4, h5, h6, h7⟩, h => by
    refine ⟨h1, h2, h3, h4, h5, h6, h7.app ?_⟩
    rw [show o + 4 + 4 * rest.len = o + 4 * (EL.cons op n s kids rest).len by simp [EL.len]; omega]
    exact h
theorem StIn.app : ∀ {l m : SL} {b o : Nat}, StIn Z w l b o → StIn Z w m b (o + 5 * l.len) → StIn Z w (l.app m) b o
  | .nil, m, b, o, _, h => by simpa [SL.app, SL.len] using h
  | .cons op f ex th el rest, m, b, o, ⟨h1, h2, h3, h4, h5, h6, h7, h8⟩, h => by
    refine ⟨h1, h2, h3, h4, h5, h6, h7, h8.app ?_⟩
    rw [show o + 5 + 5 * rest.len = o + 5 * (SL.cons op f ex th el rest).len by simp [SL.len]; omega]
    exact h
end
end Go.Proofs.YtlnkleicnkfkpaaDoor
