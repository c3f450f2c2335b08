import Derived.Test.YtlnkleicnkfkpaaDoorJa
namespace Go.Proofs.YtlnkleicnkfkpaaDoor
open Go.RowKit Go.Maps

/-- A list of expressions, as a tree. -/
inductive EL where
  | nil
  | cons (op n : Int) (s : Txt) (kids rest : EL)
/-- A list of statements. -/
inductive SL where
  | nil
  | cons (op : Int) (f : Txt) (ex : EL) (th el rest : SL)
namespace EL
def len : EL → Nat
  | nil => 0
  | cons _ _ _ _ r => r.len + 1
def size : EL → Nat
  | nil => 0
  | cons _ _ _ k r => k.size + r.size + 1
def app : EL → EL → EL
  | nil, m => m
  | cons o n s k r, m => cons o n s k (r.app m)
theorem app_nil : ∀ l : EL, l.app nil = l
  | nil => rfl
  | cons o n s k r => by simp [app, app_nil r]
theorem app_assoc : ∀ l m k : EL, (l.app m).app k = l.app (m.app k)
  | nil, _, _ => rfl
  | cons o n s k r, m, q => by simp [app, app_assoc r m q]
theorem len_app : ∀ l m : EL, (l.app m).len = l.len + m.len
  | nil, _ => by simp [app, len]
  | cons o n s k r, m => by simp [app, len, len_app r m]; omega
theorem size_app : ∀ l m : EL, (l.app m).size = l.size + m.size
  | nil, _ => by simp [app, size]
  | cons o n s k r, m => by simp [app, size, size_app r m]; omega
theorem len_le : ∀ l : EL, l.len ≤ l.size
  | nil => Nat.le_refl _
  | cons o n s k r => by have := len_le r; simp [len, size]; omega
end EL
namespace SL
def len : SL → Nat
  | nil => 0
  | cons _ _ _ _ _ r => r.len + 1
def size : SL → Nat
  | nil => 0
  | cons _ _ x t e r => x.size + t.size + e.size + r.size + 1
def app : SL → SL → SL
  | nil, m => m
  | cons o f x t e r, m => cons o f x t e (r.app m)
theorem app_nil : ∀ l : SL, l.app nil = l
  | nil => rfl
  | cons o f x t e r => by simp [app, app_nil r]
theorem app_assoc : ∀ l m k : SL, (l.app m).app k = l.app (m.app k)
  | nil, _, _ => rfl
  | cons o f x t e r, m, q => by simp [app, app_assoc r m q]
theorem len_app : ∀ l m : SL, (l.app m).len = l.len + m.len
  | nil, _ => by simp [app, len]
  | cons o f x t e r, m => by simp [app, len, len_app r m]; omega
theorem size_app : ∀ l m : SL, (l.app m).size = l.size + m.size
  | nil, _ => by simp [app, size]
  | cons o f x t e r, m => by simp [app, size, size_app r m]; omega
theorem len_le : ∀ l : SL, l.len ≤ l.size
  | nil => Nat.le_refl _
  | cons o f x t e r => by have := len_le r; simp [len, size]; omega
end SL

/-- Where trees may lie: G tells the blocks of expressions (false) and of statements (true), P which block may hang below which. -/
structure Zone where
  G : World → Bool → Nat → Prop
  P : Nat → Nat → Prop
  stable : ∀ {w w' : World} {s : Bool} {k : Nat}, Keeps (fun _ => False) w w' → k < w.heap.size → G w s k → G w' s k

/-- Expressions lie in a block, from a cell on. -/
def ExIn (Z : Zone) (w : World) : EL → Nat → Nat → Prop
  | .nil, _, _ => True
  | .cons op n s kids rest, b, o =>
    b < w.heap.size ∧ Z.G w false b ∧ w.cell? ⟨b, o, none⟩ = some (.int .i64 op) ∧ w.cell? ⟨b, o + 1, none⟩ = some (.int .i64 n) ∧ w.cell? ⟨b, o + 2, none⟩ = some (str s) ∧
      (∃ ao cap, w.cell? ⟨b, o + 3, none⟩ = some (.slice ao kids.len cap) ∧ kids.len ≤ cap ∧
        (kids.len ≠ 0 → ∃ b' o', ao = some ⟨b', o', none⟩ ∧ Z.P b b' ∧ ExIn Z w kids b' o')) ∧ ExIn Z w rest b (o + 4)
/-- A slice of expressions, hanging below a block. -/
def SlE (Z : Zone) (w : World) (up : Nat) (v : Value) (l : EL) : Prop :=
  ∃ ao cap, v = .slice ao l.len cap ∧ l.len ≤ cap ∧ (l.len ≠ 0 → ∃ b o, ao = some ⟨b, o, none⟩ ∧ Z.P up b ∧ ExIn Z w l b o)
/-- Statements lie in a block, from a cell on. -/
def StIn (Z : Zone) (w : World) : SL → Nat → Nat → Prop
  | .nil, _, _ => True
  | .cons op f ex th el rest, b, o =>
    b < w.heap.size ∧ Z.G w true b ∧ w.cell? ⟨b, o, none⟩ = some (.int .i64 op) ∧ w.cell? ⟨b, o + 1, none⟩ = some (str f) ∧
      (∃ v, w.cell? ⟨b, o + 2, none⟩ = some v ∧ SlE Z w b v ex) ∧
      (∃ ao cap, w.cell? ⟨b, o + 3, none⟩ = some (.slice ao th.len cap) ∧ th.len ≤ cap ∧
        (th.len ≠ 0 → ∃ b' o', ao = some ⟨b', o', none⟩ ∧ Z.P b b' ∧ StIn Z w th b' o')) ∧
      (∃ ao cap, w.cell? ⟨b, o + 4, none⟩ = some (.slice ao el.len cap) ∧ el.len ≤ cap ∧
        (el.len ≠ 0 → ∃ b' o', ao = some ⟨b', o', none⟩ ∧ Z.P b b' ∧ StIn Z w el b' o')) ∧ StIn Z w rest b (o + 5)
/-- A slice of statements, hanging below a block. -/
def SlS (Z : Zone) (w : World) (up : Nat) (v : Value) (l : SL) : Prop :=
  ∃ ao cap, v = .slice ao l.len cap ∧ l.len ≤ cap ∧ (l.len ≠ 0 → ∃ b o, ao = some ⟨b, o, none⟩ ∧ Z.P up b ∧ StIn Z w l b o)

theorem EL.len0 : ∀ {l : EL}, l.len = 0 → l = .nil
  | .nil, _ => rfl
theorem SL.len0 : ∀ {l : SL}, l.len = 0 → l = .nil
  | .nil, _ => rfl

section
variable {Z : Zone} {w w' : World} {F : Nat → Prop} {Q : Nat → Prop}
/-- What is not written stays. -/
theorem ExIn.keep (hQ : ∀ b b', Q b → Z.P b b' → Q b') (hk : Keeps F w w') (hG : ∀ s k, Q k → k < w.heap.size → Z.G w s k → ¬ F k ∧ Z.G w' s k) :
    ∀ {l : EL} {b o : Nat}, Q b → ExIn Z w l b o → ExIn Z w' l b o
  | .nil, _, _, _, _ => trivial
  | .cons op n s kids rest, b, o, hq, ⟨h1, h2, h3, h4, h5, ⟨ao, cap, h6, h7, h8⟩, h9⟩ => by
    obtain ⟨hF, hg⟩ := hG _ _ hq h1 h2
    refine ⟨Nat.lt_of_lt_of_le h1 hk.size, hg, (hk.cell h1 hF).trans h3, (hk.cell h1 hF).trans h4, (hk.cell h1 hF).trans h5, ⟨ao, cap, (hk.cell h1 hF).trans h6, h7, fun h0 => ?_⟩, ExIn.keep hQ hk hG hq h9⟩
    obtain ⟨b', o', e, hp, hr⟩ := h8 h0
    exact ⟨b', o', e, hp, ExIn.keep hQ hk hG (hQ _ _ hq hp) hr⟩
theorem SlE.keep (hQ : ∀ b b', Q b → Z.P b b' → Q b') (hk : Keeps F w w') (hG : ∀ s k, Q k → k < w.heap.size → Z.G w s k → ¬ F k ∧ Z.G w' s k) {up : Nat} {v : Value} {l : EL} (hu : Q up) (h : SlE Z w up v l) : SlE Z w' up v l := by
  obtain ⟨ao, cap, e, hc, hr⟩ := h
  refine ⟨ao, cap, e, hc, fun h0 => ?_⟩
  obtain ⟨b, o, e1, hp, hx⟩ := hr h0
  exact ⟨b, o, e1, hp, ExIn.keep hQ hk hG (hQ _ _ hu hp) hx⟩
theorem StIn.keep (hQ : ∀ b b', Q b → Z.P b b' → Q b') (hk : Keeps F w w') (hG : ∀ s k, Q k → k < w.heap.size → Z.G w s k → ¬ F k ∧ Z.G w' s k) :
    ∀ {l : SL} {b o : Nat}, Q b → StIn Z w l b o → StIn Z w' l b o
  | .nil, _, _, _, _ => trivial
  | .cons op f ex th el rest, b, o, hq, ⟨h1, h2, h3, h4, ⟨v, h5, h5'⟩, ⟨ao, cap, h6, h7, h8⟩, ⟨ao2, cap2, k6, k7, k8⟩, h9⟩ => by
    obtain ⟨hF, hg⟩ := hG _ _ hq h1 h2
    refine ⟨Nat.lt_of_lt_of_le h1 hk.size, hg, (hk.cell h1 hF).trans h3, (hk.cell h1 hF).trans h4, ⟨v, (hk.cell h1 hF).trans h5, h5'.keep hQ hk hG hq⟩, ⟨ao, cap, (hk.cell h1 hF).trans h6, h7, fun h0 => ?_⟩, ⟨ao2, cap2, (hk.cell h1 hF).trans k6, k7, fun h0 => ?_⟩, StIn.keep hQ hk hG hq h9⟩
    · obtain ⟨b', o', e, hp, hr⟩ := h8 h0
      exact ⟨b', o', e, hp, StIn.keep hQ hk hG (hQ _ _ hq hp) hr⟩
    · obtain ⟨b', o', e, hp, hr⟩ := k8 h0
      exact ⟨b', o', e, hp, StIn.keep hQ hk hG (hQ _ _ hq hp) hr⟩
theorem SlS.keep (hQ : ∀ b b', Q b → Z.P b b' → Q b') (hk : Keeps F w w') (hG : ∀ s k, Q k → k < w.heap.size → Z.G w s k → ¬ F k ∧ Z.G w' s k) {up : Nat} {v : Value} {l : SL} (hu : Q up) (h : SlS Z w up v l) : SlS Z w' up v l := by
  obtain ⟨ao, cap, e, hc, hr⟩ := h
  refine ⟨ao, cap, e, hc, fun h0 => ?_⟩
  obtain ⟨b, o, e1, hp, hx⟩ := hr h0
  exact ⟨b, o, e1, hp, StIn.keep hQ hk hG (hQ _ _ hu hp) hx⟩
end
section
variable {Z : Zone} {w w' : World}
theorem ExIn.keepF {l : EL} {b o : Nat} (h : ExIn Z w l b o) (hk : Keeps (fun _ => False) w w') : ExIn Z w' l b o :=
  ExIn.keep (Q := fun _ => True) (fun _ _ _ _ => trivial) hk (fun _ _ _ hl hg => ⟨id, Z.stable hk hl hg⟩) trivial h
theorem SlE.keepF {up : Nat} {v : Value} {l : EL} (h : SlE Z w up v l) (hk : Keeps (fun _ => False) w w') : SlE Z w' up v l :=
  SlE.keep (Q := fun _ => True) (fun _ _ _ _ => trivial) hk (fun _ _ _ hl hg => ⟨id, Z.stable hk hl hg⟩) trivial h
theorem StIn.keepF {l : SL} {b o : Nat} (h : StIn Z w l b o) (hk : Keeps (fun _ => False) w w') : StIn Z w' l b o :=
  StIn.keep (Q := fun _ => True) (fun _ _ _ _ => trivial) hk (fun _ _ _ hl hg => ⟨id, Z.stable hk hl hg⟩) trivial h
theorem SlS.keepF {up : Nat} {v : Value} {l : SL} (h : SlS Z w up v l) (hk : Keeps (fun _ => False) w w') : SlS Z w' up v l :=
  SlS.keep (Q := fun _ => True) (fun _ _ _ _ => trivial) hk (fun _ _ _ hl hg => ⟨id, Z.stable hk hl hg⟩) trivial h
theorem SlE.head {up : Nat} {v : Value} {l : EL} (h : SlE Z w up v l) : ∃ ao cap, v = .slice ao l.len cap ∧ l.len ≤ cap := by
  obtain ⟨ao, cap, e, hc, _⟩ := h
  exact ⟨ao, cap, e, hc⟩
theorem SlS.head {up : Nat} {v : Value} {l : SL} (h : SlS Z w up v l) : ∃ ao cap, v = .slice ao l.len cap ∧ l.len ≤ cap := by
  obtain ⟨ao, cap, e, hc, _⟩ := h
  exact ⟨ao, cap, e, hc⟩
theorem ExIn.app : ∀ {l m : EL} {b o : Nat}, ExIn Z w l b o → ExIn Z w m b (o + 4 * l.len) → ExIn Z w (l.app m) b o
  | .nil, m, b, o, _, h => by simpa [EL.app, EL.len] using h
  | .cons op n s kids rest, m, b, o, ⟨h1, h2, h3, h4, h5, h6, h7⟩, h => by
    refine ⟨h1, h2, h3, h4, h5, h6, h7.app ?_⟩
    rw [show o + 4 + 4 * rest.len = o + 4 * (EL.cons op n s kids rest).len by simp [EL.len]; omega]
    exact h
theorem StIn.app : ∀ {l m : SL} {b o : Nat}, StIn Z w l b o → StIn Z w m b (o + 5 * l.len) → StIn Z w (l.app m) b o
  | .nil, m, b, o, _, h => by simpa [SL.app, SL.len] using h
  | .cons op f ex th el rest, m, b, o, ⟨h1, h2, h3, h4, h5, h6, h7, h8⟩, h => by
    refine ⟨h1, h2, h3, h4, h5, h6, h7, h8.app ?_⟩
    rw [show o + 5 + 5 * rest.len = o + 5 * (SL.cons op f ex th el rest).len by simp [SL.len]; omega]
    exact h
end
end Go.Proofs.YtlnkleicnkfkpaaDoor
namespace Go.Proofs.YtlnkleicnkfkpaaDoor
open Go.RowKit Go.Maps

/-- How many kids an operation has; -1: there is no such operation. -/
def kidsB (op : Int) : Int := if 1 ≤ op ∧ op ≤ 6 then 0 else if op = 7 ∨ op = 8 ∨ op = 23 then 1 else if 9 ≤ op ∧ op ≤ 24 then 2 else if op = 25 then 3 else -1
/-- May a leaf hold this number and this text? -/
def leafB (op n : Int) (s : Txt) : Bool :=
  if op = 1 then decide (s = []) else if op = 2 then decide (s = []) && (decide (n = 0) || decide (n = 1)) else if op = 3 then decide (n = 0) && decide (s.length ≤ 20)
  else if op = 4 ∨ op = 5 then decide (n = 0) && nameB s else decide (n = 0) && decide (s = [])
/-- Has an expression just what its operation has? -/
def rootB (op n : Int) (s : Txt) (k : Nat) : Bool := decide (0 ≤ kidsB op) && (decide ((k : Int) = kidsB op) && leafB op n s)
def wellE : EL → Bool
  | .nil => true
  | .cons op n s k r => rootB op n s k.len && (wellE k && wellE r)
/-- Has a statement just the parts that its operation has? -/
def headB (op : Int) (f : Txt) (x t e : Nat) : Bool :=
  if op = 1 ∨ op = 2 ∨ op = 3 ∨ op = 4 then nameB f && (decide (x = 1) && (decide (t = 0) && decide (e = 0)))
  else if op = 5 then nameB f && (decide (x = 0) && (decide (t = 0) && decide (e = 0)))
  else if op = 6 ∨ op = 7 then decide (f = []) && (decide (x = 0) && (decide (t = 0) && decide (e = 0)))
  else if op = 8 then decide (f = []) && decide (x = 1) else false
def wellS : SL → Bool
  | .nil => true
  | .cons op f x t e r => headB op f x.len t.len e.len && (wellE x && (wellS t && (wellS e && wellS r)))
def depthE : EL → Nat
  | .nil => 0
  | .cons _ _ _ k r => max (1 + depthE k) (depthE r)
def depthS : SL → Nat
  | .nil => 0
  | .cons _ _ x t e r => max (1 + max (depthE x) (max (depthS t) (depthS e))) (depthS r)
def countS : SL → Nat
  | .nil => 0
  | .cons _ _ _ t e r => 1 + countS t + countS e + countS r
def checkS (l : SL) : Int := if wellS l = false then 83 else if 32 < countS l then 82 else if 12 < depthS l then 81 else 0
def checkE (l : EL) : Int := if wellE l = false then 83 else if 12 < depthE l then 81 else 0
theorem depthE_le : ∀ l : EL, depthE l ≤ l.size
  | .nil => Nat.le_refl _
  | .cons _ _ _ k r => by have := depthE_le k; have := depthE_le r; simp only [depthE, EL.size]; omega
theorem depthS_le : ∀ l : SL, depthS l ≤ l.size
  | .nil => Nat.le_refl _
  | .cons _ _ x t e r => by have := depthE_le x; have := depthS_le t; have := depthS_le e; have := depthS_le r; simp only [depthS, SL.size]; omega
theorem countS_le : ∀ l : SL, countS l ≤ l.size
  | .nil => Nat.le_refl _
  | .cons _ _ x t e r => by have := countS_le t; have := countS_le e; have := countS_le r; simp only [countS, SL.size]; omega
end Go.Proofs.YtlnkleicnkfkpaaDoor
namespace Go.Proofs.YtlnkleicnkfkpaaDoor
open Go.RowKit Go.Maps

theorem SlE.open {Z : Zone} {w : World} {up : Nat} {v : Value} {l : EL} (h : SlE Z w up v l) : ∃ ao cap b off, v = .slice ao l.len cap ∧ l.len ≤ cap ∧ (l.len ≠ 0 → ao = some ⟨b, off, none⟩ ∧ Z.P up b) ∧ ExIn Z w l b off := by
  obtain ⟨ao, cap, e, hc, hr⟩ := h
  by_cases h0 : l.len = 0
  · exact ⟨ao, cap, 0, 0, e, hc, fun h => absurd h0 h, by rw [EL.len0 h0]; trivial⟩
  · obtain ⟨b, o, e1, hp, hx⟩ := hr h0
    exact ⟨ao, cap, b, o, e, hc, fun _ => ⟨e1, hp⟩, hx⟩
theorem SlS.open {Z : Zone} {w : World} {up : Nat} {v : Value} {l : SL} (h : SlS Z w up v l) : ∃ ao cap b off, v = .slice ao l.len cap ∧ l.len ≤ cap ∧ (l.len ≠ 0 → ao = some ⟨b, off, none⟩ ∧ Z.P up b) ∧ StIn Z w l b off := by
  obtain ⟨ao, cap, e, hc, hr⟩ := h
  by_cases h0 : l.len = 0
  · exact ⟨ao, cap, 0, 0, e, hc, fun h => absurd h0 h, by rw [SL.len0 h0]; trivial⟩
  · obtain ⟨b, o, e1, hp, hx⟩ := hr h0
    exact ⟨ao, cap, b, o, e, hc, fun _ => ⟨e1, hp⟩, hx⟩
/-- What came in: all blocks below B. -/
def argZ (B : Nat) : Zone := ⟨fun _ _ k => k < B, fun _ _ => True, fun _ _ h => h⟩
section
variable {B c : Nat} {w w' : World} {F : Nat → Prop}
theorem ExIn.argKeep {l : EL} {b o : Nat} (h : ExIn (argZ B) w l b o) (hk : Keeps F w w') (hF : ∀ k, F k → B ≤ k) : ExIn (argZ B) w' l b o :=
  ExIn.keep (Q := fun _ => True) (fun _ _ _ _ => trivial) hk (fun s k _ _ (hg : k < B) => ⟨fun f => by have := hF k f; omega, hg⟩) trivial h
theorem SlE.argKeep {up : Nat} {v : Value} {l : EL} (h : SlE (argZ B) w up v l) (hk : Keeps F w w') (hF : ∀ k, F k → B ≤ k) : SlE (argZ B) w' up v l :=
  SlE.keep (Q := fun _ => True) (fun _ _ _ _ => trivial) hk (fun s k _ _ (hg : k < B) => ⟨fun f => by have := hF k f; omega, hg⟩) trivial h
theorem StIn.argKeep {l : SL} {b o : Nat} (h : StIn (argZ B) w l b o) (hk : Keeps F w w') (hF : ∀ k, F k → B ≤ k) : StIn (argZ B) w' l b o :=
  StIn.keep (Q := fun _ => True) (fun _ _ _ _ => trivial) hk (fun s k _ _ (hg : k < B) => ⟨fun f => by have := hF k f; omega, hg⟩) trivial h
theorem SlS.argKeep {up : Nat} {v : Value} {l : SL} (h : SlS (argZ B) w up v l) (hk : Keeps F w w') (hF : ∀ k, F k → B ≤ k) : SlS (argZ B) w' up v l :=
  SlS.keep (Q := fun _ => True) (fun _ _ _ _ => trivial) hk (fun s k _ _ (hg : k < B) => ⟨fun f => by have := hF k f; omega, hg⟩) trivial h
end

/-- What counting parts leaves: the count, or that there are too many. -/
def PPost (c : Nat) (n : Int) (sz : Nat) (w : World) (e : Ending) (w' : World) : Prop :=
  ∃ (r : Bool) (n' : Int), e = .returned (.bool r) ∧ w'.heap[c]? = some (.cells #[.int .i64 n'] 47 (0, 0)) ∧ Keeps (fun k => k = c) w w' ∧ 0 ≤ n' ∧ (r = false → n' = n + sz ∧ n' ≤ 2147483647)

set_option maxRecDepth 100000 in
set_option maxHeartbeats 800000 in
theorem parts_exprs (B c : Nat) (hBc : B ≤ c) (N : Nat) : ∀ (l : EL), l.size < N → ∀ (w : World) (up : Nat) (v : Value) (n left : Int), SlE (argZ B) w up v l → w.heap[c]? = some (.cells #[.int .i64 n] 47 (0, 0)) → 0 ≤ n → n ≤ 2147483647 → 0 ≤ left → left ≤ 65536 →
    Calls Tryd.prog 21 #[.pointer (some ⟨c, 0, none⟩), v, .int .i64 left] w (PPost c n l.size w) := by
  induction N with
  | zero => intro l h; omega
  | succ N ih =>
    intro l hsz w up v n left hS hb hn0 hn1 hl0 hl1
    obtain ⟨ao, cap, b, off, rfl, hcap, ha, hx⟩ := hS.open
    have IH := hide ih
    have HX := hide hx
    have HA := hide ha
    have HB := hide hb
    clear hS ih hx ha hb
    go_enter Tryd.func21, Tryd.ntmps21
    go_wp2_with fail
    go_loopw [7] (fun i wr => ∃ (rest : EL) (k : Nat) (m : Int), i = .int .i64 k ∧ k + rest.len = l.len ∧ rest.size ≤ l.size ∧ m + rest.size = n + l.size ∧ n + k ≤ m ∧ m ≤ 2147483647 ∧ wr.heap[c]? = some (.cells #[.int .i64 m] 47 (0, 0)) ∧ Keeps (fun k => k = c) w wr ∧ ExIn (argZ B) wr rest b (off + k * 4)) (fun i _ => l.len - (intOf i).toNat)
    case atStart => exact ⟨l, 0, n, rfl, by omega, Nat.le_refl _, rfl, by omega, hn1, unhide HB, Keeps.refl _ _, by simpa using unhide HX⟩
    case round =>
      obtain ⟨rest, k, m, rfl, hkl, hrs, hm, hnk, hm1, hc, hkeep, hr⟩ := hrel
      cases rest with
      | nil =>
        simp only [EL.len, EL.size] at hkl hm hrs
        have HC := hide hc
        have HK := hide hkeep
        clear hc hkeep hr
        have i1 : ¬ (k : Int) < (l.len : Int) := by omega
        go_wp2_with fail
        go_ret
        exact ⟨_, _, rfl, unhide HC, unhide HK, by omega, fun _ => ⟨by omega, hm1⟩⟩
      | cons op nn s kids rest =>
        obtain ⟨h1, h2, h3, h4, h5, ⟨kao, kcap, h6, h7, h8⟩, h9⟩ := hr
        simp only [EL.len, EL.size] at hkl hm hrs
        obtain ⟨rfl, hp⟩ := (unhide HA) (by omega)
        have HKID : Hid (SlE (argZ B) wr b (.slice kao kids.len kcap) kids) := ⟨kao, kcap, rfl, h7, h8⟩
        have HR := hide h9
        have HK := hide hkeep
        have HC := hide hc
        have hcc := cell_of_blk hc 0
        have hfz := frozen_of_blk hc 0
        simp at hcc
        have i1 : (k : Int) < (l.len : Int) := by omega
        have i0 : (0 : Int) ≤ (k : Int) := by omega
        clear hc hkeep h3 h4 h5 h8 h9
        have hbc : b ≠ c := by have : b < B := h2; omega
        have hcb : c ≠ b := fun e => hbc e.symm
        have HC1 : Hid ((wr.setCell ⟨c, 0, none⟩ (.int .i64 (m + 1))).heap[c]? = some (.cells #[.int .i64 (m + 1)] 47 (0, 0))) := by
          have := heap_setCell_at (unhide HC) (o := 0) (.int .i64 (m + 1))
          exact hide (by simpa using this)
        have HK1 : Hid (Keeps (fun k => k = c) w (wr.setCell ⟨c, 0, none⟩ (.int .i64 (m + 1)))) := (unhide HK).setCell (fun _ => rfl) _
        have HKS : Hid (Keeps (fun k => k = c) wr (wr.setCell ⟨c, 0, none⟩ (.int .i64 (m + 1)))) := (Keeps.refl (fun k => k = c) wr).setCell (fun _ => rfl) _
        clear h2
        by_cases hq : left = 0
        · subst hq
          go_wp2_with fail
          go_ret
          exact ⟨true, _, rfl, unhide HC1, unhide HK1, by omega, fun h => by cases h⟩
        · have hq' : (left == 0) = false := by simpa using hq
          by_cases hm2 : m = 2147483647
          · subst hm2
            go_wp2_with fail
            go_ret
            exact ⟨true, _, rfl, unhide HC1, unhide HK1, by omega, fun h => by cases h⟩
          · have hm3 : ¬ (2147483647 : Int) < m + 1 := by omega
            have HCALL := hide (unhide IH kids (by omega) _ b (.slice kao kids.len kcap) (m + 1) (left - 1) ((unhide HKID).argKeep (unhide HKS) (fun k e => by omega)) (unhide HC1) (by omega) (by omega) (by omega) (by omega))
            go_wp2_with (go_at_call 21; refine (unhide HCALL).mono ?_; rintro e w1 ⟨r, n1, rfl, hc1, hk1, hn1, hr1⟩)
            · go_ret
              exact ⟨true, _, rfl, hc1, (unhide HK1).trans hk1, hn1, fun h => by cases h⟩
            · obtain ⟨e1, e2⟩ := hr1 (by cases r <;> simp_all)
              go_roundw
              case rel =>
                refine ⟨rest, k + 1, n1, by go_num, by omega, by omega, by omega, by omega, e2, hc1, (unhide HK1).trans hk1, ?_⟩
                rw [show off + (k + 1) * 4 = off + k * 4 + 4 by omega]
                exact (unhide HR).argKeep ((unhide HKS).trans hk1) (fun k e => by omega)
              case measure => simp [intOf]; omega
end Go.Proofs.YtlnkleicnkfkpaaDoor
namespace Go.Proofs.YtlnkleicnkfkpaaDoor
open Go.RowKit Go.Maps

set_option maxRecDepth 100000 in
set_option maxHeartbeats 1600000 in
theorem parts_stmts (B c : Nat) (hBc : B ≤ c) (N : Nat) : ∀ (l : SL), l.size < N → ∀ (w : World) (up : Nat) (v : Value) (n left : Int), SlS (argZ B) w up v l → w.heap[c]? = some (.cells #[.int .i64 n] 47 (0, 0)) → 0 ≤ n → n ≤ 2147483647 → 0 ≤ left → left ≤ 65536 →
    Calls Tryd.prog 20 #[.pointer (some ⟨c, 0, none⟩), v, .int .i64 left] w (PPost c n l.size w) := by
  induction N with
  | zero => intro l h; omega
  | succ N ih =>
    intro l hsz w up v n left hS hb hn0 hn1 hl0 hl1
    obtain ⟨ao, cap, b, off, rfl, hcap, ha, hx⟩ := hS.open
    have IH := hide ih
    have HX := hide hx
    have HA := hide ha
    have HB := hide hb
    clear hS ih hx ha hb
    go_enter Tryd.func20, Tryd.ntmps20
    go_wp2_with fail
    go_loopw [7] (fun i wr => ∃ (rest : SL) (k : Nat) (m : Int), i = .int .i64 k ∧ k + rest.len = l.len ∧ rest.size ≤ l.size ∧ m + rest.size = n + l.size ∧ n + k ≤ m ∧ m ≤ 2147483647 ∧ wr.heap[c]? = some (.cells #[.int .i64 m] 47 (0, 0)) ∧ Keeps (fun k => k = c) w wr ∧ StIn (argZ B) wr rest b (off + k * 5)) (fun i _ => l.len - (intOf i).toNat)
    case atStart => exact ⟨l, 0, n, rfl, by omega, Nat.le_refl _, rfl, by omega, hn1, unhide HB, Keeps.refl _ _, by simpa using unhide HX⟩
    case round =>
      obtain ⟨rest, k, m, rfl, hkl, hrs, hm, hnk, hm1, hc, hkeep, hr⟩ := hrel
      cases rest with
      | nil =>
        simp only [SL.len, SL.size] at hkl hm hrs
        have HC := hide hc
        have HK := hide hkeep
        clear hc hkeep hr
        have i1 : ¬ (k : Int) < (l.len : Int) := by omega
        go_wp2_with fail
        go_ret
        exact ⟨_, _, rfl, unhide HC, unhide HK, by omega, fun _ => ⟨by omega, hm1⟩⟩
      | cons op f ex th el rest =>
        obtain ⟨h1, h2, h3, h4, ⟨xv, h5, hxs⟩, ⟨tao, tcap, h6, h7, h8⟩, ⟨eao, ecap, g6, g7, g8⟩, h9⟩ := hr
        simp only [SL.len, SL.size] at hkl hm hrs
        obtain ⟨rfl, hp⟩ := (unhide HA) (by omega)
        have HEX := hide hxs
        have HTH : Hid (SlS (argZ B) wr b (.slice tao th.len tcap) th) := ⟨tao, tcap, rfl, h7, h8⟩
        have HEL : Hid (SlS (argZ B) wr b (.slice eao el.len ecap) el) := ⟨eao, ecap, rfl, g7, g8⟩
        have HR := hide h9
        have HK := hide hkeep
        have HC := hide hc
        have hcc := cell_of_blk hc 0
        have hfz := frozen_of_blk hc 0
        simp at hcc
        have i1 : (k : Int) < (l.len : Int) := by omega
        have i0 : (0 : Int) ≤ (k : Int) := by omega
        have hbc : b ≠ c := by have : b < B := h2; omega
        have hcb : c ≠ b := fun e => hbc e.symm
        have HC1 : Hid ((wr.setCell ⟨c, 0, none⟩ (.int .i64 (m + 1))).heap[c]? = some (.cells #[.int .i64 (m + 1)] 47 (0, 0))) := by
          have := heap_setCell_at (unhide HC) (o := 0) (.int .i64 (m + 1))
          exact hide (by simpa using this)
        have HK1 : Hid (Keeps (fun k => k = c) w (wr.setCell ⟨c, 0, none⟩ (.int .i64 (m + 1)))) := (unhide HK).setCell (fun _ => rfl) _
        have HKS : Hid (Keeps (fun k => k = c) wr (wr.setCell ⟨c, 0, none⟩ (.int .i64 (m + 1)))) := (Keeps.refl (fun k => k = c) wr).setCell (fun _ => rfl) _
        clear hc hkeep h2 h3 h4 h8 g8 h9 hxs
        by_cases hq : left = 0
        · subst hq
          go_wp2_with fail
          go_ret
          exact ⟨true, _, rfl, unhide HC1, unhide HK1, by omega, fun h => by cases h⟩
        · have hq' : (left == 0) = false := by simpa using hq
          by_cases hm2 : m = 2147483647
          · subst hm2
            go_wp2_with fail
            go_ret
            exact ⟨true, _, rfl, unhide HC1, unhide HK1, by omega, fun h => by cases h⟩
          · have hm3 : ¬ (2147483647 : Int) < m + 1 := by omega
            obtain ⟨xao, xcap, rfl, hxl⟩ := (unhide HEX).head
            have HCALL := hide (parts_exprs B c hBc (ex.size + 1) ex (by omega) _ b (.slice xao ex.len xcap) (m + 1) (left - 1) ((unhide HEX).argKeep (unhide HKS) (fun k e => by omega)) (unhide HC1) (by omega) (by omega) (by omega) (by omega))
            go_wp2_with (first
              | (go_at_call 21; refine (unhide HCALL).mono ?_; rintro e w1 ⟨r, n1, rfl, hc1, hk1, hn1, hr1⟩; have HC2 := hide hc1; have HN1 := hide hn1; have HR1 := hide hr1; have HKW := hide ((unhide HKS).trans hk1); have HKT := hide ((unhide HK1).trans hk1); have q6 := ((unhide HKW).cell h1 hbc).trans h6; have q7 := ((unhide HKW).cell h1 hbc).trans g6; clear hc1 hk1 hn1 hr1)
              | (go_at_call_of 20 (Value.slice tao th.len tcap); have HE1 := hide ((unhide HR1) (by assumption)); refine (unhide IH th (by omega) _ b _ n1 (left - 1) ((unhide HTH).argKeep (unhide HKW) (fun k e => by omega)) (unhide HC2) (unhide HN1) (unhide HE1).2 (by omega) (by omega)).mono ?_; rintro e w2 ⟨r2, n2, rfl, hc1, hk1, hn1, hr1⟩; have HC3 := hide hc1; have HN2 := hide hn1; have HR2 := hide hr1; have HKW2 := hide ((unhide HKW).trans hk1); have HKT2 := hide ((unhide HKT).trans hk1); have q8 := ((unhide HKW2).cell h1 hbc).trans g6; clear hc1 hk1 hn1 hr1)
              | (go_at_call_of 20 (Value.slice eao el.len ecap); have HE2 := hide ((unhide HR2) (by assumption)); refine (unhide IH el (by omega) _ b _ n2 (left - 1) ((unhide HEL).argKeep (unhide HKW2) (fun k e => by omega)) (unhide HC3) (unhide HN2) (unhide HE2).2 (by omega) (by omega)).mono ?_; rintro e w3 ⟨r3, n3, rfl, hc1, hk1, hn1, hr1⟩; have HC4 := hide hc1; have HN3 := hide hn1; have HR3 := hide hr1; have HKW3 := hide ((unhide HKW2).trans hk1); have HKT3 := hide ((unhide HKT2).trans hk1); clear hc1 hk1 hn1 hr1))
            · go_ret
              exact ⟨true, _, rfl, unhide HC2, unhide HKT, unhide HN1, fun h => by cases h⟩
            · go_ret
              exact ⟨true, _, rfl, unhide HC3, unhide HKT2, unhide HN2, fun h => by cases h⟩
            · go_ret
              exact ⟨true, _, rfl, unhide HC4, unhide HKT3, unhide HN3, fun h => by cases h⟩
            · obtain ⟨e1, e2⟩ := (unhide HR1) (by assumption)
              obtain ⟨e3, e4⟩ := (unhide HR2) (by assumption)
              obtain ⟨e5, e6⟩ := (unhide HR3) (by assumption)
              go_roundw
              case rel =>
                refine ⟨rest, k + 1, n3, by go_num, by omega, by omega, by omega, by omega, e6, unhide HC4, unhide HKT3, ?_⟩
                rw [show off + (k + 1) * 5 = off + k * 5 + 5 by omega]
                exact (unhide HR).argKeep (unhide HKW3) (fun k e => by omega)
              case measure => simp [intOf]; omega
end Go.Proofs.YtlnkleicnkfkpaaDoor
namespace Go.Proofs.YtlnkleicnkfkpaaDoor
open Go.RowKit Go.Maps

/-- Are there too many parts? -/
def DPost (sz : Nat) (w : World) (e : Ending) (w' : World) : Prop := ∃ r : Bool, e = .returned (.bool r) ∧ Keeps (fun _ => False) w w' ∧ (r = false → sz ≤ 2147483647)
theorem keeps_new {w w1 w2 : World} (h1 : Keeps (fun _ => False) w w1) (h2 : Keeps (fun k => k = w.heap.size) w1 w2) : Keeps (fun _ => False) w w2 :=
  h1.then h2 (fun i hi e => by omega)

set_option maxRecDepth 100000 in
set_option maxHeartbeats 800000 in
theorem deepExprs (B up : Nat) (l : EL) (v : Value) (w : World) (hB : B ≤ w.heap.size) (hS : SlE (argZ B) w up v l) : Calls Tryd.prog 6 #[v] w (DPost l.size w) := by
  have HS := hide (hS.keepF ((Keeps.refl _ w).alloc (.cells #[.int .i64 0] 47)))
  have HK : Hid (Keeps (fun _ => False) w (w.alloc (.cells #[.int .i64 0] 47))) := hide ((Keeps.refl _ w).alloc _)
  obtain ⟨ao, cap, rfl, hc⟩ := hS.head
  clear hS
  go_enter Tryd.func6, Tryd.ntmps6
  go_wp2_with (go_at_call 21; refine (parts_exprs B w.heap.size hB (l.size + 1) l (by omega) _ up _ 0 65536 (unhide HS) (heap_alloc_new w _) (by omega) (by omega) (by omega) (by omega)).mono ?_; rintro e w1 ⟨r, n1, rfl, hc1, hk1, hn1, hr1⟩)
  go_ret
  exact ⟨r, rfl, keeps_new (unhide HK) hk1, fun h => by have := hr1 h; omega⟩

set_option maxRecDepth 100000 in
set_option maxHeartbeats 800000 in
theorem deepStmts (B up : Nat) (l : SL) (v : Value) (w : World) (hB : B ≤ w.heap.size) (hS : SlS (argZ B) w up v l) : Calls Tryd.prog 5 #[v] w (DPost l.size w) := by
  have HS := hide (hS.keepF ((Keeps.refl _ w).alloc (.cells #[.int .i64 0] 47)))
  have HK : Hid (Keeps (fun _ => False) w (w.alloc (.cells #[.int .i64 0] 47))) := hide ((Keeps.refl _ w).alloc _)
  obtain ⟨ao, cap, rfl, hc⟩ := hS.head
  clear hS
  go_enter Tryd.func5, Tryd.ntmps5
  go_wp2_with (go_at_call 20; refine (parts_stmts B w.heap.size hB (l.size + 1) l (by omega) _ up _ 0 65536 (unhide HS) (heap_alloc_new w _) (by omega) (by omega) (by omega) (by omega)).mono ?_; rintro e w1 ⟨r, n1, rfl, hc1, hk1, hn1, hr1⟩)
  go_ret
  exact ⟨r, rfl, keeps_new (unhide HK) hk1, fun h => by have := hr1 h; omega⟩
end Go.Proofs.YtlnkleicnkfkpaaDoor
