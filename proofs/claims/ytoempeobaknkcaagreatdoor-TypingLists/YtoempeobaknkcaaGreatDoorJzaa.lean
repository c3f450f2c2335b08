import Derived.Test.YtoempeobaknkcaaGreatDoorProg
import Derived.WalkKit
import Derived.WalkSpells
import Derived.WalkLawsBesides
import Derived.Laws.CopyOwn
import Derived.Maps.OwnSet
import Derived.Deep.AppendLies
import Derived.BigQuiet
import Derived.Deep.QuietTactic
import Derived.Deep.RegionHeld3
import Derived.Laws.IdiomStrings
namespace Go.Proofs.YtoempeobaknkcaaGreatDoor
open Go.RowKit Go.Maps

theorem ret_int {k : IntKind} {a b : Int} (h : a = b) : Ending.returned (.int k a) = .returned (.int k b) := by rw [h]
theorem ret_bool {a b : Bool} (h : a = b) : Ending.returned (.bool a) = .returned (.bool b) := by rw [h]
theorem hide {p : Prop} (h : p) : Hid p := h
theorem unhide {p : Prop} (h : Hid p) : p := h

/-- All blocks that are there and are not named by F hold what they held. -/
structure Keeps (F : Nat → Prop) (w w' : World) : Prop where
  os : w'.os = w.os
  tape : w'.tape = w.tape
  output : w'.output = w.output
  size : w.heap.size ≤ w'.heap.size
  block : ∀ k, k < w.heap.size → ¬ F k → w'.heap[k]? = w.heap[k]?

theorem Keeps.refl (F : Nat → Prop) (w : World) : Keeps F w w := ⟨rfl, rfl, rfl, Nat.le_refl _, fun _ _ _ => rfl⟩
theorem Keeps.trans {F : Nat → Prop} {a b c : World} (h : Keeps F a b) (k : Keeps F b c) : Keeps F a c :=
  ⟨k.os.trans h.os, k.tape.trans h.tape, k.output.trans h.output, Nat.le_trans h.size k.size, fun i hi hF => (k.block i (Nat.lt_of_lt_of_le hi h.size) hF).trans (h.block i hi hF)⟩
theorem Keeps.mono {F G : Nat → Prop} {a b : World} (h : Keeps F a b) (hFG : ∀ k, k < a.heap.size → F k → G k) : Keeps G a b :=
  ⟨h.os, h.tape, h.output, h.size, fun k hk hG => h.block k hk (fun hf => hG (hFG k hk hf))⟩
theorem Keeps.any {G : Nat → Prop} {a b : World} (h : Keeps (fun _ => False) a b) : Keeps G a b := h.mono (fun _ _ f => f.elim)
theorem Keeps.drew {F : Nat → Prop} {a b : World} (h : Keeps F a b) : Keeps F a b.drew := ⟨h.os, h.tape, h.output, h.size, h.block⟩
theorem drewN_os (w : World) : ∀ n, (w.drewN n).os = w.os ∧ (w.drewN n).tape = w.tape ∧ (w.drewN n).output = w.output ∧ (w.drewN n).heap = w.heap
  | 0 => ⟨rfl, rfl, rfl, rfl⟩
  | n + 1 => by
    have := drewN_os w.drew n
    exact this
theorem Keeps.drewN {F : Nat → Prop} {a b : World} (h : Keeps F a b) (n : Nat) : Keeps F a (b.drewN n) := by
  obtain ⟨h1, h2, h3, h4⟩ := drewN_os b n
  exact ⟨h1.trans h.os, h2.trans h.tape, h3.trans h.output, by rw [h4]; exact h.size, by rw [h4]; exact h.block⟩
theorem Keeps.alloc {F : Nat → Prop} {a b : World} (h : Keeps F a b) (o : Obj) : Keeps F a (b.alloc o) :=
  h.trans ⟨rfl, rfl, rfl, by simp, fun k hk _ => Below.heap_alloc _ _ _ hk⟩
theorem Keeps.setCell {F : Nat → Prop} {a b : World} (h : Keeps F a b) {p : Addr} (hp : p.block < a.heap.size → F p.block) (u : Value) : Keeps F a (b.setCell p u) :=
  ⟨h.os, h.tape, h.output, by simpa using h.size, fun k hk hF => by
    have hne : k ≠ p.block := fun e => hF (by rw [e]; exact hp (by rw [← e]; exact hk))
    rw [Below.heap_setCell _ _ _ _ hne]; exact h.block k hk hF⟩
theorem Keeps.grown {F : Nat → Prop} {a b c : World} {row : Option Nat} (h : Keeps F a b) (hg : b.grownBy c row) (hr : ∀ k, row = some k → k < a.heap.size → F k) : Keeps F a c :=
  ⟨hg.os.trans h.os, hg.tape.trans h.tape, hg.output.trans h.output, Nat.le_trans h.size hg.size, fun k hk hF => by
    rw [hg.block k (Nat.lt_of_lt_of_le hk h.size) (fun e => hF (hr k e.symm hk))]; exact h.block k hk hF⟩
theorem Keeps.below {F : Nat → Prop} {a b : World} (h : Keeps F a b) {B : Nat} (hB : B ≤ a.heap.size) (hF : ∀ k, F k → B ≤ k) : Below B a b :=
  ⟨h.os, h.tape, h.output, h.size, fun k hk => h.block k (by omega) (fun f => by have := hF k f; omega)⟩
theorem Keeps.cell {F : Nat → Prop} {a b : World} (h : Keeps F a b) {k o : Nat} (hk : k < a.heap.size) (hF : ¬ F k) : b.cell? ⟨k, o, none⟩ = a.cell? ⟨k, o, none⟩ :=
  World.cell?_of_block (w := a) (h.block k hk hF)

theorem heap_setCell_at {w : World} {b o : Nat} {c : Array Value} {t : TypeId} {fr : Nat × Nat} (h : w.heap[b]? = some (.cells c t fr)) (v : Value) :
    (w.setCell ⟨b, o, none⟩ v).heap[b]? = some (.cells (c.setIfInBounds o v) t fr) := by
  simp [World.setCell, Array.getElem?_modify, h]
theorem lt_of_block {w : World} {b : Nat} {o : Obj} (h : w.heap[b]? = some o) : b < w.heap.size := (Array.getElem?_eq_some_iff.1 h).1
theorem cell_of_blk {w : World} {b : Nat} {c : Array Value} {t : TypeId} {fr : Nat × Nat} (h : w.heap[b]? = some (.cells c t fr)) (o : Nat) : w.cell? ⟨b, o, none⟩ = c[o]? := by
  simp [World.cell?, h]
theorem frozen_of_blk {w : World} {b : Nat} {c : Array Value} {t : TypeId} (h : w.heap[b]? = some (.cells c t (0, 0))) (o : Nat) : w.frozen? ⟨b, o, none⟩ = false := by
  simp [World.frozen?, h]


theorem Keeps.then {F G : Nat → Prop} {a b c : World} (h : Keeps G a b) (k : Keeps F b c) (hF : ∀ i, i < a.heap.size → F i → G i) : Keeps G a c :=
  ⟨k.os.trans h.os, k.tape.trans h.tape, k.output.trans h.output, Nat.le_trans h.size k.size, fun i hi hG => (k.block i (Nat.lt_of_lt_of_le hi h.size) (fun f => hG (hF i hi f))).trans (h.block i hi hG)⟩
theorem keeps_drewN (w : World) (n : Nat) : Keeps (fun _ => False) w (w.drewN n) := (Keeps.refl _ w).drewN n

theorem take_snoc {α : Type} (ws : List α) (k : Nat) (x : α) (h : ws[k]? = some x) : ws.take (k + 1) = ws.take k ++ [x] := by
  obtain ⟨hk, rfl⟩ := List.getElem?_eq_some_iff.1 h
  rw [List.take_succ_eq_append_getElem hk]

/-- A text. -/
abbrev Txt := List UInt8
abbrev str (l : Txt) : Value := .string ⟨l.toArray⟩
/-- A byte's number. -/
def num (c : UInt8) : Int := (c.toNat : Int)
theorem num_range (c : UInt8) : 0 ≤ num c ∧ num c ≤ 255 := by
  have := c.toNat_lt
  unfold num
  omega
/-- Bytes as cells. -/
def bs (l : Txt) : List Value := l.map fun c => Value.int .u8 (num c)
theorem bs_length (l : Txt) : (bs l).length = l.length := by simp [bs]
theorem bs_get (l : Txt) (j : Nat) : (bs l)[j]? = (l[j]?).map (fun c => Value.int .u8 (num c)) := by simp [bs]

/-- A slice of n elements whose cells read as xs. -/
structure RowAt (w : World) (v : Value) (n : Nat) (xs : List Value) : Prop where
  form : ∃ ao cap, v = .slice ao n cap
  cells : 0 < n → ∃ b off cap, v = .slice (some ⟨b, off, none⟩) n cap ∧ b < w.heap.size ∧ ∀ j x, xs[j]? = some x → w.cell? ⟨b, off + j, none⟩ = some x
  room : ∀ ao m cap, v = .slice ao m cap → m ≤ cap

theorem RowAt.kept {w w' : World} {v : Value} {n : Nat} {l : List Value} (h : RowAt w v n l) {F : Nat → Prop} (hk : Keeps F w w') (hF : ∀ k, v.ownBlock = some k → ¬ F k) : RowAt w' v n l := by
  refine ⟨h.form, fun h0 => ?_, h.room⟩
  obtain ⟨b, off, cap, e, hb, hc⟩ := h.cells h0
  refine ⟨b, off, cap, e, Nat.lt_of_lt_of_le hb hk.size, fun j x hx => ?_⟩
  rw [hk.cell hb (hF b (by rw [e]; rfl))]
  exact hc j x hx
theorem RowAt.keepF {w w' : World} {v : Value} {n : Nat} {l : List Value} (h : RowAt w v n l) (hk : Keeps (fun _ => False) w w') : RowAt w' v n l := h.kept hk (fun _ _ => id)
theorem RowAt.drewN {w : World} {v : Value} {n : Nat} {l : List Value} (h : RowAt w v n l) (k : Nat) : RowAt (w.drewN k) v n l := h.keepF (keeps_drewN w k)
theorem rowAt_own {w : World} {B t z n : Nat} {v : Value} {l : List Value} (h : w.ownsRow B t z v n l) : RowAt w v n l := by
  obtain ⟨hl, hh⟩ := h
  rcases hh with ⟨hv, hn⟩ | ⟨g, cap, cur, hv, hb, hg, h1, h2, h3, h4⟩
  · exact ⟨⟨none, 0, by rw [hn]; exact hv⟩, fun h0 => by omega, fun ao m cap e => by rw [hv] at e; simp at e; omega⟩
  · refine ⟨⟨_, _, hv⟩, fun _ => ⟨g, 0, cap, hv, lt_of_block hg, fun j x hx => ?_⟩, fun ao m cap' e => by rw [hv] at e; simp at e; omega⟩
    rw [cell_of_blk hg]
    rw [← h4, List.getElem?_take] at hx
    split at hx
    · simpa using hx
    · cases hx

end Go.Proofs.YtoempeobaknkcaaGreatDoor
namespace Go.Proofs.YtoempeobaknkcaaGreatDoor
open Go.RowKit Go.Maps

/-- A list of expressions, as a tree. -/
inductive EL where
  | nil
  | cons (op n : Int) (s : Txt) (kids rest : EL)
/-- A list of statements. -/
inductive SL where
  | nil
  | cons (op : Int) (f : Txt) (ex : EL) (th el rest : SL)
namespace EL
def len : EL → Nat
  | nil => 0
  | cons _ _ _ _ r => r.len + 1
def size : EL → Nat
  | nil => 0
  | cons _ _ _ k r => k.size + r.size + 1
def app : EL → EL → EL
  | nil, m => m
  | cons o n s k r, m => cons o n s k (r.app m)
theorem app_nil : ∀ l : EL, l.app nil = l
  | nil => rfl
  | cons o n s k r => by simp [app, app_nil r]
theorem app_assoc : ∀ l m k : EL, (l.app m).app k = l.app (m.app k)
  | nil, _, _ => rfl
  | cons o n s k r, m, q => by simp [app, app_assoc r m q]
theorem len_app : ∀ l m : EL, (l.app m).len = l.len + m.len
  | nil, _ => by simp [app, len]
  | cons o n s k r, m => by simp [app, len, len_app r m]; omega
theorem size_app : ∀ l m : EL, (l.app m).size = l.size + m.size
  | nil, _ => by simp [app, size]
  | cons o n s k r, m => by simp [app, size, size_app r m]; omega
theorem len_le : ∀ l : EL, l.len ≤ l.size
  | nil => Nat.le_refl _
  | cons o n s k r => by have := len_le r; simp [len, size]; omega
end EL
namespace SL
def len : SL → Nat
  | nil => 0
  | cons _ _ _ _ _ r => r.len + 1
def size : SL → Nat
  | nil => 0
  | cons _ _ x t e r => x.size + t.size + e.size + r.size + 1
def app : SL → SL → SL
  | nil, m => m
  | cons o f x t e r, m => cons o f x t e (r.app m)
theorem app_nil : ∀ l : SL, l.app nil = l
  | nil => rfl
  | cons o f x t e r => by simp [app, app_nil r]
theorem app_assoc : ∀ l m k : SL, (l.app m).app k = l.app (m.app k)
  | nil, _, _ => rfl
  | cons o f x t e r, m, q => by simp [app, app_assoc r m q]
theorem len_app : ∀ l m : SL, (l.app m).len = l.len + m.len
  | nil, _ => by simp [app, len]
  | cons o f x t e r, m => by simp [app, len, len_app r m]; omega
theorem size_app : ∀ l m : SL, (l.app m).size = l.size + m.size
  | nil, _ => by simp [app, size]
  | cons o f x t e r, m => by simp [app, size, size_app r m]; omega
theorem len_le : ∀ l : SL, l.len ≤ l.size
  | nil => Nat.le_refl _
  | cons o f x t e r => by have := len_le r; simp [len, size]; omega
end SL

/-- Where trees may lie: G tells the blocks of expressions (false) and of statements (true), P which block may hang below which. -/
structure Zone where
  G : World → Bool → Nat → Prop
  P : Nat → Nat → Prop
  stable : ∀ {w w' : World} {s : Bool} {k : Nat}, Keeps (fun _ => False) w w' → k < w.heap.size → G w s k → G w' s k

/-- Expressions lie in a block, from a cell on. -/
def ExIn (Z : Zone) (w : World) : EL → Nat → Nat → Prop
  | .nil, _, _ => True
  | .cons op n s kids rest, b, o =>
    b < w.heap.size ∧ Z.G w false b ∧ w.cell? ⟨b, o, none⟩ = some (.int .i64 op) ∧ w.cell? ⟨b, o + 1, none⟩ = some (.int .i64 n) ∧ w.cell? ⟨b, o + 2, none⟩ = some (str s) ∧
      (∃ ao cap, w.cell? ⟨b, o + 3, none⟩ = some (.slice ao kids.len cap) ∧ kids.len ≤ cap ∧
        (kids.len ≠ 0 → ∃ b' o', ao = some ⟨b', o', none⟩ ∧ Z.P b b' ∧ ExIn Z w kids b' o')) ∧ ExIn Z w rest b (o + 4)
/-- A slice of expressions, hanging below a block. -/
def SlE (Z : Zone) (w : World) (up : Nat) (v : Value) (l : EL) : Prop :=
  ∃ ao cap, v = .slice ao l.len cap ∧ l.len ≤ cap ∧ (l.len ≠ 0 → ∃ b o, ao = some ⟨b, o, none⟩ ∧ Z.P up b ∧ ExIn Z w l b o)
/-- Statements lie in a block, from a cell on. -/
def StIn (Z : Zone) (w : World) : SL → Nat → Nat → Prop
  | .nil, _, _ => True
  | .cons op f ex th el rest, b, o =>
    b < w.heap.size ∧ Z.G w true b ∧ w.cell? ⟨b, o, none⟩ = some (.int .i64 op) ∧ w.cell? ⟨b, o + 1, none⟩ = some (str f) ∧
      (∃ v, w.cell? ⟨b, o + 2, none⟩ = some v ∧ SlE Z w b v ex) ∧
      (∃ ao cap, w.cell? ⟨b, o + 3, none⟩ = some (.slice ao th.len cap) ∧ th.len ≤ cap ∧
        (th.len ≠ 0 → ∃ b' o', ao = some ⟨b', o', none⟩ ∧ Z.P b b' ∧ StIn Z w th b' o')) ∧
      (∃ ao cap, w.cell? ⟨b, o + 4, none⟩ = some (.slice ao el.len cap) ∧ el.len ≤ cap ∧
        (el.len ≠ 0 → ∃ b' o', ao = some ⟨b', o', none⟩ ∧ Z.P b b' ∧ StIn Z w el b' o')) ∧ StIn Z w rest b (o + 5)
/-- A slice of statements, hanging below a block. -/
def SlS (Z : Zone) (w : World) (up : Nat) (v : Value) (l : SL) : Prop :=
  ∃ ao cap, v = .slice ao l.len cap ∧ l.len ≤ cap ∧ (l.len ≠ 0 → ∃ b o, ao = some ⟨b, o, none⟩ ∧ Z.P up b ∧ StIn Z w l b o)

theorem EL.len0 : ∀ {l : EL}, l.len = 0 → l = .nil
  | .nil, _ => rfl
theorem SL.len0 : ∀ {l : SL}, l.len = 0 → l = .nil
  | .nil, _ => rfl

section
variable {Z : Zone} {w w' : World} {F : Nat → Prop} {Q : Nat → Prop}
/-- What is not written stays. -/
theorem ExIn.keep (hQ : ∀ b b', Q b → Z.P b b' → Q b') (hk : Keeps F w w') (hG : ∀ s k, Q k → k < w.heap.size → Z.G w s k → ¬ F k ∧ Z.G w' s k) :
    ∀ {l : EL} {b o : Nat}, Q b → ExIn Z w l b o → ExIn Z w' l b o
  | .nil, _, _, _, _ => trivial
  | .cons op n s kids rest, b, o, hq, ⟨h1, h2, h3, h4, h5, ⟨ao, cap, h6, h7, h8⟩, h9⟩ => by
    obtain ⟨hF, hg⟩ := hG _ _ hq h1 h2
    refine ⟨Nat.lt_of_lt_of_le h1 hk.size, hg, (hk.cell h1 hF).trans h3, (hk.cell h1 hF).trans h4, (hk.cell h1 hF).trans h5, ⟨ao, cap, (hk.cell h1 hF).trans h6, h7, fun h0 => ?_⟩, ExIn.keep hQ hk hG hq h9⟩
    obtain ⟨b', o', e, hp, hr⟩ := h8 h0
    exact ⟨b', o', e, hp, ExIn.keep hQ hk hG (hQ _ _ hq hp) hr⟩
theorem SlE.keep (hQ : ∀ b b', Q b → Z.P b b' → Q b') (hk : Keeps F w w') (hG : ∀ s k, Q k → k < w.heap.size → Z.G w s k → ¬ F k ∧ Z.G w' s k) {up : Nat} {v : Value} {l : EL} (hu : Q up) (h : SlE Z w up v l) : SlE Z w' up v l := by
  obtain ⟨ao, cap, e, hc, hr⟩ := h
  refine ⟨ao, cap, e, hc, fun h0 => ?_⟩
  obtain ⟨b, o, e1, hp, hx⟩ := hr h0
  exact ⟨b, o, e1, hp, ExIn.keep hQ hk hG (hQ _ _ hu hp) hx⟩
theorem StIn.keep (hQ : ∀ b b', Q b → Z.P b b' → Q b') (hk : Keeps F w w') (hG : ∀ s k, Q k → k < w.heap.size → Z.G w s k → ¬ F k ∧ Z.G w' s k) :
    ∀ {l : SL} {b o : Nat}, Q b → StIn Z w l b o → StIn Z w' l b o
  | .nil, _, _, _, _ => trivial
  | .cons op f ex th el rest, b, o, hq, ⟨h1, h2, h3, h4, ⟨v, h5, h5'⟩, ⟨ao, cap, h6, h7, h8⟩, ⟨ao2, cap2, k6, k7, k8⟩, h9⟩ => by
    obtain ⟨hF, hg⟩ := hG _ _ hq h1 h2
    refine ⟨Nat.lt_of_lt_of_le h1 hk.size, hg, (hk.cell h1 hF).trans h3, (hk.cell h1 hF).trans h4, ⟨v, (hk.cell h1 hF).trans h5, h5'.keep hQ hk hG hq⟩, ⟨ao, cap, (hk.cell h1 hF).trans h6, h7, fun h0 => ?_⟩, ⟨ao2, cap2, (hk.cell h1 hF).trans k6, k7, fun h0 => ?_⟩, StIn.keep hQ hk hG hq h9⟩
    · obtain ⟨b', o', e, hp, hr⟩ := h8 h0
      exact ⟨b', o', e, hp, StIn.keep hQ hk hG (hQ _ _ hq hp) hr⟩
    · obtain ⟨b', o', e, hp, hr⟩ := k8 h0
      exact ⟨b', o', e, hp, StIn.keep hQ hk hG (hQ _ _ hq hp) hr⟩
theorem SlS.keep (hQ : ∀ b b', Q b → Z.P b b' → Q b') (hk : Keeps F w w') (hG : ∀ s k, Q k → k < w.heap.size → Z.G w s k → ¬ F k ∧ Z.G w' s k) {up : Nat} {v : Value} {l : SL} (hu : Q up) (h : SlS Z w up v l) : SlS Z w' up v l := by
  obtain ⟨ao, cap, e, hc, hr⟩ := h
  refine ⟨ao, cap, e, hc, fun h0 => ?_⟩
  obtain ⟨b, o, e1, hp, hx⟩ := hr h0
  exact ⟨b, o, e1, hp, StIn.keep hQ hk hG (hQ _ _ hu hp) hx⟩
end
section
variable {Z : Zone} {w w' : World}
theorem ExIn.keepF {l : EL} {b o : Nat} (h : ExIn Z w l b o) (hk : Keeps (fun _ => False) w w') : ExIn Z w' l b o :=
  ExIn.keep (Q := fun _ => True) (fun _ _ _ _ => trivial) hk (fun _ _ _ hl hg => ⟨id, Z.stable hk hl hg⟩) trivial h
theorem SlE.keepF {up : Nat} {v : Value} {l : EL} (h : SlE Z w up v l) (hk : Keeps (fun _ => False) w w') : SlE Z w' up v l :=
  SlE.keep (Q := fun _ => True) (fun _ _ _ _ => trivial) hk (fun _ _ _ hl hg => ⟨id, Z.stable hk hl hg⟩) trivial h
theorem StIn.keepF {l : SL} {b o : Nat} (h : StIn Z w l b o) (hk : Keeps (fun _ => False) w w') : StIn Z w' l b o :=
  StIn.keep (Q := fun _ => True) (fun _ _ _ _ => trivial) hk (fun _ _ _ hl hg => ⟨id, Z.stable hk hl hg⟩) trivial h
theorem SlS.keepF {up : Nat} {v : Value} {l : SL} (h : SlS Z w up v l) (hk : Keeps (fun _ => False) w w') : SlS Z w' up v l :=
  SlS.keep (Q := fun _ => True) (fun _ _ _ _ => trivial) hk (fun _ _ _ hl hg => ⟨id, Z.stable hk hl hg⟩) trivial h
theorem SlE.head {up : Nat} {v : Value} {l : EL} (h : SlE Z w up v l) : ∃ ao cap, v = .slice ao l.len cap ∧ l.len ≤ cap := by
  obtain ⟨ao, cap, e, hc, _⟩ := h
  exact ⟨ao, cap, e, hc⟩
theorem SlS.head {up : Nat} {v : Value} {l : SL} (h : SlS Z w up v l) : ∃ ao cap, v = .slice ao l.len cap ∧ l.len ≤ cap := by
  obtain ⟨ao, cap, e, hc, _⟩ := h
  exact ⟨ao, cap, e, hc⟩
theorem ExIn.app : ∀ {l m : EL} {b o : Nat}, ExIn Z w l b o → ExIn Z w m b (o + 4 * l.len) → ExIn Z w (l.app m) b o
  | .nil, m, b, o, _, h => by simpa [EL.app, EL.len] using h
  | .cons op n s kids rest, m, b, o, ⟨h1, h2, h3, h4, h5, h6, h7⟩, h => by
    refine ⟨h1, h2, h3, h4, h5, h6, h7.app ?_⟩
    rw [show o + 4 + 4 * rest.len = o + 4 * (EL.cons op n s kids rest).len by simp [EL.len]; omega]
    exact h
theorem StIn.app : ∀ {l m : SL} {b o : Nat}, StIn Z w l b o → StIn Z w m b (o + 5 * l.len) → StIn Z w (l.app m) b o
  | .nil, m, b, o, _, h => by simpa [SL.app, SL.len] using h
  | .cons op f ex th el rest, m, b, o, ⟨h1, h2, h3, h4, h5, h6, h7, h8⟩, h => by
    refine ⟨h1, h2, h3, h4, h5, h6, h7, h8.app ?_⟩
    rw [show o + 5 + 5 * rest.len = o + 5 * (SL.cons op f ex th el rest).len by simp [SL.len]; omega]
    exact h
end
end Go.Proofs.YtoempeobaknkcaaGreatDoor
namespace Go.Proofs.YtoempeobaknkcaaGreatDoor
open Go.RowKit Go.Maps

/-- May the byte stand in a name? -/
def partB (c : Int) : Bool := decide (97 ≤ c) && decide (c ≤ 122) || decide (65 ≤ c) && decide (c ≤ 90) || decide (48 ≤ c) && decide (c ≤ 57) || decide (c = 95)

set_option maxRecDepth 100000 in
theorem part_any (c : Int) (w : World) : Calls Tryz.prog 83 #[.int .u8 c] w fun e w' => e = .returned (.bool (partB c)) ∧ w' = w := by
  go_enter Tryz.func83, Tryz.ntmps83
  go_wp2
  all_goals (go_ret; refine ⟨ret_bool ?_, rfl⟩; apply Bool.eq_iff_iff.2; simp [partB] at *; try omega)

/-- A hexadecimal digit's number, -1 if it is none. -/
def hexB (c : Int) : Int := if 48 ≤ c ∧ c ≤ 57 then c - 48 else if 97 ≤ c ∧ c ≤ 102 then c - 87 else if 65 ≤ c ∧ c ≤ 70 then c - 55 else -1

/-- The width of a field of a type, -1 if there is no such type. -/
def wideB (t : Int) : Int := if t = 1 then 10 else if t = 2 then 1 else if t = 3 then 21 else -1

set_option maxRecDepth 100000 in
theorem wide_any (t : Int) (w : World) : Calls Tryz.prog 59 #[.int .i64 t] w fun e w' => e = .returned (.int .i64 (wideB t)) ∧ w' = w := by
  go_enter Tryz.func59, Tryz.ntmps59
  go_wp2
  all_goals (go_ret; refine ⟨ret_int ?_, rfl⟩; simp [wideB] at *; try simp_all)

structure FieldA where
  name : Txt
  type : Int
  opt : Bool
deriving DecidableEq
structure ValA where
  kind : Int
  n : Int
  s : Txt
deriving DecidableEq
def FieldA.v (f : FieldA) : Value := .agg #[str f.name, .int .i64 f.type, .bool f.opt]
def ValA.v (x : ValA) : Value := .agg #[.int .i64 x.kind, .int .i64 x.n, str x.s]
def FieldA.cs (f : FieldA) : List Value := [str f.name, .int .i64 f.type, .bool f.opt]
def ValA.cs (x : ValA) : List Value := [.int .i64 x.kind, .int .i64 x.n, str x.s]

/-- A type's word. -/
def wordB (t : Int) : Txt := if t = 1 then [105, 110, 116] else if t = 2 then [98, 111, 111, 108] else [98, 121, 116, 101, 115]

def zeroV (f : FieldA) : ValA := if f.opt then ⟨0, 0, []⟩ else ⟨f.type, 0, []⟩

/-- Does the value fit the field? -/
def fitsB (f : FieldA) (v : ValA) : Bool :=
  if v.kind = 0 then f.opt && decide (v.n = 0) && decide (v.s = [])
  else if v.kind ≠ f.type then false
  else if v.kind = 1 then decide (v.s = [])
  else if v.kind = 2 then (decide (v.n = 0) || decide (v.n = 1)) && decide (v.s = [])
  else if v.kind = 3 then decide (v.n = 0) && decide (v.s.length ≤ 20)
  else false

/-- An int's turned number. -/
def turned (n : Int) : Int := if 0 ≤ n then 2 * n else -2 * n - 1

def backB (u : Int) : Int := if u % 2 = 0 then u / 2 else -(u / 2) - 1

/-- Is there a byte 116 to 116 at that place? -/
def moreB (t : Txt) (k : Nat) : Bool := match t[k]? with
  | some c => decide (128 ≤ num c) && decide (num c < 192)
  | none => false

theorem str_at {t : Txt} {k : Nat} {c : UInt8} (h : t[k]? = some c) : ∀ hk, (ByteArray.mk t.toArray)[k]'hk = c := by
  intro hk
  obtain ⟨_, rfl⟩ := List.getElem?_eq_some_iff.1 h
  rfl
theorem get_lt {α : Type} {t : List α} {k : Nat} {c : α} (h : t[k]? = some c) : k < t.length := (List.getElem?_eq_some_iff.1 h).1
theorem get_ge {α : Type} {t : List α} {k : Nat} (h : t[k]? = none) : t.length ≤ k := List.getElem?_eq_none_iff.1 h

end Go.Proofs.YtoempeobaknkcaaGreatDoor
namespace Go.Proofs.YtoempeobaknkcaaGreatDoor
open Go.RowKit Go.Maps

/-- The place of the first byte, from a on, of which p does not hold. -/
def scan (t : Txt) (p : UInt8 → Bool) (a : Nat) : Nat := a + ((t.drop a).takeWhile p).length
theorem scan_none {t : Txt} {p : UInt8 → Bool} {a : Nat} (h : t[a]? = none) : scan t p a = a := by
  have := get_ge h
  simp [scan, List.drop_eq_nil_of_le this]
theorem drop_at {α : Type} {t : List α} {a : Nat} {c : α} (h : t[a]? = some c) : t.drop a = c :: t.drop (a + 1) := by
  obtain ⟨ha, rfl⟩ := List.getElem?_eq_some_iff.1 h
  rw [List.drop_eq_getElem_cons ha]
theorem scan_stop {t : Txt} {p : UInt8 → Bool} {a : Nat} {c : UInt8} (h : t[a]? = some c) (hp : p c = false) : scan t p a = a := by
  simp [scan, drop_at h, hp]
theorem scan_go {t : Txt} {p : UInt8 → Bool} {a : Nat} {c : UInt8} (h : t[a]? = some c) (hp : p c = true) : scan t p a = scan t p (a + 1) := by
  simp [scan, drop_at h, hp]; omega
theorem scan_ge (t : Txt) (p : UInt8 → Bool) (a : Nat) : a ≤ scan t p a := by unfold scan; omega
theorem scan_le (t : Txt) (p : UInt8 → Bool) (a : Nat) (h : a ≤ t.length) : scan t p a ≤ t.length := by
  unfold scan
  have h1 := (List.takeWhile_sublist (l := t.drop a) p).length_le
  rw [List.length_drop] at h1
  omega

theorem num_inj {a b : UInt8} (h : num a = num b) : a = b := by
  unfold num at h
  exact UInt8.toNat_inj.1 (by omega)

/-- Does the text have p at that place? -/
def beginsB (t : Txt) (a : Nat) (p : Txt) : Bool := decide (a + p.length ≤ t.length) && decide ((t.drop a).take p.length = p)

theorem ext_str (t : Txt) (a b : Nat) : (ByteArray.mk t.toArray).extract a b = ⟨((t.drop a).take (b - a)).toArray⟩ := by
  rw [ByteArray.extract_mk]

def kws : List Txt := [[97, 110, 100], [99, 97, 116], [99, 108, 101, 97, 114], [100, 101, 108, 101, 116, 101], [101, 108, 115, 101], [102, 97, 108, 115, 101], [104, 97, 115], [104, 101, 114, 101], [105, 102], [108, 101, 110], [109, 97, 120], [109, 105, 110], [110, 101, 119], [110, 111, 116], [111, 114], [112, 105, 99, 107], [116, 114, 117, 101]]

theorem keywords_any (w : World) : Calls Tryz.prog 101 #[] w fun e w' => e = .returned (.slice (some ⟨w.heap.size, 0, none⟩) 17 17) ∧ w' = w.alloc (.cells (kws.map str).toArray 9) := by
  go_enter Tryz.func101, Tryz.ntmps101
  go_wp2
  go_ret
  exact ⟨rfl, rfl⟩

set_option maxRecDepth 100000 in
theorem keyword_any (x : Txt) (w : World) : Calls Tryz.prog 84 #[str x] w fun e w' => e = .returned (.bool (decide (x ∈ kws))) ∧ Keeps (fun _ => False) w w' := by
  go_enter Tryz.func84, Tryz.ntmps84
  go_wp2_with fail
  refine (keywords_any w).mono ?_
  rintro e w1 ⟨rfl, rfl⟩
  have HK : Hid (Keeps (fun _ => False) w (w.alloc (.cells (kws.map str).toArray 9))) := (Keeps.refl _ _).alloc _
  have HB : Hid ((w.alloc (.cells (kws.map str).toArray 9)).heap[w.heap.size]? = some (.cells (kws.map str).toArray 9 (0, 0))) := heap_alloc_new w _
  generalize w.alloc (.cells (kws.map str).toArray 9) = w2 at *
  generalize w.heap.size = b at *
  go_wp2
  go_loopw [4] (fun i wr => ∃ k : Nat, k ≤ 17 ∧ i = .int .i64 k ∧ Hid (x ∉ kws.take k) ∧ ∃ n, wr = w2.drewN n) (fun i _ => 17 - (intOf i).toNat)
  case atStart => exact ⟨0, by omega, rfl, by simp [Hid], 0, rfl⟩
  case round =>
    obtain ⟨k, hk, rfl, HN, n, rfl⟩ := hrel
    by_cases hlt : k < 17
    · obtain ⟨y, hy⟩ : ∃ y, kws[k]? = some y := ⟨_, List.getElem?_eq_getElem (show k < kws.length from hlt)⟩
      have hc : w2.cell? ⟨b, k, none⟩ = some (str y) := by rw [cell_of_blk (unhide HB)]; simp [hy]
      have HY := hide hy
      clear hy
      go_wp2
      case roundEnd =>
        rename_i hx
        go_roundw
        case rel =>
          refine ⟨k + 1, by omega, by go_num, ?_, n, rfl⟩
          show x ∉ _
          rw [take_snoc _ _ _ (unhide HY), List.mem_append]
          rintro (h | h)
          · exact unhide HN h
          · simp at h; simp [h] at hx
        case measure => simp [intOf]; omega
      rename_i hx
      go_ret
      refine ⟨ret_bool ?_, (unhide HK).drewN _⟩
      symm
      rw [decide_eq_true_iff]
      rw [beq_iff_eq] at hx
      rw [← hx]
      exact List.mem_of_getElem? (unhide HY)
    · go_wp2
      go_ret
      obtain rfl : k = 17 := by omega
      exact ⟨ret_bool (by symm; rw [decide_eq_false_iff_not]; exact unhide HN), (unhide HK).drewN _⟩

/-- May a field be called so? -/
def nameB (x : Txt) : Bool := decide (x ≠ []) && decide (x.length ≤ 8) && !(match x[0]? with
  | some c => decide (48 ≤ num c) && decide (num c ≤ 57)
  | none => false) && x.all (fun c => partB (num c)) && !decide (x ∈ kws)

set_option maxRecDepth 100000 in
theorem name_any (x : Txt) (w : World) : Calls Tryz.prog 58 #[str x] w fun e w' => e = .returned (.bool (nameB x)) ∧ Keeps (fun _ => False) w w' := by
  cases h : x[0]? with
  | none =>
    obtain rfl : x = [] := List.eq_nil_of_length_eq_zero (by have := get_ge h; omega)
    go_enter Tryz.func58, Tryz.ntmps58
    go_wp2
    go_ret
    exact ⟨rfl, Keeps.refl _ _⟩
  | some c =>
    have h1 := get_lt h
    have q := str_at h
    have e1 : (c.toNat : Int) = num c := rfl
    have hx : (x == []) = false := by cases x <;> simp_all
    have HX : Hid (x ≠ []) := by rintro rfl; simp at h1
    have HH := hide h
    clear h
    by_cases hl : (8 : Int) < (x.length : Int)
    · go_enter Tryz.func58, Tryz.ntmps58
      go_wp2
      go_ret
      exact ⟨ret_bool (by unfold nameB; rw [show decide (x.length ≤ 8) = false from decide_eq_false (by omega)]; simp), Keeps.refl _ _⟩
    have hl2 : (x.length : Int) ≤ 8 := by omega
    by_cases hd : 48 ≤ num c ∧ num c ≤ 57
    · obtain ⟨hd1, hd2⟩ := hd
      have HN : Hid (nameB x = false) := by show _ = _; unfold nameB; rw [unhide HH]; simp [hd1, hd2]
      go_enter Tryz.func58, Tryz.ntmps58
      go_wp2
      go_ret
      exact ⟨ret_bool (unhide HN).symm, Keeps.refl _ _⟩
    have HN : Hid (nameB x = (x.all (fun c => partB (num c)) && !decide (x ∈ kws))) := by
      show _ = _
      unfold nameB
      rw [unhide HH, show decide (x ≠ []) = true from decide_eq_true (unhide HX), show decide (x.length ≤ 8) = true from decide_eq_true (by omega)]
      have : (decide (48 ≤ num c) && decide (num c ≤ 57)) = false := by
        apply Bool.eq_false_iff.2
        simp only [ne_eq, Bool.and_eq_true, decide_eq_true_eq]
        exact hd
      simp [this]
    have HD := hide hd
    clear hd HX
    go_enter Tryz.func58, Tryz.ntmps58
    go_wp2
    all_goals try (exfalso; have := unhide HD; clear HN HH; simp_all <;> omega)
    all_goals
      clear HH HD q e1
      go_loopw [3] (fun i wr => ∃ k : Nat, k ≤ x.length ∧ i = .int .i64 k ∧ Hid ((x.take k).all (fun c => partB (num c)) = true) ∧ wr = w) (fun i _ => x.length - (intOf i).toNat)
      case atStart => exact ⟨0, by omega, rfl, by simp [Hid], rfl⟩
      case round =>
        obtain ⟨k, hk, rfl, HS, rfl⟩ := hrel
        cases h : x[k]? with
        | none =>
          have h1 := get_ge h
          obtain rfl : k = x.length := by omega
          go_wp2_with fail
          refine (keyword_any x wr).mono ?_
          rintro e w1 ⟨rfl, hk1⟩
          have HK := hide hk1
          clear hk1
          go_wp2
          go_ret
          refine ⟨ret_bool ?_, unhide HK⟩
          rw [unhide HN]
          have := unhide HS
          rw [List.take_length] at this
          rw [this]; rfl
        | some y =>
          have h1 := get_lt h
          have q := str_at h
          have HY := hide h
          clear h
          have e1 : (y.toNat : Int) = num y := rfl
          go_wp2_with fail
          refine (part_any (num y) wr).mono ?_
          rintro e w1 ⟨rfl, rfl⟩
          cases hp : partB (num y) with
          | true =>
            go_wp2
            go_roundw
            case rel =>
              refine ⟨k + 1, by omega, by go_num, ?_, trivial⟩
              show _ = true
              rw [take_snoc _ _ _ (unhide HY), List.all_append, unhide HS]
              simp [hp]
            case measure => simp [intOf]; omega
          | false =>
            go_wp2
            go_ret
            refine ⟨ret_bool ?_, Keeps.refl _ _⟩
            rw [unhide HN]
            have : x.all (fun c => partB (num c)) = false := by
              rw [List.all_eq_false]
              exact ⟨y, List.mem_of_getElem? (unhide HY), by simp [hp]⟩
            rw [this]; rfl

/-- The byte at a place (0 beyond the end). -/
def nth (t : Txt) (k : Nat) : Int := num (t.getD k 0)
end Go.Proofs.YtoempeobaknkcaaGreatDoor
namespace Go.Proofs.YtoempeobaknkcaaGreatDoor
open Go.RowKit Go.Maps

def digitB (c : Int) : Bool := decide (48 ≤ c) && decide (c ≤ 57)

set_option maxRecDepth 100000 in
theorem digit_any (c : Int) (w : World) : Calls Tryz.prog 66 #[.int .u8 c] w fun e w' => e = .returned (.bool (digitB c)) ∧ w' = w := by
  go_enter Tryz.func66, Tryz.ntmps66
  go_wp2
  all_goals (go_ret; refine ⟨ret_bool ?_, rfl⟩; apply Bool.eq_iff_iff.2; simp [digitB] at *; try omega)

set_option maxRecDepth 100000 in
theorem inRun_any (c : Int) (w : World) : Calls Tryz.prog 91 #[.int .u8 c] w fun e w' => e = .returned (.bool (partB c)) ∧ w' = w := by
  have HQ := hide (digit_any c w)
  go_enter Tryz.func91, Tryz.ntmps91
  go_wp2_with (go_at_call 66; refine (unhide HQ).mono ?_; rintro e w' ⟨rfl, rfl⟩)
  all_goals (go_ret; refine ⟨ret_bool ?_, rfl⟩; apply Bool.eq_iff_iff.2; simp [partB, digitB] at *; try omega)

set_option maxRecDepth 100000 in
set_option maxHeartbeats 1000000 in
theorem keyword_v (x : Txt) (w : World) : Calls Tryz.prog 68 #[str x] w fun e w' => e = .returned (.bool (decide (x ∈ kws))) ∧ w' = w := by
  go_enter Tryz.func68, Tryz.ntmps68
  go_wp2
  all_goals (go_ret; refine ⟨ret_bool ?_, rfl⟩; simp_all [kws])

end Go.Proofs.YtoempeobaknkcaaGreatDoor
namespace Go.Proofs.YtoempeobaknkcaaGreatDoor
open Go.RowKit Go.Maps

def fcs (l : List FieldA) : List Value := l.flatMap FieldA.cs
def vcs (l : List ValA) : List Value := l.flatMap ValA.cs
theorem flat_get {α : Type} (g : α → List Value) (hg : ∀ x, (g x).length = 3) : ∀ (l : List α) (i : Nat) (x : α) (j : Nat), l[i]? = some x → j < 3 → (l.flatMap g)[i * 3 + j]? = (g x)[j]?
  | [], i, x, j, h, _ => by simp at h
  | y :: r, 0, x, j, h, hj => by
    simp at h; subst h
    simp only [List.flatMap_cons, Nat.zero_mul, Nat.zero_add]
    rw [List.getElem?_append_left (by rw [hg]; exact hj)]
  | y :: r, i + 1, x, j, h, hj => by
    simp only [List.flatMap_cons]
    rw [List.getElem?_append_right (by rw [hg]; omega), hg, show (i + 1) * 3 + j - 3 = i * 3 + j by omega]
    exact flat_get g hg r i x j (by simpa using h) hj
theorem flat_length {α : Type} (g : α → List Value) (hg : ∀ x, (g x).length = 3) : ∀ l : List α, (l.flatMap g).length = l.length * 3
  | [] => rfl
  | x :: r => by simp only [List.flatMap_cons, List.length_append, List.length_cons, hg, flat_length g hg r]; omega
theorem fcs_length (l : List FieldA) : (fcs l).length = l.length * 3 := flat_length _ (fun _ => rfl) l
theorem vcs_length (l : List ValA) : (vcs l).length = l.length * 3 := flat_length _ (fun _ => rfl) l

/-- Fields, values, bytes in a slice. -/
def FldsAt (w : World) (v : Value) (l : List FieldA) : Prop := RowAt w v l.length (fcs l)
def ValsAt (w : World) (v : Value) (l : List ValA) : Prop := RowAt w v l.length (vcs l)
def BytesAt (w : World) (v : Value) (l : Txt) : Prop := RowAt w v l.length (bs l)

theorem FldsAt.cells {w : World} {v : Value} {l : List FieldA} (h : FldsAt w v l) (h0 : 0 < l.length) :
    ∃ b off cap, v = .slice (some ⟨b, off, none⟩) l.length cap ∧ b < w.heap.size ∧ ∀ i f, l[i]? = some f → w.cell? ⟨b, off + i * 3, none⟩ = some (str f.name) ∧ w.cell? ⟨b, off + i * 3 + 1, none⟩ = some (.int .i64 f.type) ∧ w.cell? ⟨b, off + i * 3 + 2, none⟩ = some (.bool f.opt) := by
  obtain ⟨b, off, cap, e, hb, hc⟩ := RowAt.cells h h0
  refine ⟨b, off, cap, e, hb, fun i f hf => ?_⟩
  have k := fun j hj => flat_get FieldA.cs (fun _ => rfl) l i f j hf hj
  have k0 := hc (i * 3 + 0) (str f.name) (k 0 (by omega))
  have k1 := hc (i * 3 + 1) (.int .i64 f.type) (k 1 (by omega))
  have k2 := hc (i * 3 + 2) (.bool f.opt) (k 2 (by omega))
  exact ⟨k0, k1, k2⟩
theorem ValsAt.cells {w : World} {v : Value} {l : List ValA} (h : ValsAt w v l) (h0 : 0 < l.length) :
    ∃ b off cap, v = .slice (some ⟨b, off, none⟩) l.length cap ∧ b < w.heap.size ∧ ∀ i f, l[i]? = some f → w.cell? ⟨b, off + i * 3, none⟩ = some (.int .i64 f.kind) ∧ w.cell? ⟨b, off + i * 3 + 1, none⟩ = some (.int .i64 f.n) ∧ w.cell? ⟨b, off + i * 3 + 2, none⟩ = some (str f.s) := by
  obtain ⟨b, off, cap, e, hb, hc⟩ := RowAt.cells h h0
  refine ⟨b, off, cap, e, hb, fun i f hf => ?_⟩
  have k := fun j hj => flat_get ValA.cs (fun _ => rfl) l i f j hf hj
  have k0 := hc (i * 3 + 0) (.int .i64 f.kind) (k 0 (by omega))
  have k1 := hc (i * 3 + 1) (.int .i64 f.n) (k 1 (by omega))
  have k2 := hc (i * 3 + 2) (str f.s) (k 2 (by omega))
  exact ⟨k0, k1, k2⟩

/-- How many optional fields there are. -/
def opts (l : List FieldA) : Nat := (l.filter FieldA.opt).length
def headB (l : List FieldA) : Nat := (opts l + 7) / 8
theorem opts_snoc (l : List FieldA) (f : FieldA) : opts (l ++ [f]) = opts l + (if f.opt then 1 else 0) := by
  unfold opts
  rw [List.filter_append, List.length_append]
  cases h : f.opt <;> simp [h]
theorem opts_le (l : List FieldA) : opts l ≤ l.length := List.length_filter_le _ _

theorem FldsAt.keepF {w w' : World} {v : Value} {l : List FieldA} (h : FldsAt w v l) (hk : Keeps (fun _ => False) w w') : FldsAt w' v l := RowAt.keepF h hk
theorem ValsAt.keepF {w w' : World} {v : Value} {l : List ValA} (h : ValsAt w v l) (hk : Keeps (fun _ => False) w w') : ValsAt w' v l := RowAt.keepF h hk
theorem BytesAt.keepF {w w' : World} {v : Value} {l : Txt} (h : BytesAt w v l) (hk : Keeps (fun _ => False) w w') : BytesAt w' v l := RowAt.keepF h hk

/-- A new block: what holds of it, whatever comes behind. -/
theorem boxed (w : World) (c : Array Value) (t : TypeId) : Hid (Keeps (fun _ => False) w (w.alloc (.cells c t))) ∧ w.heap.size < (w.alloc (.cells c t)).heap.size ∧ ∀ j x, c[j]? = some x → (w.alloc (.cells c t)).cell? ⟨w.heap.size, j, none⟩ = some x :=
  ⟨(Keeps.refl _ _).alloc _, by simp, fun j x hx => by rw [cell_of_blk (heap_alloc_new w _)]; exact hx⟩

set_option maxRecDepth 100000 in
set_option maxHeartbeats 1000000 in
theorem head_any (l : List FieldA) (v : Value) (w : World) (h : FldsAt w v l) (hl : l.length ≤ 1099511627776) :
    Calls Tryz.prog 85 #[.agg #[v]] w fun e w' => e = .returned (.int .i64 (headB l)) ∧ Keeps (fun _ => False) w w' := by
  obtain ⟨ao, cap, rfl⟩ := RowAt.form h
  have HF := hide h
  clear h
  go_enter Tryz.func85, Tryz.ntmps85
  go_wp2
  obtain ⟨HB, hb, hbc⟩ := boxed w #[.slice ao l.length cap] 24
  have hp := hbc 0 (.slice ao l.length cap) rfl
  have HF2 := hide ((unhide HF).keepF (unhide HB))
  clear hbc HF
  generalize w.alloc (.cells #[.slice ao l.length cap] 24) = w2 at *
  generalize w.heap.size = sb at *
  go_loopw [3, 4] (fun n i wr => ∃ k : Nat, k ≤ l.length ∧ i = .int .i64 k ∧ n = .int .i64 (opts (l.take k)) ∧ Keeps (fun _ => False) w2 wr) (fun _ i _ => l.length - (intOf i).toNat)
  case atStart => exact ⟨0, Nat.zero_le _, rfl, rfl, Keeps.refl _ _⟩
  case round =>
    obtain ⟨k, hk, rfl, rfl, hkp⟩ := hrel
    have hp' := (hkp.cell (o := 0) hb id).trans hp
    have HK := hide hkp
    have ho := opts_le (l.take k)
    rw [List.length_take] at ho
    cases h : l[k]? with
    | none =>
      have h1 := get_ge h
      obtain rfl : k = l.length := by omega
      clear hkp h h1
      rw [List.take_length] at *
      go_wp2
      go_ret
      exact ⟨ret_int (by unfold headB; omega), (unhide HB).trans (unhide HK)⟩
    | some f =>
      have h1 := get_lt h
      obtain ⟨b, off, c, e, hbl, hc⟩ := (unhide HF2).cells (by omega)
      simp at e
      obtain ⟨rfl, rfl⟩ := e
      have c2 := (hkp.cell hbl id).trans (hc k f h).2.2
      have HO : Hid (opts (l.take (k + 1)) = opts (l.take k) + (if f.opt then 1 else 0)) := by show _ = _; rw [take_snoc _ _ _ h, opts_snoc]
      generalize opts (l.take k) = o at *
      clear hkp h hc
      cases hfo : f.opt with
      | true =>
        rw [hfo] at c2 HO
        go_wp2
        go_roundw
        case rel => exact ⟨k + 1, by omega, by go_num, by rw [unhide HO]; go_num, unhide HK⟩
        case measure => simp [intOf]; omega
      | false =>
        rw [hfo] at c2 HO
        go_wp2
        go_roundw
        case rel => exact ⟨k + 1, by omega, by go_num, by rw [unhide HO]; go_num, unhide HK⟩
        case measure => simp [intOf]; omega

end Go.Proofs.YtoempeobaknkcaaGreatDoor
