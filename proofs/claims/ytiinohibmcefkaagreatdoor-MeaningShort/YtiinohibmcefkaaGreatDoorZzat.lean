import Derived.Test.YtiinohibmcefkaaGreatDoorProg
import Derived.WalkKit
import Derived.WalkSpells
import Derived.WalkLawsBesides
import Derived.Laws.CopyOwn
import Derived.Maps.OwnSet
import Derived.Deep.AppendLies
import Derived.BigQuiet
import Derived.Deep.QuietTactic
import Derived.Deep.RegionHeld3
import Derived.Laws.IdiomStrings
namespace Go.Proofs.YtiinohibmcefkaaGreatDoor
open Go.RowKit Go.Maps

theorem ret_int {k : IntKind} {a b : Int} (h : a = b) : Ending.returned (.int k a) = .returned (.int k b) := by rw [h]
theorem ret_bool {a b : Bool} (h : a = b) : Ending.returned (.bool a) = .returned (.bool b) := by rw [h]
theorem hide {p : Prop} (h : p) : Hid p := h
theorem unhide {p : Prop} (h : Hid p) : p := h

/-- All blocks that are there and are not named by F hold what they held. -/
structure Keeps (F : Nat → Prop) (w w' : World) : Prop where
  os : w'.os = w.os
  tape : w'.tape = w.tape
  output : w'.output = w.output
  size : w.heap.size ≤ w'.heap.size
  block : ∀ k, k < w.heap.size → ¬ F k → w'.heap[k]? = w.heap[k]?

theorem Keeps.refl (F : Nat → Prop) (w : World) : Keeps F w w := ⟨rfl, rfl, rfl, Nat.le_refl _, fun _ _ _ => rfl⟩
theorem Keeps.trans {F : Nat → Prop} {a b c : World} (h : Keeps F a b) (k : Keeps F b c) : Keeps F a c :=
  ⟨k.os.trans h.os, k.tape.trans h.tape, k.output.trans h.output, Nat.le_trans h.size k.size, fun i hi hF => (k.block i (Nat.lt_of_lt_of_le hi h.size) hF).trans (h.block i hi hF)⟩
theorem Keeps.mono {F G : Nat → Prop} {a b : World} (h : Keeps F a b) (hFG : ∀ k, k < a.heap.size → F k → G k) : Keeps G a b :=
  ⟨h.os, h.tape, h.output, h.size, fun k hk hG => h.block k hk (fun hf => hG (hFG k hk hf))⟩
theorem Keeps.any {G : Nat → Prop} {a b : World} (h : Keeps (fun _ => False) a b) : Keeps G a b := h.mono (fun _ _ f => f.elim)
theorem Keeps.drew {F : Nat → Prop} {a b : World} (h : Keeps F a b) : Keeps F a b.drew := ⟨h.os, h.tape, h.output, h.size, h.block⟩
theorem drewN_os (w : World) : ∀ n, (w.drewN n).os = w.os ∧ (w.drewN n).tape = w.tape ∧ (w.drewN n).output = w.output ∧ (w.drewN n).heap = w.heap
  | 0 => ⟨rfl, rfl, rfl, rfl⟩
  | n + 1 => by
    have := drewN_os w.drew n
    exact this
theorem Keeps.drewN {F : Nat → Prop} {a b : World} (h : Keeps F a b) (n : Nat) : Keeps F a (b.drewN n) := by
  obtain ⟨h1, h2, h3, h4⟩ := drewN_os b n
  exact ⟨h1.trans h.os, h2.trans h.tape, h3.trans h.output, by rw [h4]; exact h.size, by rw [h4]; exact h.block⟩
theorem Keeps.alloc {F : Nat → Prop} {a b : World} (h : Keeps F a b) (o : Obj) : Keeps F a (b.alloc o) :=
  h.trans ⟨rfl, rfl, rfl, by simp, fun k hk _ => Below.heap_alloc _ _ _ hk⟩
theorem Keeps.setCell {F : Nat → Prop} {a b : World} (h : Keeps F a b) {p : Addr} (hp : p.block < a.heap.size → F p.block) (u : Value) : Keeps F a (b.setCell p u) :=
  ⟨h.os, h.tape, h.output, by simpa using h.size, fun k hk hF => by
    have hne : k ≠ p.block := fun e => hF (by rw [e]; exact hp (by rw [← e]; exact hk))
    rw [Below.heap_setCell _ _ _ _ hne]; exact h.block k hk hF⟩
theorem Keeps.grown {F : Nat → Prop} {a b c : World} {row : Option Nat} (h : Keeps F a b) (hg : b.grownBy c row) (hr : ∀ k, row = some k → k < a.heap.size → F k) : Keeps F a c :=
  ⟨hg.os.trans h.os, hg.tape.trans h.tape, hg.output.trans h.output, Nat.le_trans h.size hg.size, fun k hk hF => by
    rw [hg.block k (Nat.lt_of_lt_of_le hk h.size) (fun e => hF (hr k e.symm hk))]; exact h.block k hk hF⟩
theorem Keeps.below {F : Nat → Prop} {a b : World} (h : Keeps F a b) {B : Nat} (hB : B ≤ a.heap.size) (hF : ∀ k, F k → B ≤ k) : Below B a b :=
  ⟨h.os, h.tape, h.output, h.size, fun k hk => h.block k (by omega) (fun f => by have := hF k f; omega)⟩
theorem Keeps.cell {F : Nat → Prop} {a b : World} (h : Keeps F a b) {k o : Nat} (hk : k < a.heap.size) (hF : ¬ F k) : b.cell? ⟨k, o, none⟩ = a.cell? ⟨k, o, none⟩ :=
  World.cell?_of_block (w := a) (h.block k hk hF)

theorem heap_setCell_at {w : World} {b o : Nat} {c : Array Value} {t : TypeId} {fr : Nat × Nat} (h : w.heap[b]? = some (.cells c t fr)) (v : Value) :
    (w.setCell ⟨b, o, none⟩ v).heap[b]? = some (.cells (c.setIfInBounds o v) t fr) := by
  simp [World.setCell, Array.getElem?_modify, h]
theorem lt_of_block {w : World} {b : Nat} {o : Obj} (h : w.heap[b]? = some o) : b < w.heap.size := (Array.getElem?_eq_some_iff.1 h).1
theorem cell_of_blk {w : World} {b : Nat} {c : Array Value} {t : TypeId} {fr : Nat × Nat} (h : w.heap[b]? = some (.cells c t fr)) (o : Nat) : w.cell? ⟨b, o, none⟩ = c[o]? := by
  simp [World.cell?, h]
theorem frozen_of_blk {w : World} {b : Nat} {c : Array Value} {t : TypeId} (h : w.heap[b]? = some (.cells c t (0, 0))) (o : Nat) : w.frozen? ⟨b, o, none⟩ = false := by
  simp [World.frozen?, h]


theorem Keeps.then {F G : Nat → Prop} {a b c : World} (h : Keeps G a b) (k : Keeps F b c) (hF : ∀ i, i < a.heap.size → F i → G i) : Keeps G a c :=
  ⟨k.os.trans h.os, k.tape.trans h.tape, k.output.trans h.output, Nat.le_trans h.size k.size, fun i hi hG => (k.block i (Nat.lt_of_lt_of_le hi h.size) (fun f => hG (hF i hi f))).trans (h.block i hi hG)⟩
theorem keeps_drewN (w : World) (n : Nat) : Keeps (fun _ => False) w (w.drewN n) := (Keeps.refl _ w).drewN n

theorem take_snoc {α : Type} (ws : List α) (k : Nat) (x : α) (h : ws[k]? = some x) : ws.take (k + 1) = ws.take k ++ [x] := by
  obtain ⟨hk, rfl⟩ := List.getElem?_eq_some_iff.1 h
  rw [List.take_succ_eq_append_getElem hk]

/-- A text. -/
abbrev Txt := List UInt8
abbrev str (l : Txt) : Value := .string ⟨l.toArray⟩
/-- A byte's number. -/
def num (c : UInt8) : Int := (c.toNat : Int)
/-- A slice of n elements whose cells read as xs. -/
structure RowAt (w : World) (v : Value) (n : Nat) (xs : List Value) : Prop where
  form : ∃ ao cap, v = .slice ao n cap
  cells : 0 < n → ∃ b off cap, v = .slice (some ⟨b, off, none⟩) n cap ∧ b < w.heap.size ∧ ∀ j x, xs[j]? = some x → w.cell? ⟨b, off + j, none⟩ = some x
  room : ∀ ao m cap, v = .slice ao m cap → m ≤ cap

theorem RowAt.kept {w w' : World} {v : Value} {n : Nat} {l : List Value} (h : RowAt w v n l) {F : Nat → Prop} (hk : Keeps F w w') (hF : ∀ k, v.ownBlock = some k → ¬ F k) : RowAt w' v n l := by
  refine ⟨h.form, fun h0 => ?_, h.room⟩
  obtain ⟨b, off, cap, e, hb, hc⟩ := h.cells h0
  refine ⟨b, off, cap, e, Nat.lt_of_lt_of_le hb hk.size, fun j x hx => ?_⟩
  rw [hk.cell hb (hF b (by rw [e]; rfl))]
  exact hc j x hx
theorem RowAt.keepF {w w' : World} {v : Value} {n : Nat} {l : List Value} (h : RowAt w v n l) (hk : Keeps (fun _ => False) w w') : RowAt w' v n l := h.kept hk (fun _ _ => id)
theorem rowAt_own {w : World} {B t z n : Nat} {v : Value} {l : List Value} (h : w.ownsRow B t z v n l) : RowAt w v n l := by
  obtain ⟨hl, hh⟩ := h
  rcases hh with ⟨hv, hn⟩ | ⟨g, cap, cur, hv, hb, hg, h1, h2, h3, h4⟩
  · exact ⟨⟨none, 0, by rw [hn]; exact hv⟩, fun h0 => by omega, fun ao m cap e => by rw [hv] at e; simp at e; omega⟩
  · refine ⟨⟨_, _, hv⟩, fun _ => ⟨g, 0, cap, hv, lt_of_block hg, fun j x hx => ?_⟩, fun ao m cap' e => by rw [hv] at e; simp at e; omega⟩
    rw [cell_of_blk hg]
    rw [← h4, List.getElem?_take] at hx
    split at hx
    · simpa using hx
    · cases hx

end Go.Proofs.YtiinohibmcefkaaGreatDoor
namespace Go.Proofs.YtiinohibmcefkaaGreatDoor
open Go.RowKit Go.Maps

/-- May the byte stand in a name? -/
def partB (c : Int) : Bool := decide (97 ≤ c) && decide (c ≤ 122) || decide (65 ≤ c) && decide (c ≤ 90) || decide (48 ≤ c) && decide (c ≤ 57) || decide (c = 95)

/-- The width of a field of a type, -1 if there is no such type. -/
def wideB (t : Int) : Int := if t = 1 then 10 else if t = 2 then 1 else if t = 3 then 21 else -1

structure FieldA where
  name : Txt
  type : Int
  opt : Bool
deriving DecidableEq
structure ValA where
  kind : Int
  n : Int
  s : Txt
deriving DecidableEq
def FieldA.v (f : FieldA) : Value := .agg #[str f.name, .int .i64 f.type, .bool f.opt]
def ValA.v (x : ValA) : Value := .agg #[.int .i64 x.kind, .int .i64 x.n, str x.s]
def FieldA.cs (f : FieldA) : List Value := [str f.name, .int .i64 f.type, .bool f.opt]
def ValA.cs (x : ValA) : List Value := [.int .i64 x.kind, .int .i64 x.n, str x.s]

def zeroV (f : FieldA) : ValA := if f.opt then ⟨0, 0, []⟩ else ⟨f.type, 0, []⟩

/-- Does the value fit the field? -/
def fitsB (f : FieldA) (v : ValA) : Bool :=
  if v.kind = 0 then f.opt && decide (v.n = 0) && decide (v.s = [])
  else if v.kind ≠ f.type then false
  else if v.kind = 1 then decide (v.s = [])
  else if v.kind = 2 then (decide (v.n = 0) || decide (v.n = 1)) && decide (v.s = [])
  else if v.kind = 3 then decide (v.n = 0) && decide (v.s.length ≤ 20)
  else false

theorem str_at {t : Txt} {k : Nat} {c : UInt8} (h : t[k]? = some c) : ∀ hk, (ByteArray.mk t.toArray)[k]'hk = c := by
  intro hk
  obtain ⟨_, rfl⟩ := List.getElem?_eq_some_iff.1 h
  rfl
theorem get_lt {α : Type} {t : List α} {k : Nat} {c : α} (h : t[k]? = some c) : k < t.length := (List.getElem?_eq_some_iff.1 h).1
theorem get_ge {α : Type} {t : List α} {k : Nat} (h : t[k]? = none) : t.length ≤ k := List.getElem?_eq_none_iff.1 h

end Go.Proofs.YtiinohibmcefkaaGreatDoor
namespace Go.Proofs.YtiinohibmcefkaaGreatDoor
open Go.RowKit Go.Maps

/-- The place of the first byte, from a on, of which p does not hold. -/
def scan (t : Txt) (p : UInt8 → Bool) (a : Nat) : Nat := a + ((t.drop a).takeWhile p).length
theorem scan_none {t : Txt} {p : UInt8 → Bool} {a : Nat} (h : t[a]? = none) : scan t p a = a := by
  have := get_ge h
  simp [scan, List.drop_eq_nil_of_le this]
theorem drop_at {α : Type} {t : List α} {a : Nat} {c : α} (h : t[a]? = some c) : t.drop a = c :: t.drop (a + 1) := by
  obtain ⟨ha, rfl⟩ := List.getElem?_eq_some_iff.1 h
  rw [List.drop_eq_getElem_cons ha]
theorem scan_stop {t : Txt} {p : UInt8 → Bool} {a : Nat} {c : UInt8} (h : t[a]? = some c) (hp : p c = false) : scan t p a = a := by
  simp [scan, drop_at h, hp]
theorem scan_go {t : Txt} {p : UInt8 → Bool} {a : Nat} {c : UInt8} (h : t[a]? = some c) (hp : p c = true) : scan t p a = scan t p (a + 1) := by
  simp [scan, drop_at h, hp]; omega
def kws : List Txt := [[97, 110, 100], [99, 97, 116], [99, 108, 101, 97, 114], [100, 101, 108, 101, 116, 101], [101, 108, 115, 101], [102, 97, 108, 115, 101], [104, 97, 115], [104, 101, 114, 101], [105, 102], [108, 101, 110], [109, 97, 120], [109, 105, 110], [110, 101, 119], [110, 111, 116], [111, 114], [112, 105, 99, 107], [116, 114, 117, 101]]

/-- May a field be called so? -/
def nameB (x : Txt) : Bool := decide (x ≠ []) && decide (x.length ≤ 8) && !(match x[0]? with
  | some c => decide (48 ≤ num c) && decide (num c ≤ 57)
  | none => false) && x.all (fun c => partB (num c)) && !decide (x ∈ kws)

end Go.Proofs.YtiinohibmcefkaaGreatDoor
namespace Go.Proofs.YtiinohibmcefkaaGreatDoor
open Go.RowKit Go.Maps

def fcs (l : List FieldA) : List Value := l.flatMap FieldA.cs
def vcs (l : List ValA) : List Value := l.flatMap ValA.cs
theorem flat_get {α : Type} (g : α → List Value) (hg : ∀ x, (g x).length = 3) : ∀ (l : List α) (i : Nat) (x : α) (j : Nat), l[i]? = some x → j < 3 → (l.flatMap g)[i * 3 + j]? = (g x)[j]?
  | [], i, x, j, h, _ => by simp at h
  | y :: r, 0, x, j, h, hj => by
    simp at h; subst h
    simp only [List.flatMap_cons, Nat.zero_mul, Nat.zero_add]
    rw [List.getElem?_append_left (by rw [hg]; exact hj)]
  | y :: r, i + 1, x, j, h, hj => by
    simp only [List.flatMap_cons]
    rw [List.getElem?_append_right (by rw [hg]; omega), hg, show (i + 1) * 3 + j - 3 = i * 3 + j by omega]
    exact flat_get g hg r i x j (by simpa using h) hj
theorem flat_length {α : Type} (g : α → List Value) (hg : ∀ x, (g x).length = 3) : ∀ l : List α, (l.flatMap g).length = l.length * 3
  | [] => rfl
  | x :: r => by simp only [List.flatMap_cons, List.length_append, List.length_cons, hg, flat_length g hg r]; omega
theorem vcs_length (l : List ValA) : (vcs l).length = l.length * 3 := flat_length _ (fun _ => rfl) l

/-- Fields, values, bytes in a slice. -/
def FldsAt (w : World) (v : Value) (l : List FieldA) : Prop := RowAt w v l.length (fcs l)
def ValsAt (w : World) (v : Value) (l : List ValA) : Prop := RowAt w v l.length (vcs l)
theorem FldsAt.cells {w : World} {v : Value} {l : List FieldA} (h : FldsAt w v l) (h0 : 0 < l.length) :
    ∃ b off cap, v = .slice (some ⟨b, off, none⟩) l.length cap ∧ b < w.heap.size ∧ ∀ i f, l[i]? = some f → w.cell? ⟨b, off + i * 3, none⟩ = some (str f.name) ∧ w.cell? ⟨b, off + i * 3 + 1, none⟩ = some (.int .i64 f.type) ∧ w.cell? ⟨b, off + i * 3 + 2, none⟩ = some (.bool f.opt) := by
  obtain ⟨b, off, cap, e, hb, hc⟩ := RowAt.cells h h0
  refine ⟨b, off, cap, e, hb, fun i f hf => ?_⟩
  have k := fun j hj => flat_get FieldA.cs (fun _ => rfl) l i f j hf hj
  have k0 := hc (i * 3 + 0) (str f.name) (k 0 (by omega))
  have k1 := hc (i * 3 + 1) (.int .i64 f.type) (k 1 (by omega))
  have k2 := hc (i * 3 + 2) (.bool f.opt) (k 2 (by omega))
  exact ⟨k0, k1, k2⟩
theorem ValsAt.cells {w : World} {v : Value} {l : List ValA} (h : ValsAt w v l) (h0 : 0 < l.length) :
    ∃ b off cap, v = .slice (some ⟨b, off, none⟩) l.length cap ∧ b < w.heap.size ∧ ∀ i f, l[i]? = some f → w.cell? ⟨b, off + i * 3, none⟩ = some (.int .i64 f.kind) ∧ w.cell? ⟨b, off + i * 3 + 1, none⟩ = some (.int .i64 f.n) ∧ w.cell? ⟨b, off + i * 3 + 2, none⟩ = some (str f.s) := by
  obtain ⟨b, off, cap, e, hb, hc⟩ := RowAt.cells h h0
  refine ⟨b, off, cap, e, hb, fun i f hf => ?_⟩
  have k := fun j hj => flat_get ValA.cs (fun _ => rfl) l i f j hf hj
  have k0 := hc (i * 3 + 0) (.int .i64 f.kind) (k 0 (by omega))
  have k1 := hc (i * 3 + 1) (.int .i64 f.n) (k 1 (by omega))
  have k2 := hc (i * 3 + 2) (str f.s) (k 2 (by omega))
  exact ⟨k0, k1, k2⟩

/-- How many optional fields there are. -/
def opts (l : List FieldA) : Nat := (l.filter FieldA.opt).length
def headB (l : List FieldA) : Nat := (opts l + 7) / 8
theorem opts_snoc (l : List FieldA) (f : FieldA) : opts (l ++ [f]) = opts l + (if f.opt then 1 else 0) := by
  unfold opts
  rw [List.filter_append, List.length_append]
  cases h : f.opt <;> simp [h]
theorem opts_le (l : List FieldA) : opts l ≤ l.length := List.length_filter_le _ _

theorem FldsAt.keepF {w w' : World} {v : Value} {l : List FieldA} (h : FldsAt w v l) (hk : Keeps (fun _ => False) w w') : FldsAt w' v l := RowAt.keepF h hk
theorem ValsAt.keepF {w w' : World} {v : Value} {l : List ValA} (h : ValsAt w v l) (hk : Keeps (fun _ => False) w w') : ValsAt w' v l := RowAt.keepF h hk
/-- A new block: what holds of it, whatever comes behind. -/
theorem boxed (w : World) (c : Array Value) (t : TypeId) : Hid (Keeps (fun _ => False) w (w.alloc (.cells c t))) ∧ w.heap.size < (w.alloc (.cells c t)).heap.size ∧ ∀ j x, c[j]? = some x → (w.alloc (.cells c t)).cell? ⟨w.heap.size, j, none⟩ = some x :=
  ⟨(Keeps.refl _ _).alloc _, by simp, fun j x hx => by rw [cell_of_blk (heap_alloc_new w _)]; exact hx⟩

end Go.Proofs.YtiinohibmcefkaaGreatDoor
namespace Go.Proofs.YtiinohibmcefkaaGreatDoor
open Go.RowKit Go.Maps

theorem Tryz.info41 : (Tryz.prog.info? 41).map (fun i => (i.zero, i.size, i.bytes)) = some (some (.agg #[.int .i64 0, .int .i64 0, .string ⟨#[]⟩]), 3, 32) := by kernel_rfl
end Go.Proofs.YtiinohibmcefkaaGreatDoor
namespace Go.Proofs.YtiinohibmcefkaaGreatDoor
open Go.RowKit Go.Maps

theorem take_succ_eq {α : Type} {a b : List α} {k : Nat} (h : a.take k = b.take k) {x : α} (ha : a[k]? = some x) (hb : b[k]? = some x) : a.take (k + 1) = b.take (k + 1) := by
  rw [take_snoc _ _ _ ha, take_snoc _ _ _ hb, h]
theorem take_end {α : Type} {a b : List α} (hl : a.length = b.length) {k : Nat} (hk : a.length ≤ k) (h : a.take k = b.take k) : a = b := by
  rwa [List.take_of_length_le hk, List.take_of_length_le (by omega)] at h
theorem get_ne {α : Type} {a b : List α} {k : Nat} {x y : α} (ha : a[k]? = some x) (hb : b[k]? = some y) (h : x ≠ y) : a ≠ b := by
  intro e
  rw [e, hb] at ha
  exact h (by simpa using ha.symm)

end Go.Proofs.YtiinohibmcefkaaGreatDoor
namespace Go.Proofs.YtiinohibmcefkaaGreatDoor
open Go.RowKit Go.Maps

theorem ownsRow_kept {w w' : World} {B e size n : Nat} {v : Value} {xs : List Value} (h : w.ownsRow B e size v n xs) {F : Nat → Prop} (hk : Keeps F w w') (hF : ∀ k, v.ownBlock = some k → ¬ F k) : w'.ownsRow B e size v n xs := by
  obtain ⟨h1, h2⟩ := h
  refine ⟨h1, ?_⟩
  rcases h2 with h2 | ⟨g, cap, cur, hv, hb, hg, rest⟩
  · exact Or.inl h2
  · exact Or.inr ⟨g, cap, cur, hv, hb, by rw [hk.block g (lt_of_block hg) (hF g (by rw [hv]; rfl))]; exact hg, rest⟩
theorem ownsRow_ne {w : World} {B e size n : Nat} {v : Value} {xs : List Value} (h : w.ownsRow B e size v n xs) {k : Nat} {c : Array Value} {t : TypeId} {fr : Nat × Nat} (hb : w.heap[k]? = some (.cells c t fr)) (ht : t ≠ e) : v.ownBlock ≠ some k := by
  rcases h.2 with ⟨hv, _⟩ | ⟨g, cap, cur, hv, _, hg, _⟩
  · rw [hv]; simp [Value.ownBlock]
  · rw [hv]
    simp only [Value.ownBlock, ne_eq, Option.some.injEq]
    rintro rfl
    rw [hb] at hg
    simp at hg
    exact ht hg.2.1
theorem ownsRow_lower {w : World} {B C e size n : Nat} {v : Value} {xs : List Value} (h : w.ownsRow B e size v n xs) (hC : C ≤ B) : w.ownsRow C e size v n xs := by
  obtain ⟨h1, h2⟩ := h
  refine ⟨h1, ?_⟩
  rcases h2 with h2 | ⟨g, cap, cur, hv, hb, rest⟩
  · exact Or.inl h2
  · exact Or.inr ⟨g, cap, cur, hv, Nat.le_trans hC hb, rest⟩
theorem Keeps.narrow {F : Nat → Prop} {a b c : World} (h : Keeps (fun _ => False) a b) (k : Keeps F b c) (hF : ∀ i, F i → a.heap.size ≤ i) : Keeps (fun _ => False) a c :=
  ⟨k.os.trans h.os, k.tape.trans h.tape, k.output.trans h.output, Nat.le_trans h.size k.size, fun i hi _ => (k.block i (Nat.lt_of_lt_of_le hi h.size) (fun f => by have := hF i f; omega)).trans (h.block i hi id)⟩

theorem keeps_set (w : World) (b o : Nat) (u : Value) : Keeps (fun q => q = b) w (w.setCell ⟨b, o, none⟩ u) :=
  (Keeps.refl (fun q => q = b) w).setCell (p := ⟨b, o, none⟩) (fun _ => rfl) u

end Go.Proofs.YtiinohibmcefkaaGreatDoor
namespace Go.Proofs.YtiinohibmcefkaaGreatDoor
open Go.RowKit Go.Maps

def wides (l : List FieldA) : Int := (l.map fun f => wideB f.type).sum
def widthB (l : List FieldA) : Int := headB l + wides l
theorem wides_snoc (l : List FieldA) (f : FieldA) : wides (l ++ [f]) = wides l + wideB f.type := by simp [wides, List.sum_append]
theorem wideB_range (t : Int) : -1 ≤ wideB t ∧ wideB t ≤ 21 := by unfold wideB; repeat' split
                                                                  all_goals omega
theorem wides_range : ∀ l : List FieldA, -(l.length : Int) ≤ wides l ∧ wides l ≤ 21 * (l.length : Int)
  | [] => by simp [wides]
  | f :: r => by
    have h1 := wides_range r
    have h2 := wideB_range f.type
    unfold wides at *
    simp only [List.map_cons, List.sum_cons, List.length_cons]
    omega
theorem headB_le (l : List FieldA) : headB l ≤ l.length := by
  unfold headB
  have := opts_le l
  rcases Nat.eq_zero_or_pos (opts l) with h | h
  · rw [h]; omega
  · omega

/-- May a schema be so? -/
def fieldOK (f : FieldA) : Bool := nameB f.name && decide (0 ≤ wideB f.type)
def schemaB (l : List FieldA) : Bool := decide (1 ≤ l.length) && decide (l.length ≤ 8) && l.all fieldOK && decide (l.map FieldA.name).Nodup && decide (widthB l ≤ 64)
def errS (l : List FieldA) : Int := if schemaB l then 0 else 60

end Go.Proofs.YtiinohibmcefkaaGreatDoor
namespace Go.Proofs.YtiinohibmcefkaaGreatDoor
open Go.RowKit Go.Maps

theorem errS_bad {l : List FieldA} (h : schemaB l = false) : errS l = 60 := by simp [errS, h]
theorem errS_good {l : List FieldA} (h : schemaB l = true) : errS l = 0 := by simp [errS, h]
theorem schemaB_name {l : List FieldA} {f : FieldA} (hm : f ∈ l) (h : fieldOK f = false) : schemaB l = false := by
  have : l.all fieldOK = false := List.all_eq_false.2 ⟨f, hm, by simp [h]⟩
  simp [schemaB, this]
theorem schemaB_twice {l : List FieldA} {i j : Nat} {f g : FieldA} (hi : l[i]? = some f) (hj : l[j]? = some g) (hij : j < i) (h : g.name = f.name) : schemaB l = false := by
  have : ¬ (l.map FieldA.name).Nodup := by
    intro hn
    have e1 : (l.map FieldA.name)[j]? = some g.name := by simp [hj]
    have e2 : (l.map FieldA.name)[i]? = some f.name := by simp [hi]
    obtain ⟨hjl, e1'⟩ := List.getElem?_eq_some_iff.1 e1
    obtain ⟨hil, e2'⟩ := List.getElem?_eq_some_iff.1 e2
    have := List.pairwise_iff_getElem.1 hn j i hjl hil hij
    exact this (by rw [e1', e2', h])
  simp [schemaB, this]
theorem schemaB_end {l : List FieldA} (h1 : 1 ≤ l.length) (h2 : l.length ≤ 8) (h3 : l.all fieldOK = true) (h4 : (l.map FieldA.name).Nodup) : schemaB l = decide (widthB l ≤ 64) := by
  unfold schemaB
  rw [h3, decide_eq_true h1, decide_eq_true h2, decide_eq_true h4]
  rfl
theorem nodup_snoc {l : List FieldA} {f : FieldA} (h : (l.map FieldA.name).Nodup) (hn : ∀ g ∈ l, g.name ≠ f.name) : ((l ++ [f]).map FieldA.name).Nodup := by
  rw [List.map_append, List.nodup_append]
  refine ⟨h, by simp, ?_⟩
  intro a ha b hb
  obtain ⟨g, hg, rfl⟩ := List.mem_map.1 ha
  simp at hb
  subst hb
  exact hn g hg

end Go.Proofs.YtiinohibmcefkaaGreatDoor
namespace Go.Proofs.YtiinohibmcefkaaGreatDoor
open Go.RowKit Go.Maps

/-- Is it a record of the fields? -/
def fitAll (l : List FieldA) (r : List ValA) : Bool := (l.zip r).all fun p => fitsB p.1 p.2
def recB (l : List FieldA) (r : List ValA) : Bool := decide (r.length = l.length) && fitAll l r
def errR (l : List FieldA) (r : List ValA) : Int := if schemaB l then (if recB l r then 0 else 61) else 60

theorem zip_get {l : List FieldA} {r : List ValA} {k : Nat} {f : FieldA} {x : ValA} (h : l[k]? = some f) (g : r[k]? = some x) : (l.zip r)[k]? = some (f, x) := by
  simp [List.getElem?_zip_eq_some, h, g]
theorem schemaB_len {l : List FieldA} (h : schemaB l = true) : 1 ≤ l.length ∧ l.length ≤ 8 := by
  unfold schemaB at h
  simp only [Bool.and_eq_true, decide_eq_true_eq] at h
  exact ⟨h.1.1.1.1, h.1.1.1.2⟩
theorem errS_eq (l : List FieldA) : (schemaB l = true ∧ errS l = 0) ∨ (schemaB l = false ∧ errS l = 60) := by
  unfold errS
  cases h : schemaB l <;> simp

end Go.Proofs.YtiinohibmcefkaaGreatDoor
namespace Go.Proofs.YtiinohibmcefkaaGreatDoor
open Go.RowKit Go.Maps

/-- The zero record. -/
def zeros (l : List FieldA) : List ValA := l.map zeroV
def zeroB (l : List FieldA) : List ValA := if schemaB l then zeros l else []
theorem zeros_snoc (l : List FieldA) (f : FieldA) : zeros (l ++ [f]) = zeros l ++ [zeroV f] := by simp [zeros]
theorem zeros_length (l : List FieldA) : (zeros l).length = l.length := by simp [zeros]

end Go.Proofs.YtiinohibmcefkaaGreatDoor
