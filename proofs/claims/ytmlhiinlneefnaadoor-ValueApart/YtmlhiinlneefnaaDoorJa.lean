import Derived.Test.YtmlhiinlneefnaaDoorProg
import Derived.WalkKit
import Derived.WalkSpells
import Derived.WalkLawsBesides
import Derived.Laws.CopyOwn
import Derived.Maps.OwnSet
import Derived.Deep.AppendLies
import Derived.BigQuiet
import Derived.Deep.QuietTactic
import Derived.Deep.RegionHeld3
import Derived.Laws.IdiomStrings
namespace Go.Proofs.YtmlhiinlneefnaaDoor
open Go.RowKit Go.Maps

theorem ret_int {k : IntKind} {a b : Int} (h : a = b) : Ending.returned (.int k a) = .returned (.int k b) := by rw [h]
theorem ret_bool {a b : Bool} (h : a = b) : Ending.returned (.bool a) = .returned (.bool b) := by rw [h]
theorem hide {p : Prop} (h : p) : Hid p := h
theorem unhide {p : Prop} (h : Hid p) : p := h

/-- All blocks that are there and are not named by F hold what they held. -/
structure Keeps (F : Nat → Prop) (w w' : World) : Prop where
  os : w'.os = w.os
  tape : w'.tape = w.tape
  output : w'.output = w.output
  size : w.heap.size ≤ w'.heap.size
  block : ∀ k, k < w.heap.size → ¬ F k → w'.heap[k]? = w.heap[k]?

theorem Keeps.refl (F : Nat → Prop) (w : World) : Keeps F w w := ⟨rfl, rfl, rfl, Nat.le_refl _, fun _ _ _ => rfl⟩
theorem Keeps.trans {F : Nat → Prop} {a b c : World} (h : Keeps F a b) (k : Keeps F b c) : Keeps F a c :=
  ⟨k.os.trans h.os, k.tape.trans h.tape, k.output.trans h.output, Nat.le_trans h.size k.size, fun i hi hF => (k.block i (Nat.lt_of_lt_of_le hi h.size) hF).trans (h.block i hi hF)⟩
theorem Keeps.mono {F G : Nat → Prop} {a b : World} (h : Keeps F a b) (hFG : ∀ k, k < a.heap.size → F k → G k) : Keeps G a b :=
  ⟨h.os, h.tape, h.output, h.size, fun k hk hG => h.block k hk (fun hf => hG (hFG k hk hf))⟩
theorem Keeps.any {G : Nat → Prop} {a b : World} (h : Keeps (fun _ => False) a b) : Keeps G a b := h.mono (fun _ _ f => f.elim)
theorem Keeps.drew {F : Nat → Prop} {a b : World} (h : Keeps F a b) : Keeps F a b.drew := ⟨h.os, h.tape, h.output, h.size, h.block⟩
theorem drewN_os (w : World) : ∀ n, (w.drewN n).os = w.os ∧ (w.drewN n).tape = w.tape ∧ (w.drewN n).output = w.output ∧ (w.drewN n).heap = w.heap
  | 0 => ⟨rfl, rfl, rfl, rfl⟩
  | n + 1 => by
    have := drewN_os w.drew n
    exact this
theorem Keeps.drewN {F : Nat → Prop} {a b : World} (h : Keeps F a b) (n : Nat) : Keeps F a (b.drewN n) := by
  obtain ⟨h1, h2, h3, h4⟩ := drewN_os b n
  exact ⟨h1.trans h.os, h2.trans h.tape, h3.trans h.output, by rw [h4]; exact h.size, by rw [h4]; exact h.block⟩
theorem Keeps.alloc {F : Nat → Prop} {a b : World} (h : Keeps F a b) (o : Obj) : Keeps F a (b.alloc o) :=
  h.trans ⟨rfl, rfl, rfl, by simp, fun k hk _ => Below.heap_alloc _ _ _ hk⟩
theorem Keeps.setCell {F : Nat → Prop} {a b : World} (h : Keeps F a b) {p : Addr} (hp : p.block < a.heap.size → F p.block) (u : Value) : Keeps F a (b.setCell p u) :=
  ⟨h.os, h.tape, h.output, by simpa using h.size, fun k hk hF => by
    have hne : k ≠ p.block := fun e => hF (by rw [e]; exact hp (by rw [← e]; exact hk))
    rw [Below.heap_setCell _ _ _ _ hne]; exact h.block k hk hF⟩
theorem Keeps.grown {F : Nat → Prop} {a b c : World} {row : Option Nat} (h : Keeps F a b) (hg : b.grownBy c row) (hr : ∀ k, row = some k → k < a.heap.size → F k) : Keeps F a c :=
  ⟨hg.os.trans h.os, hg.tape.trans h.tape, hg.output.trans h.output, Nat.le_trans h.size hg.size, fun k hk hF => by
    rw [hg.block k (Nat.lt_of_lt_of_le hk h.size) (fun e => hF (hr k e.symm hk))]; exact h.block k hk hF⟩
theorem Keeps.below {F : Nat → Prop} {a b : World} (h : Keeps F a b) {B : Nat} (hB : B ≤ a.heap.size) (hF : ∀ k, F k → B ≤ k) : Below B a b :=
  ⟨h.os, h.tape, h.output, h.size, fun k hk => h.block k (by omega) (fun f => by have := hF k f; omega)⟩
theorem Keeps.cell {F : Nat → Prop} {a b : World} (h : Keeps F a b) {k o : Nat} (hk : k < a.heap.size) (hF : ¬ F k) : b.cell? ⟨k, o, none⟩ = a.cell? ⟨k, o, none⟩ :=
  World.cell?_of_block (w := a) (h.block k hk hF)

theorem heap_setCell_at {w : World} {b o : Nat} {c : Array Value} {t : TypeId} {fr : Nat × Nat} (h : w.heap[b]? = some (.cells c t fr)) (v : Value) :
    (w.setCell ⟨b, o, none⟩ v).heap[b]? = some (.cells (c.setIfInBounds o v) t fr) := by
  simp [World.setCell, Array.getElem?_modify, h]
theorem lt_of_block {w : World} {b : Nat} {o : Obj} (h : w.heap[b]? = some o) : b < w.heap.size := (Array.getElem?_eq_some_iff.1 h).1
theorem cell_of_blk {w : World} {b : Nat} {c : Array Value} {t : TypeId} {fr : Nat × Nat} (h : w.heap[b]? = some (.cells c t fr)) (o : Nat) : w.cell? ⟨b, o, none⟩ = c[o]? := by
  simp [World.cell?, h]
theorem frozen_of_blk {w : World} {b : Nat} {c : Array Value} {t : TypeId} (h : w.heap[b]? = some (.cells c t (0, 0))) (o : Nat) : w.frozen? ⟨b, o, none⟩ = false := by
  simp [World.frozen?, h]


theorem Keeps.then {F G : Nat → Prop} {a b c : World} (h : Keeps G a b) (k : Keeps F b c) (hF : ∀ i, i < a.heap.size → F i → G i) : Keeps G a c :=
  ⟨k.os.trans h.os, k.tape.trans h.tape, k.output.trans h.output, Nat.le_trans h.size k.size, fun i hi hG => (k.block i (Nat.lt_of_lt_of_le hi h.size) (fun f => hG (hF i hi f))).trans (h.block i hi hG)⟩
theorem keeps_drewN (w : World) (n : Nat) : Keeps (fun _ => False) w (w.drewN n) := (Keeps.refl _ w).drewN n

theorem take_snoc {α : Type} (ws : List α) (k : Nat) (x : α) (h : ws[k]? = some x) : ws.take (k + 1) = ws.take k ++ [x] := by
  obtain ⟨hk, rfl⟩ := List.getElem?_eq_some_iff.1 h
  rw [List.take_succ_eq_append_getElem hk]

/-- A text. -/
abbrev Txt := List UInt8
abbrev str (l : Txt) : Value := .string ⟨l.toArray⟩
/-- A byte's number. -/
def num (c : UInt8) : Int := (c.toNat : Int)
theorem num_range (c : UInt8) : 0 ≤ num c ∧ num c ≤ 255 := by
  have := c.toNat_lt
  unfold num
  omega
/-- Bytes as cells. -/
def bs (l : Txt) : List Value := l.map fun c => Value.int .u8 (num c)
theorem bs_length (l : Txt) : (bs l).length = l.length := by simp [bs]
theorem bs_get (l : Txt) (j : Nat) : (bs l)[j]? = (l[j]?).map (fun c => Value.int .u8 (num c)) := by simp [bs]

/-- A slice of n elements whose cells read as xs. -/
structure RowAt (w : World) (v : Value) (n : Nat) (xs : List Value) : Prop where
  form : ∃ ao cap, v = .slice ao n cap
  cells : 0 < n → ∃ b off cap, v = .slice (some ⟨b, off, none⟩) n cap ∧ b < w.heap.size ∧ ∀ j x, xs[j]? = some x → w.cell? ⟨b, off + j, none⟩ = some x
  room : ∀ ao m cap, v = .slice ao m cap → m ≤ cap

theorem RowAt.kept {w w' : World} {v : Value} {n : Nat} {l : List Value} (h : RowAt w v n l) {F : Nat → Prop} (hk : Keeps F w w') (hF : ∀ k, v.ownBlock = some k → ¬ F k) : RowAt w' v n l := by
  refine ⟨h.form, fun h0 => ?_, h.room⟩
  obtain ⟨b, off, cap, e, hb, hc⟩ := h.cells h0
  refine ⟨b, off, cap, e, Nat.lt_of_lt_of_le hb hk.size, fun j x hx => ?_⟩
  rw [hk.cell hb (hF b (by rw [e]; rfl))]
  exact hc j x hx
theorem RowAt.keepF {w w' : World} {v : Value} {n : Nat} {l : List Value} (h : RowAt w v n l) (hk : Keeps (fun _ => False) w w') : RowAt w' v n l := h.kept hk (fun _ _ => id)
theorem RowAt.drewN {w : World} {v : Value} {n : Nat} {l : List Value} (h : RowAt w v n l) (k : Nat) : RowAt (w.drewN k) v n l := h.keepF (keeps_drewN w k)
theorem rowAt_own {w : World} {B t z n : Nat} {v : Value} {l : List Value} (h : w.ownsRow B t z v n l) : RowAt w v n l := by
  obtain ⟨hl, hh⟩ := h
  rcases hh with ⟨hv, hn⟩ | ⟨g, cap, cur, hv, hb, hg, h1, h2, h3, h4⟩
  · exact ⟨⟨none, 0, by rw [hn]; exact hv⟩, fun h0 => by omega, fun ao m cap e => by rw [hv] at e; simp at e; omega⟩
  · refine ⟨⟨_, _, hv⟩, fun _ => ⟨g, 0, cap, hv, lt_of_block hg, fun j x hx => ?_⟩, fun ao m cap' e => by rw [hv] at e; simp at e; omega⟩
    rw [cell_of_blk hg]
    rw [← h4, List.getElem?_take] at hx
    split at hx
    · simpa using hx
    · cases hx

end Go.Proofs.YtmlhiinlneefnaaDoor
namespace Go.Proofs.YtmlhiinlneefnaaDoor
open Go.RowKit Go.Maps

/-- May the byte stand in a name? -/
def partB (c : Int) : Bool := decide (97 ≤ c) && decide (c ≤ 122) || decide (65 ≤ c) && decide (c ≤ 90) || decide (48 ≤ c) && decide (c ≤ 57) || decide (c = 95)

/-- A hexadecimal digit's number, -1 if it is none. -/
def hexB (c : Int) : Int := if 48 ≤ c ∧ c ≤ 57 then c - 48 else if 97 ≤ c ∧ c ≤ 102 then c - 87 else if 65 ≤ c ∧ c ≤ 70 then c - 55 else -1

/-- The width of a field of a type, -1 if there is no such type. -/
def wideB (t : Int) : Int := if t = 1 then 10 else if t = 2 then 1 else if t = 3 then 21 else -1

structure FieldA where
  name : Txt
  type : Int
  opt : Bool
deriving DecidableEq
structure ValA where
  kind : Int
  n : Int
  s : Txt
deriving DecidableEq
def FieldA.v (f : FieldA) : Value := .agg #[str f.name, .int .i64 f.type, .bool f.opt]
def ValA.v (x : ValA) : Value := .agg #[.int .i64 x.kind, .int .i64 x.n, str x.s]
def FieldA.cs (f : FieldA) : List Value := [str f.name, .int .i64 f.type, .bool f.opt]
def ValA.cs (x : ValA) : List Value := [.int .i64 x.kind, .int .i64 x.n, str x.s]

/-- A type's word. -/
def wordB (t : Int) : Txt := if t = 1 then [105, 110, 116] else if t = 2 then [98, 111, 111, 108] else [98, 121, 116, 101, 115]

def zeroV (f : FieldA) : ValA := if f.opt then ⟨0, 0, []⟩ else ⟨f.type, 0, []⟩

set_option maxRecDepth 100000 in
theorem eqValue_any (x y : ValA) (w : World) : Calls Tryd.prog 32 #[x.v, y.v] w fun e w' => e = .returned (.bool (decide (x = y))) ∧ Keeps (fun _ => False) w w' := by
  obtain ⟨k1, n1, s1⟩ := x
  obtain ⟨k2, n2, s2⟩ := y
  unfold ValA.v
  go_enter Tryd.func32, Tryd.ntmps32
  go_wp2
  all_goals (go_ret; refine ⟨ret_bool ?_, ((Keeps.refl _ _).alloc _).alloc _⟩; apply Bool.eq_iff_iff.2; simp_all; try omega)

/-- Does the value fit the field? -/
def fitsB (f : FieldA) (v : ValA) : Bool :=
  if v.kind = 0 then f.opt && decide (v.n = 0) && decide (v.s = [])
  else if v.kind ≠ f.type then false
  else if v.kind = 1 then decide (v.s = [])
  else if v.kind = 2 then (decide (v.n = 0) || decide (v.n = 1)) && decide (v.s = [])
  else if v.kind = 3 then decide (v.n = 0) && decide (v.s.length ≤ 20)
  else false

/-- An int's turned number. -/
def turned (n : Int) : Int := if 0 ≤ n then 2 * n else -2 * n - 1

def backB (u : Int) : Int := if u % 2 = 0 then u / 2 else -(u / 2) - 1

/-- Is there a byte 128 to 191 at that place? -/
def moreB (t : Txt) (k : Nat) : Bool := match t[k]? with
  | some c => decide (128 ≤ num c) && decide (num c < 192)
  | none => false

theorem str_at {t : Txt} {k : Nat} {c : UInt8} (h : t[k]? = some c) : ∀ hk, (ByteArray.mk t.toArray)[k]'hk = c := by
  intro hk
  obtain ⟨_, rfl⟩ := List.getElem?_eq_some_iff.1 h
  rfl
theorem get_lt {α : Type} {t : List α} {k : Nat} {c : α} (h : t[k]? = some c) : k < t.length := (List.getElem?_eq_some_iff.1 h).1
theorem get_ge {α : Type} {t : List α} {k : Nat} (h : t[k]? = none) : t.length ≤ k := List.getElem?_eq_none_iff.1 h

end Go.Proofs.YtmlhiinlneefnaaDoor
namespace Go.Proofs.YtmlhiinlneefnaaDoor
open Go.RowKit Go.Maps

/-- The place of the first byte, from a on, of which p does not hold. -/
def scan (t : Txt) (p : UInt8 → Bool) (a : Nat) : Nat := a + ((t.drop a).takeWhile p).length
theorem scan_none {t : Txt} {p : UInt8 → Bool} {a : Nat} (h : t[a]? = none) : scan t p a = a := by
  have := get_ge h
  simp [scan, List.drop_eq_nil_of_le this]
theorem drop_at {α : Type} {t : List α} {a : Nat} {c : α} (h : t[a]? = some c) : t.drop a = c :: t.drop (a + 1) := by
  obtain ⟨ha, rfl⟩ := List.getElem?_eq_some_iff.1 h
  rw [List.drop_eq_getElem_cons ha]
theorem scan_stop {t : Txt} {p : UInt8 → Bool} {a : Nat} {c : UInt8} (h : t[a]? = some c) (hp : p c = false) : scan t p a = a := by
  simp [scan, drop_at h, hp]
theorem scan_go {t : Txt} {p : UInt8 → Bool} {a : Nat} {c : UInt8} (h : t[a]? = some c) (hp : p c = true) : scan t p a = scan t p (a + 1) := by
  simp [scan, drop_at h, hp]; omega
theorem scan_ge (t : Txt) (p : UInt8 → Bool) (a : Nat) : a ≤ scan t p a := by unfold scan; omega
theorem scan_le (t : Txt) (p : UInt8 → Bool) (a : Nat) (h : a ≤ t.length) : scan t p a ≤ t.length := by
  unfold scan
  have h1 := (List.takeWhile_sublist (l := t.drop a) p).length_le
  rw [List.length_drop] at h1
  omega

theorem num_inj {a b : UInt8} (h : num a = num b) : a = b := by
  unfold num at h
  exact UInt8.toNat_inj.1 (by omega)

/-- Does the text have p at that place? -/
def beginsB (t : Txt) (a : Nat) (p : Txt) : Bool := decide (a + p.length ≤ t.length) && decide ((t.drop a).take p.length = p)

theorem ext_str (t : Txt) (a b : Nat) : (ByteArray.mk t.toArray).extract a b = ⟨((t.drop a).take (b - a)).toArray⟩ := by
  rw [ByteArray.extract_mk]

def kws : List Txt := [[97, 110, 100], [99, 97, 116], [99, 108, 101, 97, 114], [100, 101, 108, 101, 116, 101], [101, 108, 115, 101], [102, 97, 108, 115, 101], [104, 97, 115], [104, 101, 114, 101], [105, 102], [108, 101, 110], [109, 97, 120], [109, 105, 110], [110, 101, 119], [110, 111, 116], [111, 114], [112, 105, 99, 107], [116, 114, 117, 101]]

/-- May a field be called so? -/
def nameB (x : Txt) : Bool := decide (x ≠ []) && decide (x.length ≤ 8) && !(match x[0]? with
  | some c => decide (48 ≤ num c) && decide (num c ≤ 57)
  | none => false) && x.all (fun c => partB (num c)) && !decide (x ∈ kws)

/-- The byte at a place (0 beyond the end). -/
def nth (t : Txt) (k : Nat) : Int := num (t.getD k 0)
end Go.Proofs.YtmlhiinlneefnaaDoor
namespace Go.Proofs.YtmlhiinlneefnaaDoor
open Go.RowKit Go.Maps

def digitB (c : Int) : Bool := decide (48 ≤ c) && decide (c ≤ 57)

set_option maxRecDepth 100000 in
theorem digit_any (c : Int) (w : World) : Calls Tryd.prog 60 #[.int .u8 c] w fun e w' => e = .returned (.bool (digitB c)) ∧ w' = w := by
  go_enter Tryd.func60, Tryd.ntmps60
  go_wp2
  all_goals (go_ret; refine ⟨ret_bool ?_, rfl⟩; apply Bool.eq_iff_iff.2; simp [digitB] at *; try omega)

set_option maxRecDepth 100000 in
theorem inRun_any (c : Int) (w : World) : Calls Tryd.prog 70 #[.int .u8 c] w fun e w' => e = .returned (.bool (partB c)) ∧ w' = w := by
  have HQ := hide (digit_any c w)
  go_enter Tryd.func70, Tryd.ntmps70
  go_wp2_with (go_at_call 60; refine (unhide HQ).mono ?_; rintro e w' ⟨rfl, rfl⟩)
  all_goals (go_ret; refine ⟨ret_bool ?_, rfl⟩; apply Bool.eq_iff_iff.2; simp [partB, digitB] at *; try omega)

set_option maxRecDepth 100000 in
set_option maxHeartbeats 1000000 in
theorem keyword_v (x : Txt) (w : World) : Calls Tryd.prog 62 #[str x] w fun e w' => e = .returned (.bool (decide (x ∈ kws))) ∧ w' = w := by
  go_enter Tryd.func62, Tryd.ntmps62
  go_wp2
  all_goals (go_ret; refine ⟨ret_bool ?_, rfl⟩; simp_all [kws])

end Go.Proofs.YtmlhiinlneefnaaDoor
namespace Go.Proofs.YtmlhiinlneefnaaDoor
open Go.RowKit Go.Maps

def fcs (l : List FieldA) : List Value := l.flatMap FieldA.cs
def vcs (l : List ValA) : List Value := l.flatMap ValA.cs
theorem flat_get {α : Type} (g : α → List Value) (hg : ∀ x, (g x).length = 3) : ∀ (l : List α) (i : Nat) (x : α) (j : Nat), l[i]? = some x → j < 3 → (l.flatMap g)[i * 3 + j]? = (g x)[j]?
  | [], i, x, j, h, _ => by simp at h
  | y :: r, 0, x, j, h, hj => by
    simp at h; subst h
    simp only [List.flatMap_cons, Nat.zero_mul, Nat.zero_add]
    rw [List.getElem?_append_left (by rw [hg]; exact hj)]
  | y :: r, i + 1, x, j, h, hj => by
    simp only [List.flatMap_cons]
    rw [List.getElem?_append_right (by rw [hg]; omega), hg, show (i + 1) * 3 + j - 3 = i * 3 + j by omega]
    exact flat_get g hg r i x j (by simpa using h) hj
theorem flat_length {α : Type} (g : α → List Value) (hg : ∀ x, (g x).length = 3) : ∀ l : List α, (l.flatMap g).length = l.length * 3
  | [] => rfl
  | x :: r => by simp only [List.flatMap_cons, List.length_append, List.length_cons, hg, flat_length g hg r]; omega
theorem fcs_length (l : List FieldA) : (fcs l).length = l.length * 3 := flat_length _ (fun _ => rfl) l
theorem vcs_length (l : List ValA) : (vcs l).length = l.length * 3 := flat_length _ (fun _ => rfl) l

/-- Fields, values, bytes in a slice. -/
def FldsAt (w : World) (v : Value) (l : List FieldA) : Prop := RowAt w v l.length (fcs l)
def ValsAt (w : World) (v : Value) (l : List ValA) : Prop := RowAt w v l.length (vcs l)
def BytesAt (w : World) (v : Value) (l : Txt) : Prop := RowAt w v l.length (bs l)

theorem FldsAt.cells {w : World} {v : Value} {l : List FieldA} (h : FldsAt w v l) (h0 : 0 < l.length) :
    ∃ b off cap, v = .slice (some ⟨b, off, none⟩) l.length cap ∧ b < w.heap.size ∧ ∀ i f, l[i]? = some f → w.cell? ⟨b, off + i * 3, none⟩ = some (str f.name) ∧ w.cell? ⟨b, off + i * 3 + 1, none⟩ = some (.int .i64 f.type) ∧ w.cell? ⟨b, off + i * 3 + 2, none⟩ = some (.bool f.opt) := by
  obtain ⟨b, off, cap, e, hb, hc⟩ := RowAt.cells h h0
  refine ⟨b, off, cap, e, hb, fun i f hf => ?_⟩
  have k := fun j hj => flat_get FieldA.cs (fun _ => rfl) l i f j hf hj
  have k0 := hc (i * 3 + 0) (str f.name) (k 0 (by omega))
  have k1 := hc (i * 3 + 1) (.int .i64 f.type) (k 1 (by omega))
  have k2 := hc (i * 3 + 2) (.bool f.opt) (k 2 (by omega))
  exact ⟨k0, k1, k2⟩
theorem ValsAt.cells {w : World} {v : Value} {l : List ValA} (h : ValsAt w v l) (h0 : 0 < l.length) :
    ∃ b off cap, v = .slice (some ⟨b, off, none⟩) l.length cap ∧ b < w.heap.size ∧ ∀ i f, l[i]? = some f → w.cell? ⟨b, off + i * 3, none⟩ = some (.int .i64 f.kind) ∧ w.cell? ⟨b, off + i * 3 + 1, none⟩ = some (.int .i64 f.n) ∧ w.cell? ⟨b, off + i * 3 + 2, none⟩ = some (str f.s) := by
  obtain ⟨b, off, cap, e, hb, hc⟩ := RowAt.cells h h0
  refine ⟨b, off, cap, e, hb, fun i f hf => ?_⟩
  have k := fun j hj => flat_get ValA.cs (fun _ => rfl) l i f j hf hj
  have k0 := hc (i * 3 + 0) (.int .i64 f.kind) (k 0 (by omega))
  have k1 := hc (i * 3 + 1) (.int .i64 f.n) (k 1 (by omega))
  have k2 := hc (i * 3 + 2) (str f.s) (k 2 (by omega))
  exact ⟨k0, k1, k2⟩

/-- How many optional fields there are. -/
def opts (l : List FieldA) : Nat := (l.filter FieldA.opt).length
def headB (l : List FieldA) : Nat := (opts l + 7) / 8
theorem opts_snoc (l : List FieldA) (f : FieldA) : opts (l ++ [f]) = opts l + (if f.opt then 1 else 0) := by
  unfold opts
  rw [List.filter_append, List.length_append]
  cases h : f.opt <;> simp [h]
theorem opts_le (l : List FieldA) : opts l ≤ l.length := List.length_filter_le _ _

theorem FldsAt.keepF {w w' : World} {v : Value} {l : List FieldA} (h : FldsAt w v l) (hk : Keeps (fun _ => False) w w') : FldsAt w' v l := RowAt.keepF h hk
theorem ValsAt.keepF {w w' : World} {v : Value} {l : List ValA} (h : ValsAt w v l) (hk : Keeps (fun _ => False) w w') : ValsAt w' v l := RowAt.keepF h hk
theorem BytesAt.keepF {w w' : World} {v : Value} {l : Txt} (h : BytesAt w v l) (hk : Keeps (fun _ => False) w w') : BytesAt w' v l := RowAt.keepF h hk

/-- A new block: what holds of it, whatever comes behind. -/
theorem boxed (w : World) (c : Array Value) (t : TypeId) : Hid (Keeps (fun _ => False) w (w.alloc (.cells c t))) ∧ w.heap.size < (w.alloc (.cells c t)).heap.size ∧ ∀ j x, c[j]? = some x → (w.alloc (.cells c t)).cell? ⟨w.heap.size, j, none⟩ = some x :=
  ⟨(Keeps.refl _ _).alloc _, by simp, fun j x hx => by rw [cell_of_blk (heap_alloc_new w _)]; exact hx⟩

end Go.Proofs.YtmlhiinlneefnaaDoor
namespace Go.Proofs.YtmlhiinlneefnaaDoor
open Go.RowKit Go.Maps

def wides (l : List FieldA) : Int := (l.map fun f => wideB f.type).sum
def widthB (l : List FieldA) : Int := headB l + wides l
theorem wides_snoc (l : List FieldA) (f : FieldA) : wides (l ++ [f]) = wides l + wideB f.type := by simp [wides, List.sum_append]
theorem wideB_range (t : Int) : -1 ≤ wideB t ∧ wideB t ≤ 21 := by unfold wideB; repeat' split
                                                                  all_goals omega
theorem wides_range : ∀ l : List FieldA, -(l.length : Int) ≤ wides l ∧ wides l ≤ 21 * (l.length : Int)
  | [] => by simp [wides]
  | f :: r => by
    have h1 := wides_range r
    have h2 := wideB_range f.type
    unfold wides at *
    simp only [List.map_cons, List.sum_cons, List.length_cons]
    omega
theorem headB_le (l : List FieldA) : headB l ≤ l.length := by
  unfold headB
  have := opts_le l
  rcases Nat.eq_zero_or_pos (opts l) with h | h
  · rw [h]; omega
  · omega

/-- May a schema be so? -/
def fieldOK (f : FieldA) : Bool := nameB f.name && decide (0 ≤ wideB f.type)
def schemaB (l : List FieldA) : Bool := decide (1 ≤ l.length) && decide (l.length ≤ 8) && l.all fieldOK && decide (l.map FieldA.name).Nodup && decide (widthB l ≤ 64)
def errS (l : List FieldA) : Int := if schemaB l then 0 else 60

end Go.Proofs.YtmlhiinlneefnaaDoor
namespace Go.Proofs.YtmlhiinlneefnaaDoor
open Go.RowKit Go.Maps

theorem errS_bad {l : List FieldA} (h : schemaB l = false) : errS l = 60 := by simp [errS, h]
theorem errS_good {l : List FieldA} (h : schemaB l = true) : errS l = 0 := by simp [errS, h]
theorem schemaB_name {l : List FieldA} {f : FieldA} (hm : f ∈ l) (h : fieldOK f = false) : schemaB l = false := by
  have : l.all fieldOK = false := List.all_eq_false.2 ⟨f, hm, by simp [h]⟩
  simp [schemaB, this]
theorem schemaB_twice {l : List FieldA} {i j : Nat} {f g : FieldA} (hi : l[i]? = some f) (hj : l[j]? = some g) (hij : j < i) (h : g.name = f.name) : schemaB l = false := by
  have : ¬ (l.map FieldA.name).Nodup := by
    intro hn
    have e1 : (l.map FieldA.name)[j]? = some g.name := by simp [hj]
    have e2 : (l.map FieldA.name)[i]? = some f.name := by simp [hi]
    obtain ⟨hjl, e1'⟩ := List.getElem?_eq_some_iff.1 e1
    obtain ⟨hil, e2'⟩ := List.getElem?_eq_some_iff.1 e2
    have := List.pairwise_iff_getElem.1 hn j i hjl hil hij
    exact this (by rw [e1', e2', h])
  simp [schemaB, this]
theorem schemaB_end {l : List FieldA} (h1 : 1 ≤ l.length) (h2 : l.length ≤ 8) (h3 : l.all fieldOK = true) (h4 : (l.map FieldA.name).Nodup) : schemaB l = decide (widthB l ≤ 64) := by
  unfold schemaB
  rw [h3, decide_eq_true h1, decide_eq_true h2, decide_eq_true h4]
  rfl
theorem nodup_snoc {l : List FieldA} {f : FieldA} (h : (l.map FieldA.name).Nodup) (hn : ∀ g ∈ l, g.name ≠ f.name) : ((l ++ [f]).map FieldA.name).Nodup := by
  rw [List.map_append, List.nodup_append]
  refine ⟨h, by simp, ?_⟩
  intro a ha b hb
  obtain ⟨g, hg, rfl⟩ := List.mem_map.1 ha
  simp at hb
  subst hb
  exact hn g hg

end Go.Proofs.YtmlhiinlneefnaaDoor
namespace Go.Proofs.YtmlhiinlneefnaaDoor
open Go.RowKit Go.Maps

/-- How many bytes at the head of a text may stand in a name. -/
def runB (x : Txt) : Nat := scan x (fun c => partB (num c)) 0

set_option maxRecDepth 100000 in
theorem run_v (x : Txt) (hx : x.length ≤ 1099511627776) (w : World) : Calls Tryd.prog 61 #[str x] w fun e w' => e = .returned (.int .i64 (runB x)) ∧ w' = w := by
  go_enter Tryd.func61, Tryd.ntmps61
  go_wp2
  go_loopw [6] (fun i wr => ∃ k : Nat, k ≤ x.length ∧ i = .int .i64 k ∧ Hid (runB x = scan x (fun c => partB (num c)) k) ∧ wr = w) (fun i _ => x.length - (intOf i).toNat)
  case atStart => exact ⟨0, by omega, rfl, rfl, rfl⟩
  case round =>
    obtain ⟨k, hk, rfl, HS, rfl⟩ := hrel
    cases h : x[k]? with
    | none =>
      have h1 := get_ge h
      obtain rfl : k = x.length := by omega
      have HH := hide h
      clear h
      go_wp2
      go_ret
      exact ⟨ret_int (by rw [unhide HS, scan_none (unhide HH)]), rfl⟩
    | some y =>
      have h1 := get_lt h
      have q := str_at h
      have HH := hide h
      clear h
      have e1 : (y.toNat : Int) = num y := rfl
      go_wp2_with fail
      refine (inRun_any (num y) wr).mono ?_
      rintro e w1 ⟨rfl, rfl⟩
      cases hp : partB (num y) with
      | true =>
        go_wp2
        go_roundw
        case rel => exact ⟨k + 1, by omega, by go_num, (unhide HS).trans (scan_go (unhide HH) hp), trivial⟩
        case measure => simp [intOf]; omega
      | false =>
        go_wp2
        go_ret
        exact ⟨ret_int (by rw [unhide HS, scan_stop (unhide HH) hp]), rfl⟩

theorem takeWhile_all {p : UInt8 → Bool} : ∀ l : Txt, ((l.takeWhile p).length = l.length) = (l.all p = true)
  | [] => by simp
  | c :: r => by
    cases h : p c
    · simp [h]
    · have := takeWhile_all (p := p) r
      simp only [List.takeWhile_cons, h, List.length_cons, List.all_cons, Bool.true_and, if_true]
      rw [← this]
      simp
theorem runB_full (x : Txt) : ((runB x : Int) == (x.length : Int)) = x.all (fun c => partB (num c)) := by
  have h := takeWhile_all (p := fun c => partB (num c)) x
  unfold runB scan
  rw [List.drop_zero, Nat.zero_add]
  apply Bool.eq_iff_iff.2
  rw [beq_iff_eq, ← h]
  omega

theorem nameB_form (x : Txt) (c : UInt8) (h : x[0]? = some c) (h8 : x.length ≤ 8) : nameB x = (!digitB (num c) && (x.all (fun c => partB (num c)) && !decide (x ∈ kws))) := by
  unfold nameB digitB
  have : x ≠ [] := by rintro rfl; simp at h
  rw [h, decide_eq_true h8, decide_eq_true this]
  simp [Bool.and_assoc]

set_option maxRecDepth 100000 in
set_option maxHeartbeats 1000000 in
theorem name_v (x : Txt) (w : World) : Calls Tryd.prog 47 #[str x] w fun e w' => e = .returned (.bool (nameB x)) ∧ w' = w := by
  cases h : x[0]? with
  | none =>
    obtain rfl : x = [] := List.eq_nil_of_length_eq_zero (by have := get_ge h; omega)
    go_enter Tryd.func47, Tryd.ntmps47
    go_wp2
    go_ret
    exact ⟨rfl, rfl⟩
  | some c =>
    have h1 := get_lt h
    have q := str_at h
    have e1 : (c.toNat : Int) = num c := rfl
    by_cases hl : (8 : Int) < (x.length : Int)
    · have HN : Hid (nameB x = false) := by show _ = _; unfold nameB; rw [show decide (x.length ≤ 8) = false from decide_eq_false (by omega)]; simp
      clear h
      go_enter Tryd.func47, Tryd.ntmps47
      go_wp2
      go_ret
      exact ⟨ret_bool (unhide HN).symm, rfl⟩
    have hl2 : (x.length : Int) ≤ 8 := by omega
    have HN := hide (nameB_form x c h (by omega))
    have HR := hide (run_v x (by omega) w)
    have HK := hide (keyword_v x w)
    have HD := hide (digit_any (num c) w)
    have HF := hide (runB_full x)
    generalize nameB x = N at *
    generalize digitB (num c) = D at *
    generalize x.all (fun c => partB (num c)) = P at *
    generalize decide (x ∈ kws) = K at *
    clear h hl
    go_enter Tryd.func47, Tryd.ntmps47
    go_wp2_with fail
    refine (unhide HD).mono ?_
    rintro e w' ⟨rfl, rfl⟩
    cases D with
    | true =>
      go_wp2_with fail
      go_ret
      exact ⟨ret_bool (unhide HN).symm, rfl⟩
    | false =>
      go_wp2_with fail
      refine (unhide HR).mono ?_
      rintro e w' ⟨rfl, rfl⟩
      have hf := unhide HF
      cases P with
      | false =>
        go_wp2_with fail
        go_ret
        exact ⟨ret_bool (unhide HN).symm, rfl⟩
      | true =>
        go_wp2_with fail
        refine (unhide HK).mono ?_
        rintro e w' ⟨rfl, rfl⟩
        go_wp2_with fail
        go_ret
        exact ⟨ret_bool (by rw [unhide HN]; cases K <;> rfl), rfl⟩

theorem typeB (t : Int) : (t == 1 || t == 2 || t == 3) = decide (0 ≤ wideB t) := by
  unfold wideB
  apply Bool.eq_iff_iff.2
  simp only [Bool.or_eq_true, beq_iff_eq, decide_eq_true_eq]
  repeat' split
  all_goals omega

set_option maxRecDepth 100000 in
theorem isType_v (t : Int) (w : World) : Calls Tryd.prog 48 #[.int .i64 t] w fun e w' => e = .returned (.bool (decide (0 ≤ wideB t))) ∧ w' = w := by
  go_enter Tryd.func48, Tryd.ntmps48
  go_wp2
  all_goals (go_ret; refine ⟨ret_bool ?_, rfl⟩; rw [← typeB]; try simp_all)

end Go.Proofs.YtmlhiinlneefnaaDoor
namespace Go.Proofs.YtmlhiinlneefnaaDoor
open Go.RowKit Go.Maps

def namedB (l : List FieldA) (nm : Txt) : Bool := l.any fun f => decide (f.name = nm)
theorem namedB_snoc (l : List FieldA) (f : FieldA) (nm : Txt) : namedB (l ++ [f]) nm = (namedB l nm || decide (f.name = nm)) := by simp [namedB]

set_option maxRecDepth 100000 in
set_option maxHeartbeats 1000000 in
theorem named_v (l : List FieldA) (v : Value) (nm : Txt) (w : World) (h : FldsAt w v l) (hl : l.length ≤ 8) :
    Calls Tryd.prog 49 #[v, str nm] w fun e w' => e = .returned (.bool (namedB l nm)) ∧ Keeps (fun _ => False) w w' := by
  obtain ⟨ao, cap, rfl⟩ := RowAt.form h
  have HF := hide h
  clear h
  go_enter Tryd.func49, Tryd.ntmps49
  go_wp2
  go_loopw [9] (fun i wr => ∃ k : Nat, k ≤ l.length ∧ i = .int .i64 k ∧ Hid (namedB (l.take k) nm = false) ∧ Keeps (fun _ => False) w wr) (fun i _ => l.length - (intOf i).toNat)
  case atStart => exact ⟨0, Nat.zero_le _, rfl, by simp [Hid, namedB], Keeps.refl _ _⟩
  case round =>
    obtain ⟨k, hk, rfl, HS, hkp⟩ := hrel
    have HK := hide hkp
    cases h : l[k]? with
    | none =>
      have h1 := get_ge h
      obtain rfl : k = l.length := by omega
      clear hkp h h1
      rw [List.take_length] at HS
      go_wp2
      go_ret
      exact ⟨ret_bool (unhide HS).symm, unhide HK⟩
    | some f =>
      have h1 := get_lt h
      obtain ⟨b, off, c, e, hbl, hc⟩ := (unhide HF).cells (by omega)
      simp at e
      obtain ⟨rfl, rfl⟩ := e
      have c0 := (hkp.cell hbl id).trans (hc k f h).1
      have c1 := (hkp.cell hbl id).trans (hc k f h).2.1
      have c2 := (hkp.cell hbl id).trans (hc k f h).2.2
      have HH := hide h
      have HO : Hid (namedB (l.take (k + 1)) nm = (namedB (l.take k) nm || decide (f.name = nm))) := by show _ = _; rw [take_snoc _ _ _ h, namedB_snoc]
      clear hkp h hc
      go_wp2
      case roundEnd =>
        rename_i hne
        go_roundw
        case rel => exact ⟨k + 1, by omega, by go_num, by show _ = _; rw [unhide HO, unhide HS]; simpa using hne, (unhide HK).alloc _⟩
        case measure => simp [intOf]; omega
      rename_i hne
      go_ret
      refine ⟨ret_bool ?_, (unhide HK).alloc _⟩
      symm
      exact List.any_eq_true.2 ⟨f, List.mem_of_getElem? (unhide HH), by simpa using hne⟩

set_option maxRecDepth 100000 in
set_option maxHeartbeats 1000000 in
theorem head_v (l : List FieldA) (v : Value) (w : World) (h : FldsAt w v l) (hl : l.length ≤ 8) :
    Calls Tryd.prog 36 #[.agg #[v]] w fun e w' => e = .returned (.int .i64 (headB l)) ∧ Keeps (fun _ => False) w w' := by
  obtain ⟨ao, cap, rfl⟩ := RowAt.form h
  have HF := hide h
  clear h
  go_enter Tryd.func36, Tryd.ntmps36
  go_wp2
  obtain ⟨HB, hb, hbc⟩ := boxed w #[.slice ao l.length cap] 27
  have hp := hbc 0 (.slice ao l.length cap) rfl
  have HF2 := hide ((unhide HF).keepF (unhide HB))
  clear hbc HF
  generalize w.alloc (.cells #[.slice ao l.length cap] 27) = w2 at *
  generalize w.heap.size = sb at *
  go_loopw [3, 9] (fun n i wr => ∃ k : Nat, k ≤ l.length ∧ i = .int .i64 k ∧ n = .int .i64 (opts (l.take k)) ∧ Keeps (fun _ => False) w2 wr) (fun _ i _ => l.length - (intOf i).toNat)
  case atStart => exact ⟨0, Nat.zero_le _, rfl, rfl, Keeps.refl _ _⟩
  case round =>
    obtain ⟨k, hk, rfl, rfl, hkp⟩ := hrel
    have HK := hide hkp
    have ho := opts_le (l.take k)
    rw [List.length_take] at ho
    cases h : l[k]? with
    | none =>
      have h1 := get_ge h
      obtain rfl : k = l.length := by omega
      clear hkp h h1
      rw [List.take_length] at *
      go_wp2
      go_ret
      exact ⟨ret_int (by unfold headB; omega), (unhide HB).trans (unhide HK)⟩
    | some f =>
      have h1 := get_lt h
      obtain ⟨b, off, c, e, hbl, hc⟩ := (unhide HF2).cells (by omega)
      simp at e
      obtain ⟨rfl, rfl⟩ := e
      have c0 := (hkp.cell hbl id).trans (hc k f h).1
      have c1 := (hkp.cell hbl id).trans (hc k f h).2.1
      have c2 := (hkp.cell hbl id).trans (hc k f h).2.2
      have HO : Hid (opts (l.take (k + 1)) = opts (l.take k) + (if f.opt then 1 else 0)) := by show _ = _; rw [take_snoc _ _ _ h, opts_snoc]
      generalize opts (l.take k) = o at *
      clear hkp h hc
      cases hfo : f.opt with
      | true =>
        rw [hfo] at c2 HO
        go_wp2
        go_roundw
        case rel => exact ⟨k + 1, by omega, by go_num, by rw [unhide HO]; go_num, (unhide HK).alloc _⟩
        case measure => simp [intOf]; omega
      | false =>
        rw [hfo] at c2 HO
        go_wp2
        go_roundw
        case rel => exact ⟨k + 1, by omega, by go_num, by rw [unhide HO]; go_num, (unhide HK).alloc _⟩
        case measure => simp [intOf]; omega

/-- The table of package value's types lies as its initialiser lays it. -/
def typesC : Array Value := #[str [], .int .i64 0, str [105, 110, 116], .int .i64 10, str [98, 111, 111, 108], .int .i64 1, str [98, 121, 116, 101, 115], .int .i64 21]
structure Types (w : World) : Prop where
  lt : 0 < w.heap.size
  cell : ∀ j x, typesC[j]? = some x → w.cell? ⟨0, j, none⟩ = some x
theorem Types.keep {F : Nat → Prop} {w w' : World} (h : Types w) (hk : Keeps F w w') (hF : ¬ F 0) : Types w' :=
  ⟨Nat.lt_of_lt_of_le h.lt hk.size, fun j x hx => by rw [hk.cell h.lt hF]; exact h.cell j x hx⟩
theorem Types.keepF {w w' : World} (h : Types w) (hk : Keeps (fun _ => False) w w') : Types w' := h.keep hk id
theorem Types.width {w : World} (h : Types w) {t : Int} (ht : 0 ≤ wideB t) : ∃ n : Nat, t = n ∧ n < 4 ∧ w.cell? ⟨0, n * 2 + 1, none⟩ = some (.int .i64 (wideB t)) := by
  by_cases h1 : t = 1
  · subst h1; exact ⟨1, rfl, by omega, h.cell 3 _ rfl⟩
  by_cases h2 : t = 2
  · subst h2; exact ⟨2, rfl, by omega, h.cell 5 _ rfl⟩
  by_cases h3 : t = 3
  · subst h3; exact ⟨3, rfl, by omega, h.cell 7 _ rfl⟩
  · simp [wideB, h1, h2, h3] at ht

set_option maxRecDepth 100000 in
set_option maxHeartbeats 1000000 in
theorem width_v (l : List FieldA) (v : Value) (w : World) (hT : Types w) (h : FldsAt w v l) (hl : l.length ≤ 8) (hok : l.all fieldOK = true) :
    Calls Tryd.prog 37 #[.agg #[v]] w fun e w' => e = .returned (.int .i64 (widthB l)) ∧ Keeps (fun _ => False) w w' := by
  obtain ⟨ao, cap, rfl⟩ := RowAt.form h
  obtain ⟨HB, hb, hbc⟩ := boxed w #[.slice ao l.length cap] 27
  have hp := hbc 0 (.slice ao l.length cap) rfl
  have hF2 := h.keepF (unhide HB)
  have HH := hide (head_v l _ _ hF2 (by omega))
  have HT := hide (hT.keepF (unhide HB))
  have HOK := hide hok
  have hh := headB_le l
  have HE : Hid (widthB l = headB l + wides l) := rfl
  generalize widthB l = R at *
  generalize headB l = H at *
  have HF2 := hide hF2
  clear hbc h hF2 hT hok
  go_enter Tryd.func37, Tryd.ntmps37
  go_wp2_with fail
  refine (unhide HH).mono ?_
  rintro e w2 ⟨rfl, hk⟩
  have HF3 := hide ((unhide HF2).keepF hk)
  have HT3 := hide ((unhide HT).keepF hk)
  have HB2 := hide ((unhide HB).trans hk)
  have hb2 : w.heap.size < w2.heap.size := Nat.lt_of_lt_of_le hb hk.size
  have hp2 := (hk.cell hb id).trans hp
  generalize w.alloc (.cells #[.slice ao l.length cap] 27) = w1 at *
  clear HH HF2 HB hk hp hb HT
  generalize w.heap.size = sb at *
  go_wp2_with fail
  go_loopw [3, 11] (fun n i wr => ∃ k : Nat, k ≤ l.length ∧ i = .int .i64 k ∧ n = .int .i64 (H + wides (l.take k)) ∧ Keeps (fun _ => False) w2 wr) (fun _ i _ => l.length - (intOf i).toNat)
  case atStart => exact ⟨0, Nat.zero_le _, rfl, by simp [wides], Keeps.refl _ _⟩
  case round =>
    obtain ⟨k, hk, rfl, rfl, hkp⟩ := hrel
    have HK := hide hkp
    have ho := wides_range (l.take k)
    rw [List.length_take] at ho
    cases h : l[k]? with
    | none =>
      have h1 := get_ge h
      obtain rfl : k = l.length := by omega
      clear hkp h h1
      rw [List.take_length] at *
      go_wp2_with fail
      go_ret
      exact ⟨ret_int (unhide HE).symm, (unhide HB2).trans (unhide HK)⟩
    | some f =>
      have h1 := get_lt h
      obtain ⟨b, off, c, e, hbl, hc⟩ := (unhide HF3).cells (by omega)
      simp at e
      obtain ⟨rfl, rfl⟩ := e
      have c0 := (hkp.cell hbl id).trans (hc k f h).1
      have c1 := (hkp.cell hbl id).trans (hc k f h).2.1
      have c2 := (hkp.cell hbl id).trans (hc k f h).2.2
      have HO : Hid (wides (l.take (k + 1)) = wides (l.take k) + wideB f.type) := by show _ = _; rw [take_snoc _ _ _ h, wides_snoc]
      have hwr := wideB_range f.type
      have hfo : 0 ≤ wideB f.type := by
        have := List.all_eq_true.1 (unhide HOK) f (List.mem_of_getElem? h)
        unfold fieldOK at this
        simp only [Bool.and_eq_true, decide_eq_true_eq] at this
        exact this.2
      obtain ⟨n, hn, hn4, hcell⟩ := (((unhide HT3).keepF hkp).keepF ((Keeps.refl _ wr).alloc (.cells #[str f.name, .int .i64 f.type, .bool f.opt] 48))).width hfo
      rw [hn] at c1 hcell
      rw [← hn] at hcell
      generalize wides (l.take k) = o at *
      generalize wideB f.type = W at *
      rw [hn] at hcell
      clear hkp h hc hn hfo
      go_wp2_with fail
      go_roundw
      case rel => exact ⟨k + 1, by omega, by go_num, by rw [unhide HO]; go_num, (unhide HK).alloc _⟩
      case measure => simp [intOf]; omega

end Go.Proofs.YtmlhiinlneefnaaDoor
namespace Go.Proofs.YtmlhiinlneefnaaDoor
open Go.RowKit Go.Maps

theorem Tryd.info5 : (Tryd.prog.info? 5).map (fun i => (i.zero, i.size, i.bytes)) = some (some (.int .u8 0), 1, 1) := by kernel_rfl
theorem Tryd.info54 : (Tryd.prog.info? 54).map (fun i => (i.zero, i.size, i.bytes)) = some (some (.agg #[.int .i64 0, .int .i64 0, .string ⟨#[]⟩]), 3, 32) := by kernel_rfl
theorem Tryd.info48 : (Tryd.prog.info? 48).map (fun i => (i.zero, i.size, i.bytes)) = some (some (.agg #[.string ⟨#[]⟩, .int .i64 0, .bool false]), 3, 32) := by kernel_rfl

theorem BytesAt.cells {w : World} {v : Value} {l : Txt} (h : BytesAt w v l) (h0 : 0 < l.length) :
    ∃ b off cap, v = .slice (some ⟨b, off, none⟩) l.length cap ∧ b < w.heap.size ∧ ∀ i c, l[i]? = some c → w.cell? ⟨b, off + i, none⟩ = some (.int .u8 (num c)) := by
  obtain ⟨b, off, cap, e, hb, hc⟩ := RowAt.cells h h0
  exact ⟨b, off, cap, e, hb, fun i c hi => hc i _ (by rw [bs_get, hi]; rfl)⟩

set_option maxRecDepth 100000 in
set_option maxHeartbeats 1000000 in
theorem copyBytes_any (w : World) (v : Value) (l : Txt) (hR : BytesAt w v l) (hl : l.length ≤ 140737488355328) :
    Calls Tryd.prog 11 #[v] w fun e w' => ∃ v', e = .returned v' ∧ w'.ownsRow w.heap.size 5 1 v' l.length (bs l) ∧ Keeps (fun _ => False) w w' := by
  obtain ⟨i0, hi, hz0, hz1, hz2⟩ := info_parts Tryd.info5
  obtain ⟨ao, cap, rfl⟩ := RowAt.form hR
  have HR := hide hR
  have HL := hide hl
  have hl' : l.length ≤ 9223372036854775807 := by omega
  clear hR hl
  go_enter Tryd.func11, Tryd.ntmps11
  go_wp2
  go_loopw [3, 4] (fun o i wr => ∃ k : Nat, k ≤ l.length ∧ i = .int .i64 k ∧ wr.ownsRow w.heap.size 5 1 o k (bs (l.take k)) ∧ Keeps (fun _ => False) w wr) (fun _ i _ => l.length - (intOf i).toNat)
  case atStart => exact ⟨0, Nat.zero_le _, rfl, by simpa [bs] using World.ownsRow_nil w w.heap.size 5 1, Keeps.refl _ _⟩
  case round =>
    obtain ⟨k, hk, rfl, hown, hkeep⟩ := hrel
    have HO := hide hown
    have HK := hide hkeep
    clear hown hkeep
    by_cases hlt : k < l.length
    · obtain ⟨b, off, c, e1, hblt, hc⟩ := (unhide HR).cells (by omega)
      simp at e1
      obtain ⟨rfl, rfl⟩ := e1
      obtain ⟨x, hx⟩ : ∃ x, l[k]? = some x := ⟨_, List.getElem?_eq_getElem hlt⟩
      have p0 := ((unhide HK).cell (o := off + k) hblt id).trans (hc k x hx)
      have HX := hide hx
      have i1 : (k : Int) < (l.length : Int) := by omega
      have i0' : (0 : Int) ≤ (k : Int) := by omega
      clear hc hx
      go_wp2_with (at_builtin; refine wpList_append_lies _ rfl _ _ _ rfl w.heap.size 5 i0 _ 1 1 Tryd.underlying24 hi hz0 hz1 hz2 rfl (by omega) u3 k (bs (l.take k)) rfl ((unhide HO).alloc _) ⟨wr.heap.size, 0, none⟩ 1 1 [.int .u8 (num x)] rfl rfl (World.news_of_block (cs := #[.int .u8 (num x)]) (t := 5) (fr := (0, 0)) (heap_alloc_new wr _)) (by simp [Value.oneCell']) (by omega) (by unfold maxLen; omega) (by have := unhide HL; omega) (by have := (unhide HK).size; simp; omega) (wr.heap.size + 1) (by simp) ?_; intro g cap w1 hown1 hgrow hat hlt1)
      go_roundw
      case rel =>
        refine ⟨k + 1, by omega, by go_num, ?_, ((unhide HK).alloc _).grown hgrow (fun q e hq => by have := ((unhide HO).lt q e).1; omega)⟩
        rw [take_snoc _ _ _ (unhide HX)]
        simpa [bs] using hown1
      case measure => simp [intOf]; omega
    · go_wp2
      go_ret
      obtain rfl : k = l.length := by omega
      refine ⟨_, rfl, ?_, unhide HK⟩
      have := unhide HO
      rwa [List.take_length] at this

set_option maxRecDepth 100000 in
set_option maxHeartbeats 1000000 in
theorem copyVals_any (w : World) (v : Value) (l : List ValA) (hR : ValsAt w v l) (hl : l.length ≤ 1099511627776) :
    Calls Tryd.prog 21 #[v] w fun e w' => ∃ v', e = .returned v' ∧ w'.ownsRow w.heap.size 54 3 v' l.length (vcs l) ∧ Keeps (fun _ => False) w w' := by
  obtain ⟨i0, hi, hz0, hz1, hz2⟩ := info_parts Tryd.info54
  obtain ⟨ao, cap, rfl⟩ := RowAt.form hR
  have HR := hide hR
  have HL := hide hl
  have hl' : l.length ≤ 9223372036854775807 := by omega
  clear hR hl
  go_enter Tryd.func21, Tryd.ntmps21
  go_wp2
  go_loopw [3, 4] (fun o i wr => ∃ k : Nat, k ≤ l.length ∧ i = .int .i64 k ∧ wr.ownsRow w.heap.size 54 3 o k (vcs (l.take k)) ∧ Keeps (fun _ => False) w wr) (fun _ i _ => l.length - (intOf i).toNat)
  case atStart => exact ⟨0, Nat.zero_le _, rfl, by simpa [vcs] using World.ownsRow_nil w w.heap.size 54 3, Keeps.refl _ _⟩
  case round =>
    obtain ⟨k, hk, rfl, hown, hkeep⟩ := hrel
    have HO := hide hown
    have HK := hide hkeep
    clear hown hkeep
    by_cases hlt : k < l.length
    · obtain ⟨b, off, c, e1, hblt, hc⟩ := (unhide HR).cells (by omega)
      simp at e1
      obtain ⟨rfl, rfl⟩ := e1
      obtain ⟨x, hx⟩ : ∃ x, l[k]? = some x := ⟨_, List.getElem?_eq_getElem hlt⟩
      have p0 := ((unhide HK).cell hblt id).trans (hc k x hx).1
      have p1 := ((unhide HK).cell hblt id).trans (hc k x hx).2.1
      have p2 := ((unhide HK).cell hblt id).trans (hc k x hx).2.2
      have HX := hide hx
      have i1 : (k : Int) < (l.length : Int) := by omega
      have i0' : (0 : Int) ≤ (k : Int) := by omega
      clear hc hx
      go_wp2_with (at_builtin; refine wpList_append_lies _ rfl _ _ _ rfl w.heap.size 54 i0 _ 3 32 Tryd.underlying23 hi hz0 hz1 hz2 rfl (by omega) u3 k (vcs (l.take k)) rfl ((unhide HO).alloc _) ⟨wr.heap.size, 0, none⟩ 1 1 x.cs rfl rfl (World.news_of_block (cs := #[.int .i64 x.kind, .int .i64 x.n, str x.s]) (t := 54) (fr := (0, 0)) (heap_alloc_new wr _)) (by simp [Value.oneCell', ValA.cs]) (by omega) (by unfold maxLen; omega) (by have := unhide HL; omega) (by have := (unhide HK).size; simp; omega) (wr.heap.size + 1) (by simp) ?_; intro g cap w1 hown1 hgrow hat hlt1)
      go_roundw
      case rel =>
        refine ⟨k + 1, by omega, by go_num, ?_, ((unhide HK).alloc _).grown hgrow (fun q e hq => by have := ((unhide HO).lt q e).1; omega)⟩
        rw [take_snoc _ _ _ (unhide HX)]
        simpa [vcs] using hown1
      case measure => simp [intOf]; omega
    · go_wp2
      go_ret
      obtain rfl : k = l.length := by omega
      refine ⟨_, rfl, ?_, unhide HK⟩
      have := unhide HO
      rwa [List.take_length] at this

end Go.Proofs.YtmlhiinlneefnaaDoor
namespace Go.Proofs.YtmlhiinlneefnaaDoor
open Go.RowKit Go.Maps

theorem take_succ_eq {α : Type} {a b : List α} {k : Nat} (h : a.take k = b.take k) {x : α} (ha : a[k]? = some x) (hb : b[k]? = some x) : a.take (k + 1) = b.take (k + 1) := by
  rw [take_snoc _ _ _ ha, take_snoc _ _ _ hb, h]
theorem take_end {α : Type} {a b : List α} (hl : a.length = b.length) {k : Nat} (hk : a.length ≤ k) (h : a.take k = b.take k) : a = b := by
  rwa [List.take_of_length_le hk, List.take_of_length_le (by omega)] at h
theorem get_ne {α : Type} {a b : List α} {k : Nat} {x y : α} (ha : a[k]? = some x) (hb : b[k]? = some y) (h : x ≠ y) : a ≠ b := by
  intro e
  rw [e, hb] at ha
  exact h (by simpa using ha.symm)

set_option maxRecDepth 100000 in
set_option maxHeartbeats 1000000 in
theorem eqBytes_any (w : World) (va vb : Value) (la lb : Txt) (ha : BytesAt w va la) (hb : BytesAt w vb lb) (hla : la.length ≤ maxLen) :
    Calls Tryd.prog 9 #[va, vb] w fun e w' => e = .returned (.bool (decide (la = lb))) ∧ ∃ n, w' = w.drewN n := by
  obtain ⟨ao, capa, rfl⟩ := RowAt.form ha
  obtain ⟨bo, capb, rfl⟩ := RowAt.form hb
  unfold maxLen at hla
  by_cases hlen : la.length = lb.length
  · have hne : ((la.length : Int) != (lb.length : Int)) = false := by simp [hlen]
    have HA := hide ha
    have HB := hide hb
    have HL := hide hlen
    clear ha hb hlen
    go_enter Tryd.func9, Tryd.ntmps9
    go_wp2
    go_loopw [5] (fun i wr => ∃ k : Nat, k ≤ la.length ∧ i = .int .i64 k ∧ Hid (la.take k = lb.take k) ∧ ∃ n, wr = w.drewN n) (fun i _ => la.length - (intOf i).toNat)
    case atStart => exact ⟨0, Nat.zero_le _, rfl, rfl, 0, rfl⟩
    case round =>
      obtain ⟨k, hk, rfl, HT, n, rfl⟩ := hrel
      by_cases hlt : k < la.length
      · have hltb : k < lb.length := by have := unhide HL; omega
        obtain ⟨b1, o1, c1, e1, _, hc1⟩ := (unhide HA).cells (by omega)
        obtain ⟨b2, o2, c2, e2, _, hc2⟩ := (unhide HB).cells (by omega)
        simp at e1 e2
        obtain ⟨rfl, rfl⟩ := e1
        obtain ⟨rfl, rfl⟩ := e2
        obtain ⟨x, hx⟩ : ∃ x, la[k]? = some x := ⟨_, List.getElem?_eq_getElem hlt⟩
        obtain ⟨y, hy⟩ : ∃ y, lb[k]? = some y := ⟨_, List.getElem?_eq_getElem hltb⟩
        have q1 := hc1 k x hx
        have q2 := hc2 k y hy
        have i1 : (k : Int) < (la.length : Int) := by omega
        have i2 : (k : Int) < (lb.length : Int) := by omega
        have HX := hide hx
        have HY := hide hy
        clear hc1 hc2 hx hy
        go_wp2_with fail
        go_quiet (fail)
        by_cases hxy : x = y
        · subst hxy
          go_wp2
          go_roundw
          case rel => exact ⟨k + 1, by omega, by go_num, take_succ_eq (unhide HT) (unhide HX) (unhide HY), _, rfl⟩
          case measure => simp [intOf]; omega
        · have hb' : (num x != num y) = true := by rw [bne_iff_ne]; intro e; exact hxy (num_inj e)
          have HN := hide hxy
          clear hxy
          go_wp2
          go_ret
          exact ⟨ret_bool (by symm; rw [decide_eq_false_iff_not]; exact get_ne (unhide HX) (unhide HY) (unhide HN)), n + nq, by simp⟩
      · have HF := hide (take_end (unhide HL) (by omega) (unhide HT))
        go_wp2
        go_ret
        exact ⟨ret_bool (by symm; rw [decide_eq_true_iff]; exact unhide HF), _, rfl⟩
  · have hne : ((la.length : Int) != (lb.length : Int)) = true := by rw [bne_iff_ne]; omega
    have HL := hide hlen
    clear hlen
    go_enter Tryd.func9, Tryd.ntmps9
    go_wp2
    go_ret
    exact ⟨ret_bool (by symm; rw [decide_eq_false_iff_not]; intro e; exact unhide HL (by rw [e])), 0, rfl⟩

set_option maxRecDepth 100000 in
set_option maxHeartbeats 1000000 in
theorem eqVals_any (w : World) (va vb : Value) (la lb : List ValA) (ha : ValsAt w va la) (hb : ValsAt w vb lb) (hla : la.length ≤ maxLen) :
    Calls Tryd.prog 15 #[va, vb] w fun e w' => e = .returned (.bool (decide (la = lb))) ∧ Keeps (fun _ => False) w w' := by
  obtain ⟨ao, capa, rfl⟩ := RowAt.form ha
  obtain ⟨bo, capb, rfl⟩ := RowAt.form hb
  unfold maxLen at hla
  by_cases hlen : la.length = lb.length
  · have hne : ((la.length : Int) != (lb.length : Int)) = false := by simp [hlen]
    have HA := hide ha
    have HB := hide hb
    have HL := hide hlen
    clear ha hb hlen
    go_enter Tryd.func15, Tryd.ntmps15
    go_wp2
    go_loopw [5] (fun i wr => ∃ k : Nat, k ≤ la.length ∧ i = .int .i64 k ∧ Hid (la.take k = lb.take k) ∧ Keeps (fun _ => False) w wr) (fun i _ => la.length - (intOf i).toNat)
    case atStart => exact ⟨0, Nat.zero_le _, rfl, rfl, Keeps.refl _ _⟩
    case round =>
      obtain ⟨k, hk, rfl, HT, hkp⟩ := hrel
      have HK := hide hkp
      by_cases hlt : k < la.length
      · have hltb : k < lb.length := by have := unhide HL; omega
        obtain ⟨b, off, c1, e1, hbl, hc⟩ := (unhide HA).cells (by omega)
        obtain ⟨b', off', c2, e2, hbl', hc'⟩ := (unhide HB).cells (by omega)
        simp at e1 e2
        obtain ⟨rfl, rfl⟩ := e1
        obtain ⟨rfl, rfl⟩ := e2
        obtain ⟨x, hx⟩ : ∃ x, la[k]? = some x := ⟨_, List.getElem?_eq_getElem hlt⟩
        obtain ⟨y, hy⟩ : ∃ y, lb[k]? = some y := ⟨_, List.getElem?_eq_getElem hltb⟩
        have c0 := (hkp.cell hbl id).trans (hc k x hx).1
        have c1 := (hkp.cell hbl id).trans (hc k x hx).2.1
        have c2 := (hkp.cell hbl id).trans (hc k x hx).2.2
        have d0 := (hkp.cell hbl' id).trans (hc' k y hy).1
        have d1 := (hkp.cell hbl' id).trans (hc' k y hy).2.1
        have d2 := (hkp.cell hbl' id).trans (hc' k y hy).2.2
        have i1 : (k : Int) < (la.length : Int) := by omega
        have i2 : (k : Int) < (lb.length : Int) := by omega
        have i0 : (0 : Int) ≤ (k : Int) := by omega
        have HX := hide hx
        have HY := hide hy
        clear hc hc' hx hy hkp
        have HQ := hide (eqValue_any x y wr.drew)
        have z1 : b < wr.drew.heap.size := Nat.lt_of_lt_of_le hbl (unhide HK).size
        have z2 : b' < wr.drew.heap.size := Nat.lt_of_lt_of_le hbl' (unhide HK).size
        unfold ValA.v at HQ
        go_wp2_with fail
        go_region_held3 (fun w' => w'.cell? ⟨b, off + k * 3, none⟩ = some (.int .i64 x.kind) ∧ w'.cell? ⟨b, off + k * 3 + 1, none⟩ = some (.int .i64 x.n) ∧ w'.cell? ⟨b, off + k * 3 + 2, none⟩ = some (str x.s) ∧ w'.cell? ⟨b', off' + k * 3, none⟩ = some (.int .i64 y.kind) ∧ w'.cell? ⟨b', off' + k * 3 + 1, none⟩ = some (.int .i64 y.n) ∧ w'.cell? ⟨b', off' + k * 3 + 2, none⟩ = some (str y.s))
          (go_keep)
          (first
            | (go_at_call 32
               refine (unhide HQ).mono ?_
               rintro e w4 ⟨rfl, hk4⟩
               have q1 := (hk4.cell z1 id).trans c0
               have q2 := (hk4.cell z1 id).trans c1
               have q3 := (hk4.cell z1 id).trans c2
               have q4 := (hk4.cell z2 id).trans d0
               have q5 := (hk4.cell z2 id).trans d1
               have q6 := (hk4.cell z2 id).trans d2
               have K4 := hide (((unhide HK).drewN 1).trans hk4)
               clear hk4))
        by_cases hxy : x = y
        · rw [decide_eq_true hxy]
          have HT2 : Hid (la.take (k + 1) = lb.take (k + 1)) := take_succ_eq (unhide HT) (unhide HX) (by rw [hxy]; exact unhide HY)
          clear hxy
          go_wp2_with fail
          go_roundw
          case rel => exact ⟨k + 1, by omega, by go_num, HT2, unhide K4⟩
          case measure => simp [intOf]; omega
        · rw [decide_eq_false hxy]
          have HN := hide hxy
          clear hxy
          go_wp2_with fail
          go_ret
          exact ⟨ret_bool (by symm; rw [decide_eq_false_iff_not]; exact get_ne (unhide HX) (unhide HY) (unhide HN)), unhide K4⟩
      · have HF := hide (take_end (unhide HL) (by omega) (unhide HT))
        clear hkp
        go_wp2
        go_ret
        exact ⟨ret_bool (by symm; rw [decide_eq_true_iff]; exact unhide HF), unhide HK⟩
  · have hne : ((la.length : Int) != (lb.length : Int)) = true := by rw [bne_iff_ne]; omega
    have HL := hide hlen
    clear hlen
    go_enter Tryd.func15, Tryd.ntmps15
    go_wp2
    go_ret
    exact ⟨ret_bool (by symm; rw [decide_eq_false_iff_not]; intro e; exact unhide HL (by rw [e])), Keeps.refl _ _⟩

end Go.Proofs.YtmlhiinlneefnaaDoor
namespace Go.Proofs.YtmlhiinlneefnaaDoor
open Go.RowKit Go.Maps

set_option maxRecDepth 100000 in
set_option maxHeartbeats 2000000 in
theorem eqSchema_any (w : World) (va vb : Value) (la lb : List FieldA) (ha : FldsAt w va la) (hb : FldsAt w vb lb) (hla : la.length ≤ maxLen) :
    Calls Tryd.prog 19 #[.agg #[va], .agg #[vb]] w fun e w' => e = .returned (.bool (decide (la = lb))) ∧ Keeps (fun _ => False) w w' := by
  obtain ⟨ao, capa, rfl⟩ := RowAt.form ha
  obtain ⟨bo, capb, rfl⟩ := RowAt.form hb
  unfold maxLen at hla
  obtain ⟨H1, h1, hc1⟩ := boxed w #[.slice ao la.length capa] 27
  obtain ⟨H2, h2, hc2⟩ := boxed (w.alloc (.cells #[.slice ao la.length capa] 27)) #[.slice bo lb.length capb] 27
  have hp1 := ((unhide H2).cell (o := 0) h1 id).trans (hc1 0 _ rfl)
  have hp2 := hc2 0 _ rfl
  have h1' := Nat.lt_of_lt_of_le h1 (unhide H2).size
  have HB := hide ((unhide H1).trans (unhide H2))
  have HA := hide (ha.keepF (unhide HB))
  have HBB := hide (hb.keepF (unhide HB))
  have hsz : (w.alloc (.cells #[.slice ao la.length capa] 27)).heap.size = w.heap.size + 1 := by simp
  rw [hsz] at h2 hp2
  clear ha hb hc1 hc2 H1 H2 h1 hsz
  go_enter Tryd.func19, Tryd.ntmps19
  by_cases hlen : la.length = lb.length
  · have hne : ((la.length : Int) != (lb.length : Int)) = false := by simp [hlen]
    have HL := hide hlen
    clear hlen
    go_wp2
    generalize (w.alloc (.cells #[.slice ao la.length capa] 27)).alloc (.cells #[.slice bo lb.length capb] 27) = w2 at *
    generalize w.heap.size = sb at *
    go_loopw [5] (fun i wr => ∃ k : Nat, k ≤ la.length ∧ i = .int .i64 k ∧ Hid (la.take k = lb.take k) ∧ Keeps (fun _ => False) w2 wr) (fun i _ => la.length - (intOf i).toNat)
    case atStart => exact ⟨0, Nat.zero_le _, rfl, rfl, Keeps.refl _ _⟩
    case round =>
      obtain ⟨k, hk, rfl, HT, hkp⟩ := hrel
      have HK := hide hkp
      have p1 := (hkp.cell (o := 0) h1' id).trans hp1
      have p2 := (hkp.cell (o := 0) h2 id).trans hp2
      by_cases hlt : k < la.length
      · have hltb : k < lb.length := by have := unhide HL; omega
        obtain ⟨b, off, c1, e1, hbl, hc⟩ := (unhide HA).cells (by omega)
        obtain ⟨b', off', c2, e2, hbl', hc'⟩ := (unhide HBB).cells (by omega)
        simp at e1 e2
        obtain ⟨rfl, rfl⟩ := e1
        obtain ⟨rfl, rfl⟩ := e2
        obtain ⟨x, hx⟩ : ∃ x, la[k]? = some x := ⟨_, List.getElem?_eq_getElem hlt⟩
        obtain ⟨y, hy⟩ : ∃ y, lb[k]? = some y := ⟨_, List.getElem?_eq_getElem hltb⟩
        have c0 := (hkp.cell hbl id).trans (hc k x hx).1
        have c1 := (hkp.cell hbl id).trans (hc k x hx).2.1
        have c2 := (hkp.cell hbl id).trans (hc k x hx).2.2
        have d0 := (hkp.cell hbl' id).trans (hc' k y hy).1
        have d1 := (hkp.cell hbl' id).trans (hc' k y hy).2.1
        have d2 := (hkp.cell hbl' id).trans (hc' k y hy).2.2
        have z0 : sb < wr.heap.size := Nat.lt_of_lt_of_le h1' (unhide HK).size
        have z1 : b < wr.heap.size := Nat.lt_of_lt_of_le hbl (unhide HK).size
        have z2 : b' < wr.heap.size := Nat.lt_of_lt_of_le hbl' (unhide HK).size
        have z3 : sb + 1 < wr.heap.size := Nat.lt_of_lt_of_le h2 (unhide HK).size
        have i1 : (k : Int) < (la.length : Int) := by omega
        have i2 : (k : Int) < (lb.length : Int) := by omega
        have HX := hide hx
        have HY := hide hy
        clear hc hc' hx hy hkp
        go_wp2
        case roundEnd =>
          rename_i ho
          have HXY : Hid (x = y) := by
            obtain ⟨n1, t1, o1⟩ := x
            obtain ⟨n2, t2, o2⟩ := y
            show _ = _
            simp_all
          go_roundw
          case rel => exact ⟨k + 1, by omega, by go_num, take_succ_eq (unhide HT) (unhide HX) (by rw [unhide HXY]; exact unhide HY), ((unhide HK).alloc _).alloc _⟩
          case measure => simp [intOf]; omega
        all_goals
          rename_i ho
          have HXY : Hid (x ≠ y) := by
            rintro rfl
            simp at ho
          go_ret
          exact ⟨ret_bool (by symm; rw [decide_eq_false_iff_not]; exact get_ne (unhide HX) (unhide HY) (unhide HXY)), (unhide HB).trans (((unhide HK).alloc _).alloc _)⟩
      · have HF := hide (take_end (unhide HL) (by omega) (unhide HT))
        clear hkp
        go_wp2
        go_ret
        exact ⟨ret_bool (by symm; rw [decide_eq_true_iff]; exact unhide HF), (unhide HB).trans (unhide HK)⟩
  · have hne : ((la.length : Int) != (lb.length : Int)) = true := by rw [bne_iff_ne]; omega
    have HL := hide hlen
    clear hlen
    go_wp2
    go_ret
    exact ⟨ret_bool (by symm; rw [decide_eq_false_iff_not]; intro e; exact unhide HL (by rw [e])), unhide HB⟩

end Go.Proofs.YtmlhiinlneefnaaDoor
namespace Go.Proofs.YtmlhiinlneefnaaDoor
open Go.RowKit Go.Maps

theorem ownsRow_kept {w w' : World} {B e size n : Nat} {v : Value} {xs : List Value} (h : w.ownsRow B e size v n xs) {F : Nat → Prop} (hk : Keeps F w w') (hF : ∀ k, v.ownBlock = some k → ¬ F k) : w'.ownsRow B e size v n xs := by
  obtain ⟨h1, h2⟩ := h
  refine ⟨h1, ?_⟩
  rcases h2 with h2 | ⟨g, cap, cur, hv, hb, hg, rest⟩
  · exact Or.inl h2
  · exact Or.inr ⟨g, cap, cur, hv, hb, by rw [hk.block g (lt_of_block hg) (hF g (by rw [hv]; rfl))]; exact hg, rest⟩
theorem ownsRow_ne {w : World} {B e size n : Nat} {v : Value} {xs : List Value} (h : w.ownsRow B e size v n xs) {k : Nat} {c : Array Value} {t : TypeId} {fr : Nat × Nat} (hb : w.heap[k]? = some (.cells c t fr)) (ht : t ≠ e) : v.ownBlock ≠ some k := by
  rcases h.2 with ⟨hv, _⟩ | ⟨g, cap, cur, hv, _, hg, _⟩
  · rw [hv]; simp [Value.ownBlock]
  · rw [hv]
    simp only [Value.ownBlock, ne_eq, Option.some.injEq]
    rintro rfl
    rw [hb] at hg
    simp at hg
    exact ht hg.2.1
theorem ownsRow_lower {w : World} {B C e size n : Nat} {v : Value} {xs : List Value} (h : w.ownsRow B e size v n xs) (hC : C ≤ B) : w.ownsRow C e size v n xs := by
  obtain ⟨h1, h2⟩ := h
  refine ⟨h1, ?_⟩
  rcases h2 with h2 | ⟨g, cap, cur, hv, hb, rest⟩
  · exact Or.inl h2
  · exact Or.inr ⟨g, cap, cur, hv, Nat.le_trans hC hb, rest⟩
theorem Keeps.narrow {F : Nat → Prop} {a b c : World} (h : Keeps (fun _ => False) a b) (k : Keeps F b c) (hF : ∀ i, F i → a.heap.size ≤ i) : Keeps (fun _ => False) a c :=
  ⟨k.os.trans h.os, k.tape.trans h.tape, k.output.trans h.output, Nat.le_trans h.size k.size, fun i hi _ => (k.block i (Nat.lt_of_lt_of_le hi h.size) (fun f => by have := hF i f; omega)).trans (h.block i hi id)⟩

theorem keeps_set (w : World) (b o : Nat) (u : Value) : Keeps (fun q => q = b) w (w.setCell ⟨b, o, none⟩ u) :=
  (Keeps.refl (fun q => q = b) w).setCell (p := ⟨b, o, none⟩) (fun _ => rfl) u

set_option maxRecDepth 100000 in
set_option maxHeartbeats 2000000 in
theorem copySchema_any (w : World) (v : Value) (l : List FieldA) (h : FldsAt w v l) (hl : l.length ≤ 1099511627776) :
    Calls Tryd.prog 17 #[.agg #[v]] w fun e w' => ∃ v', e = .returned (.agg #[v']) ∧ w'.ownsRow w.heap.size 48 3 v' l.length (fcs l) ∧ Keeps (fun _ => False) w w' := by
  obtain ⟨i0, hi, hz0, hz1, hz2⟩ := info_parts Tryd.info48
  obtain ⟨ao, cap, rfl⟩ := RowAt.form h
  obtain ⟨w3, hw3⟩ : ∃ w3, w3 = ((w.alloc (.cells #[.slice ao l.length cap] 27)).alloc (.cells #[.slice none 0 0] 27)).alloc (.cells #[.slice none 0 0] 27) := ⟨_, rfl⟩
  have hK : Keeps (fun _ => False) w w3 := by rw [hw3]; exact (((Keeps.refl _ _).alloc _).alloc _).alloc _
  have hs3 : w3.heap.size = w.heap.size + 3 := by rw [hw3]; simp
  have b0 : w3.heap[w.heap.size]? = some (.cells #[.slice ao l.length cap] 27 (0, 0)) := by
    rw [hw3, Below.heap_alloc _ _ _ (by simp; omega), Below.heap_alloc _ _ _ (by simp)]
    exact heap_alloc_new w _
  have b1 : w3.heap[w.heap.size + 1]? = some (.cells #[.slice none 0 0] 27 (0, 0)) := by
    rw [hw3, Below.heap_alloc _ _ _ (by simp)]
    have := heap_alloc_new (w.alloc (.cells #[.slice ao l.length cap] 27)) (.cells #[.slice none 0 0] 27)
    simpa using this
  have b2 : w3.heap[w.heap.size + 1 + 1]? = some (.cells #[.slice none 0 0] 27 (0, 0)) := by
    rw [hw3]
    have := heap_alloc_new ((w.alloc (.cells #[.slice ao l.length cap] 27)).alloc (.cells #[.slice none 0 0] 27)) (.cells #[.slice none 0 0] 27)
    simpa using this
  have HF := hide (h.keepF hK)
  have HW := hide hw3
  have HK := hide hK
  have HL := hide hl
  have B0 := hide b0
  have B1 := hide b1
  have B2 := hide b2
  have HS := hide hs3
  clear h hw3 hK b0 b1 b2 hs3 hl
  have hl' : l.length ≤ 9223372036854775807 := by have := unhide HL; omega
  go_enter Tryd.func17, Tryd.ntmps17
  go_wp2
  rw [← unhide HW]
  go_loopw [4] (fun i wr => ∃ (k : Nat) (o : Value), k ≤ l.length ∧ i = .int .i64 k ∧ wr.heap[w.heap.size + 1 + 1]? = some (.cells #[o] 27 (0, 0)) ∧ wr.ownsRow w3.heap.size 48 3 o k (fcs (l.take k)) ∧ Keeps (fun q => q = w.heap.size + 1 + 1) w3 wr) (fun i _ => l.length - (intOf i).toNat)
  case atStart => exact ⟨0, _, Nat.zero_le _, rfl, unhide B2, by simpa [fcs] using World.ownsRow_nil w3 w3.heap.size 48 3, Keeps.refl _ _⟩
  case round =>
    obtain ⟨k, o, hk, rfl, hbo, hown, hkp⟩ := hrel
    obtain ⟨oo, oc, rfl⟩ := (rowAt_own hown).form
    have HBo := hide hbo
    have HO := hide hown
    have HP := hide hkp
    have p0 : wr.cell? ⟨w.heap.size, 0, none⟩ = some (.slice ao l.length cap) := (hkp.cell (lt_of_block (unhide B0)) (by show ¬ _ = _; omega)).trans (by rw [cell_of_blk (unhide B0)]; rfl)
    have p2 : wr.cell? ⟨w.heap.size + 1 + 1, 0, none⟩ = some (.slice oo k oc) := by rw [cell_of_blk hbo]; rfl
    have f2 := frozen_of_blk hbo 0
    have z2 := lt_of_block hbo
    have z0 : w.heap.size < wr.heap.size := by omega
    by_cases hlt : k < l.length
    · obtain ⟨b, off, c1, e1, hbl, hc⟩ := (unhide HF).cells (by omega)
      simp at e1
      obtain ⟨rfl, rfl⟩ := e1
      obtain ⟨f, hf⟩ : ∃ f, l[k]? = some f := ⟨_, List.getElem?_eq_getElem hlt⟩
      have hbne : b ≠ w.heap.size + 1 + 1 := by
        rintro rfl
        have h1 := (hc k f hf).2.1
        have h2 := (hc k f hf).2.2
        rw [cell_of_blk (unhide B2)] at h1 h2
        rw [Array.getElem?_eq_none (by simp)] at h2
        cases h2
      have c0 := (hkp.cell hbl (by show ¬ _ = _; omega)).trans (hc k f hf).1
      have c1 := (hkp.cell hbl (by show ¬ _ = _; omega)).trans (hc k f hf).2.1
      have c2 := (hkp.cell hbl (by show ¬ _ = _; omega)).trans (hc k f hf).2.2
      have z1 : b < wr.heap.size := Nat.lt_of_lt_of_le hbl hkp.size
      have HX := hide hf
      have HN := hide (ownsRow_ne hown hbo (by decide))
      have i1 : (k : Int) < (l.length : Int) := by omega
      have i0' : (0 : Int) ≤ (k : Int) := by omega
      clear hc hf hbo hown hkp
      go_wp2_with fail
      go_region_law (first
        | (refine step_append_lies _ (by rfl) _ _ _ (by rfl) w3.heap.size 48 i0 _ 3 32 Tryd.underlying25 hi hz0 hz1 hz2 rfl (by omega) (.slice oo k oc) k (fcs (l.take k)) (by rfl) (((unhide HO).alloc _).drew)
            ⟨wr.heap.size, 0, none⟩ 1 1 f.cs (by rfl) (by rfl) (World.news_of_block (cs := #[str f.name, .int .i64 f.type, .bool f.opt]) (t := 48) (fr := (0, 0)) (by exact heap_alloc_new wr _)) (by simp [Value.oneCell', FieldA.cs])
            (by omega) (by unfold maxLen; omega) (by have := unhide HL; omega) (by have := (unhide HP).size; simp; omega) (wr.heap.size + 1) (by simp) ?_; intro g cap' w5 hown2 hgrow hat hlt2
           have f2' : w5.frozen? ⟨w.heap.size + 1 + 1, 0, none⟩ = false := by (rw [hgrow.frozen_far _ (by simp; omega) (Ne.symm (unhide HN))]; simpa [World.frozen?_alloc_past, z2] using f2)
           have p2' : w5.cell? ⟨w.heap.size + 1 + 1, 0, none⟩ = some (.slice oo k oc) := by (rw [hgrow.cell_far _ (by simp; omega) (Ne.symm (unhide HN))]; simpa [World.cell?_alloc_past, z2] using p2)))
      all_goals
        have hb5 : w5.heap[w.heap.size + 1 + 1]? = some (.cells #[.slice oo k oc] 27 (0, 0)) := by
          rw [hgrow.block (w.heap.size + 1 + 1) (by simp; omega) (Ne.symm (unhide HN))]
          show (wr.alloc _).heap[w.heap.size + 1 + 1]? = _
          rw [Below.heap_alloc _ _ _ z2]
          exact unhide HBo
        have H5 := hide hb5
        have HO2 := hide hown2
        have HG2 := hide hgrow
        clear hb5 hown2 hgrow
        go_wp2
        go_roundw
        case rel =>
          refine ⟨k + 1, .slice (some ⟨g, 0, none⟩) (k + 1) cap', by omega, by go_num, ?_, ?_, ?_⟩
          · rw [heap_setCell_at (unhide H5)]; rfl
          · rw [take_snoc _ _ _ (unhide HX)]
            have h1 : w5.ownsRow w3.heap.size 48 3 (.slice (some ⟨g, 0, none⟩) (k + 1) cap') (k + 1) (fcs (l.take k ++ [f])) := by simpa [fcs] using unhide HO2
            exact ownsRow_kept (F := fun q => q = w.heap.size + 1 + 1) h1 (keeps_set w5 _ 0 _) (fun q e e2 => by subst e2; exact ownsRow_ne h1 (unhide H5) (by decide) e)
          · exact ((((unhide HP).alloc _).drew).grown (unhide HG2) (fun q e hq => by have := ((unhide HO).lt q e).1; omega)).setCell (fun _ => rfl) _
        case measure => simp [intOf]; omega
    · obtain rfl : k = l.length := by omega
      have hb1 : wr.heap[w.heap.size + 1]? = some (.cells #[.slice none 0 0] 27 (0, 0)) := by rw [hkp.block _ (lt_of_block (unhide B1)) (by show ¬ _ = _; omega)]; exact unhide B1
      have p1 : wr.cell? ⟨w.heap.size + 1, 0, none⟩ = some (.slice none 0 0) := by rw [cell_of_blk hb1]; rfl
      have f1 := frozen_of_blk hb1 0
      have H1 := hide hb1
      have HN1 := hide (ownsRow_ne hown hb1 (by decide))
      clear hb1 hown hkp hbo
      go_wp2
      have hq : (wr.setCell ⟨w.heap.size + 1, 0, none⟩ (.slice oo l.length oc)).cell? ⟨w.heap.size + 1, 0, none⟩ = some (.slice oo l.length oc) := by rw [cell_of_blk (heap_setCell_at (unhide H1) _)]; rfl
      refine bodyPost_ret (v := .agg #[.slice oo l.length oc]) (by simp [results, go_sem, hq]) rfl ?_
      refine ⟨.slice oo l.length oc, rfl, ?_, ?_⟩
      · have h1 := unhide HO
        rw [List.take_length] at h1
        exact ownsRow_lower (ownsRow_kept (F := fun q => q = w.heap.size + 1) h1 (keeps_set wr _ 0 _) (fun q e e2 => unhide HN1 (by rw [← e2]; exact e))) (unhide HK).size
      · exact (unhide HK).narrow (F := fun q => q = w.heap.size + 1 + 1 ∨ q = w.heap.size + 1) (((unhide HP).mono (fun q _ h => Or.inl h)).then (keeps_set wr (w.heap.size + 1) 0 _) (fun q _ h => Or.inr h)) (fun q h => by omega)

end Go.Proofs.YtmlhiinlneefnaaDoor
namespace Go.Proofs.YtmlhiinlneefnaaDoor
open Go.RowKit Go.Maps

/-- The groups of a number. -/
def groups (u : Nat) : Txt := if _h : u < 128 then [UInt8.ofNat u] else UInt8.ofNat (u % 128 + 128) :: groups (u / 128)
theorem groups_small {u : Nat} (h : u < 128) : groups u = [UInt8.ofNat u] := by rw [groups, dif_pos h]
theorem groups_big {u : Nat} (h : 128 ≤ u) : groups u = UInt8.ofNat (u % 128 + 128) :: groups (u / 128) := by rw [groups, dif_neg (by omega)]
theorem groups_length (k : Nat) : ∀ u, u < 128 ^ (k + 1) → (groups u).length ≤ k + 1 := by
  induction k with
  | zero => intro u h; rw [groups_small (by simpa using h)]; simp
  | succ k ih =>
    intro u h
    by_cases h0 : u < 128
    · rw [groups_small h0]; simp
    · rw [groups_big (by omega)]
      have := ih (u / 128) (by rw [Nat.pow_succ] at h; omega)
      simp; omega
theorem groups_10 (u : Nat) (h : u ≤ 18446744073709551615) : (groups u).length ≤ 10 := groups_length 9 u (by omega)
theorem num_of (u : Nat) (h : u < 256) : num (UInt8.ofNat u) = u := by unfold num; rw [UInt8.toNat_ofNat']; omega

/-- A slice that is appended to: its own block is the old one, or a new one. -/
theorem own_step {S' : Nat} {v o o' : Value} {S g : Nat} {n c : Nat} (h : o.ownBlock = v.ownBlock ∨ ∀ q, o.ownBlock = some q → S ≤ q) (hat : o.ownBlock = some g ∨ g = S') (hS : S ≤ S') (e : o' = .slice (some ⟨g, 0, none⟩) n c) : o'.ownBlock = v.ownBlock ∨ ∀ q, o'.ownBlock = some q → S ≤ q := by
  subst e
  have e1 : (Value.slice (some ⟨g, 0, none⟩) n c).ownBlock = some g := rfl
  rw [e1]
  rcases hat with hat | rfl
  · rcases h with h | h
    · left; rw [← h, hat]
    · right; intro q hq; simp at hq; subst hq; exact h _ hat
  · right; intro q hq; simp at hq; omega

def tn (n : Int) : Nat := (turned n).toNat
theorem tn_eq (n : Int) : turned n = (tn n : Int) := by unfold tn turned; split <;> omega
theorem tn_le (n : Int) (h0 : -9223372036854775808 ≤ n) (h1 : n ≤ 9223372036854775807) : tn n ≤ 18446744073709551615 := by unfold tn turned; split <;> omega

/-- The int at a place of some bytes, and the place behind it (-1: none). -/
def readG : Nat → Txt → Nat → Nat → Option (Nat × Nat)
  | 0, _, _, _ => none
  | _ + 1, [], _, _ => none
  | f + 1, c :: r, u, k =>
    if c.toNat < 128 then some ((u + 128 ^ k * (c.toNat % 128)) % 18446744073709551616, k + 1)
    else readG f r ((u + 128 ^ k * (c.toNat % 128)) % 18446744073709551616) (k + 1)
def readIntB (t : Txt) (a : Nat) : Int × Int := match readG 10 (t.drop a) 0 0 with
  | none => (0, -1)
  | some (u, k) => (backB u, (a + k : Nat))
theorem pow128 (k : Nat) (h : k ≤ 9) : 128 ^ k ≤ 9223372036854775808 := by
  have : 128 ^ k ≤ 128 ^ 9 := Nat.pow_le_pow_right (by omega) h
  omega
theorem wrapU_add (U X : Int) : IntKind.u64.wrap (U + IntKind.u64.wrap X) = (U + X) % 18446744073709551616 := by
  rw [IntKind.wrap_u64, IntKind.wrap_u64]; omega

theorem ret_ii {k j : IntKind} {a b c d : Int} (h : a = b) (h2 : c = d) : Ending.returned (.tuple #[.int k a, .int j c]) = .returned (.tuple #[.int k b, .int j d]) := by rw [h, h2]

end Go.Proofs.YtmlhiinlneefnaaDoor
