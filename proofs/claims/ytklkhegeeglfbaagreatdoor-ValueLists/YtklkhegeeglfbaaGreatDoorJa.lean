import Derived.Test.YtklkhegeeglfbaaGreatDoorProg
import Derived.WalkKit
import Derived.WalkSpells
import Derived.WalkLawsBesides
import Derived.Laws.CopyOwn
import Derived.Maps.OwnSet
import Derived.Deep.AppendLies
import Derived.BigQuiet
import Derived.Deep.QuietTactic
import Derived.Deep.RegionHeld3
import Derived.Laws.IdiomStrings
namespace Go.Proofs.YtklkhegeeglfbaaGreatDoor
open Go.RowKit Go.Maps

theorem ret_int {k : IntKind} {a b : Int} (h : a = b) : Ending.returned (.int k a) = .returned (.int k b) := by rw [h]
theorem ret_bool {a b : Bool} (h : a = b) : Ending.returned (.bool a) = .returned (.bool b) := by rw [h]
theorem hide {p : Prop} (h : p) : Hid p := h
theorem unhide {p : Prop} (h : Hid p) : p := h

/-- All blocks that are there and are not named by F hold what they held. -/
structure Keeps (F : Nat → Prop) (w w' : World) : Prop where
  os : w'.os = w.os
  tape : w'.tape = w.tape
  output : w'.output = w.output
  size : w.heap.size ≤ w'.heap.size
  block : ∀ k, k < w.heap.size → ¬ F k → w'.heap[k]? = w.heap[k]?

theorem Keeps.refl (F : Nat → Prop) (w : World) : Keeps F w w := ⟨rfl, rfl, rfl, Nat.le_refl _, fun _ _ _ => rfl⟩
theorem Keeps.trans {F : Nat → Prop} {a b c : World} (h : Keeps F a b) (k : Keeps F b c) : Keeps F a c :=
  ⟨k.os.trans h.os, k.tape.trans h.tape, k.output.trans h.output, Nat.le_trans h.size k.size, fun i hi hF => (k.block i (Nat.lt_of_lt_of_le hi h.size) hF).trans (h.block i hi hF)⟩
theorem Keeps.mono {F G : Nat → Prop} {a b : World} (h : Keeps F a b) (hFG : ∀ k, k < a.heap.size → F k → G k) : Keeps G a b :=
  ⟨h.os, h.tape, h.output, h.size, fun k hk hG => h.block k hk (fun hf => hG (hFG k hk hf))⟩
theorem Keeps.any {G : Nat → Prop} {a b : World} (h : Keeps (fun _ => False) a b) : Keeps G a b := h.mono (fun _ _ f => f.elim)
theorem Keeps.drew {F : Nat → Prop} {a b : World} (h : Keeps F a b) : Keeps F a b.drew := ⟨h.os, h.tape, h.output, h.size, h.block⟩
theorem drewN_os (w : World) : ∀ n, (w.drewN n).os = w.os ∧ (w.drewN n).tape = w.tape ∧ (w.drewN n).output = w.output ∧ (w.drewN n).heap = w.heap
  | 0 => ⟨rfl, rfl, rfl, rfl⟩
  | n + 1 => by
    have := drewN_os w.drew n
    exact this
theorem Keeps.drewN {F : Nat → Prop} {a b : World} (h : Keeps F a b) (n : Nat) : Keeps F a (b.drewN n) := by
  obtain ⟨h1, h2, h3, h4⟩ := drewN_os b n
  exact ⟨h1.trans h.os, h2.trans h.tape, h3.trans h.output, by rw [h4]; exact h.size, by rw [h4]; exact h.block⟩
theorem Keeps.alloc {F : Nat → Prop} {a b : World} (h : Keeps F a b) (o : Obj) : Keeps F a (b.alloc o) :=
  h.trans ⟨rfl, rfl, rfl, by simp, fun k hk _ => Below.heap_alloc _ _ _ hk⟩
theorem Keeps.setCell {F : Nat → Prop} {a b : World} (h : Keeps F a b) {p : Addr} (hp : p.block < a.heap.size → F p.block) (u : Value) : Keeps F a (b.setCell p u) :=
  ⟨h.os, h.tape, h.output, by simpa using h.size, fun k hk hF => by
    have hne : k ≠ p.block := fun e => hF (by rw [e]; exact hp (by rw [← e]; exact hk))
    rw [Below.heap_setCell _ _ _ _ hne]; exact h.block k hk hF⟩
theorem Keeps.grown {F : Nat → Prop} {a b c : World} {row : Option Nat} (h : Keeps F a b) (hg : b.grownBy c row) (hr : ∀ k, row = some k → k < a.heap.size → F k) : Keeps F a c :=
  ⟨hg.os.trans h.os, hg.tape.trans h.tape, hg.output.trans h.output, Nat.le_trans h.size hg.size, fun k hk hF => by
    rw [hg.block k (Nat.lt_of_lt_of_le hk h.size) (fun e => hF (hr k e.symm hk))]; exact h.block k hk hF⟩
theorem Keeps.below {F : Nat → Prop} {a b : World} (h : Keeps F a b) {B : Nat} (hB : B ≤ a.heap.size) (hF : ∀ k, F k → B ≤ k) : Below B a b :=
  ⟨h.os, h.tape, h.output, h.size, fun k hk => h.block k (by omega) (fun f => by have := hF k f; omega)⟩
theorem Keeps.cell {F : Nat → Prop} {a b : World} (h : Keeps F a b) {k o : Nat} (hk : k < a.heap.size) (hF : ¬ F k) : b.cell? ⟨k, o, none⟩ = a.cell? ⟨k, o, none⟩ :=
  World.cell?_of_block (w := a) (h.block k hk hF)

theorem heap_setCell_at {w : World} {b o : Nat} {c : Array Value} {t : TypeId} {fr : Nat × Nat} (h : w.heap[b]? = some (.cells c t fr)) (v : Value) :
    (w.setCell ⟨b, o, none⟩ v).heap[b]? = some (.cells (c.setIfInBounds o v) t fr) := by
  simp [World.setCell, Array.getElem?_modify, h]
theorem lt_of_block {w : World} {b : Nat} {o : Obj} (h : w.heap[b]? = some o) : b < w.heap.size := (Array.getElem?_eq_some_iff.1 h).1
theorem cell_of_blk {w : World} {b : Nat} {c : Array Value} {t : TypeId} {fr : Nat × Nat} (h : w.heap[b]? = some (.cells c t fr)) (o : Nat) : w.cell? ⟨b, o, none⟩ = c[o]? := by
  simp [World.cell?, h]
theorem frozen_of_blk {w : World} {b : Nat} {c : Array Value} {t : TypeId} (h : w.heap[b]? = some (.cells c t (0, 0))) (o : Nat) : w.frozen? ⟨b, o, none⟩ = false := by
  simp [World.frozen?, h]


theorem Keeps.then {F G : Nat → Prop} {a b c : World} (h : Keeps G a b) (k : Keeps F b c) (hF : ∀ i, i < a.heap.size → F i → G i) : Keeps G a c :=
  ⟨k.os.trans h.os, k.tape.trans h.tape, k.output.trans h.output, Nat.le_trans h.size k.size, fun i hi hG => (k.block i (Nat.lt_of_lt_of_le hi h.size) (fun f => hG (hF i hi f))).trans (h.block i hi hG)⟩
theorem keeps_drewN (w : World) (n : Nat) : Keeps (fun _ => False) w (w.drewN n) := (Keeps.refl _ w).drewN n

theorem take_snoc {α : Type} (ws : List α) (k : Nat) (x : α) (h : ws[k]? = some x) : ws.take (k + 1) = ws.take k ++ [x] := by
  obtain ⟨hk, rfl⟩ := List.getElem?_eq_some_iff.1 h
  rw [List.take_succ_eq_append_getElem hk]

/-- A text. -/
abbrev Txt := List UInt8
abbrev str (l : Txt) : Value := .string ⟨l.toArray⟩
/-- A byte's number. -/
def num (c : UInt8) : Int := (c.toNat : Int)
theorem num_range (c : UInt8) : 0 ≤ num c ∧ num c ≤ 255 := by
  have := c.toNat_lt
  unfold num
  omega
/-- Bytes as cells. -/
def bs (l : Txt) : List Value := l.map fun c => Value.int .u8 (num c)
theorem bs_length (l : Txt) : (bs l).length = l.length := by simp [bs]
theorem bs_get (l : Txt) (j : Nat) : (bs l)[j]? = (l[j]?).map (fun c => Value.int .u8 (num c)) := by simp [bs]

/-- A slice of n elements whose cells read as xs. -/
structure RowAt (w : World) (v : Value) (n : Nat) (xs : List Value) : Prop where
  form : ∃ ao cap, v = .slice ao n cap
  cells : 0 < n → ∃ b off cap, v = .slice (some ⟨b, off, none⟩) n cap ∧ b < w.heap.size ∧ ∀ j x, xs[j]? = some x → w.cell? ⟨b, off + j, none⟩ = some x
  room : ∀ ao m cap, v = .slice ao m cap → m ≤ cap

theorem RowAt.kept {w w' : World} {v : Value} {n : Nat} {l : List Value} (h : RowAt w v n l) {F : Nat → Prop} (hk : Keeps F w w') (hF : ∀ k, v.ownBlock = some k → ¬ F k) : RowAt w' v n l := by
  refine ⟨h.form, fun h0 => ?_, h.room⟩
  obtain ⟨b, off, cap, e, hb, hc⟩ := h.cells h0
  refine ⟨b, off, cap, e, Nat.lt_of_lt_of_le hb hk.size, fun j x hx => ?_⟩
  rw [hk.cell hb (hF b (by rw [e]; rfl))]
  exact hc j x hx
theorem RowAt.keepF {w w' : World} {v : Value} {n : Nat} {l : List Value} (h : RowAt w v n l) (hk : Keeps (fun _ => False) w w') : RowAt w' v n l := h.kept hk (fun _ _ => id)
theorem RowAt.drewN {w : World} {v : Value} {n : Nat} {l : List Value} (h : RowAt w v n l) (k : Nat) : RowAt (w.drewN k) v n l := h.keepF (keeps_drewN w k)
theorem rowAt_own {w : World} {B t z n : Nat} {v : Value} {l : List Value} (h : w.ownsRow B t z v n l) : RowAt w v n l := by
  obtain ⟨hl, hh⟩ := h
  rcases hh with ⟨hv, hn⟩ | ⟨g, cap, cur, hv, hb, hg, h1, h2, h3, h4⟩
  · exact ⟨⟨none, 0, by rw [hn]; exact hv⟩, fun h0 => by omega, fun ao m cap e => by rw [hv] at e; simp at e; omega⟩
  · refine ⟨⟨_, _, hv⟩, fun _ => ⟨g, 0, cap, hv, lt_of_block hg, fun j x hx => ?_⟩, fun ao m cap' e => by rw [hv] at e; simp at e; omega⟩
    rw [cell_of_blk hg]
    rw [← h4, List.getElem?_take] at hx
    split at hx
    · simpa using hx
    · cases hx

end Go.Proofs.YtklkhegeeglfbaaGreatDoor
namespace Go.Proofs.YtklkhegeeglfbaaGreatDoor
open Go.RowKit Go.Maps

/-- May the byte stand in a name? -/
def partB (c : Int) : Bool := decide (97 ≤ c) && decide (c ≤ 122) || decide (65 ≤ c) && decide (c ≤ 90) || decide (48 ≤ c) && decide (c ≤ 57) || decide (c = 95)

/-- A hexadecimal digit's number, -1 if it is none. -/
def hexB (c : Int) : Int := if 48 ≤ c ∧ c ≤ 57 then c - 48 else if 97 ≤ c ∧ c ≤ 102 then c - 87 else if 65 ≤ c ∧ c ≤ 70 then c - 55 else -1

/-- The width of a field of a type, -1 if there is no such type. -/
def wideB (t : Int) : Int := if t = 1 then 10 else if t = 2 then 1 else if t = 3 then 21 else -1

structure FieldA where
  name : Txt
  type : Int
  opt : Bool
deriving DecidableEq
structure ValA where
  kind : Int
  n : Int
  s : Txt
deriving DecidableEq
def FieldA.v (f : FieldA) : Value := .agg #[str f.name, .int .i64 f.type, .bool f.opt]
def ValA.v (x : ValA) : Value := .agg #[.int .i64 x.kind, .int .i64 x.n, str x.s]
def FieldA.cs (f : FieldA) : List Value := [str f.name, .int .i64 f.type, .bool f.opt]
def ValA.cs (x : ValA) : List Value := [.int .i64 x.kind, .int .i64 x.n, str x.s]

/-- A type's word. -/
def wordB (t : Int) : Txt := if t = 1 then [105, 110, 116] else if t = 2 then [98, 111, 111, 108] else [98, 121, 116, 101, 115]

def zeroV (f : FieldA) : ValA := if f.opt then ⟨0, 0, []⟩ else ⟨f.type, 0, []⟩

set_option maxRecDepth 100000 in
theorem eqValue_any (x y : ValA) (w : World) : Calls Tryz.prog 46 #[x.v, y.v] w fun e w' => e = .returned (.bool (decide (x = y))) ∧ Keeps (fun _ => False) w w' := by
  obtain ⟨k1, n1, s1⟩ := x
  obtain ⟨k2, n2, s2⟩ := y
  unfold ValA.v
  go_enter Tryz.func46, Tryz.ntmps46
  go_wp2
  all_goals (go_ret; refine ⟨ret_bool ?_, ((Keeps.refl _ _).alloc _).alloc _⟩; apply Bool.eq_iff_iff.2; simp_all; try omega)

/-- Does the value fit the field? -/
def fitsB (f : FieldA) (v : ValA) : Bool :=
  if v.kind = 0 then f.opt && decide (v.n = 0) && decide (v.s = [])
  else if v.kind ≠ f.type then false
  else if v.kind = 1 then decide (v.s = [])
  else if v.kind = 2 then (decide (v.n = 0) || decide (v.n = 1)) && decide (v.s = [])
  else if v.kind = 3 then decide (v.n = 0) && decide (v.s.length ≤ 20)
  else false

/-- An int's turned number. -/
def turned (n : Int) : Int := if 0 ≤ n then 2 * n else -2 * n - 1

def backB (u : Int) : Int := if u % 2 = 0 then u / 2 else -(u / 2) - 1

/-- Is there a byte 128 to 191 at that place? -/
def moreB (t : Txt) (k : Nat) : Bool := match t[k]? with
  | some c => decide (128 ≤ num c) && decide (num c < 192)
  | none => false

theorem str_at {t : Txt} {k : Nat} {c : UInt8} (h : t[k]? = some c) : ∀ hk, (ByteArray.mk t.toArray)[k]'hk = c := by
  intro hk
  obtain ⟨_, rfl⟩ := List.getElem?_eq_some_iff.1 h
  rfl
theorem get_lt {α : Type} {t : List α} {k : Nat} {c : α} (h : t[k]? = some c) : k < t.length := (List.getElem?_eq_some_iff.1 h).1
theorem get_ge {α : Type} {t : List α} {k : Nat} (h : t[k]? = none) : t.length ≤ k := List.getElem?_eq_none_iff.1 h

end Go.Proofs.YtklkhegeeglfbaaGreatDoor
namespace Go.Proofs.YtklkhegeeglfbaaGreatDoor
open Go.RowKit Go.Maps

/-- The place of the first byte, from a on, of which p does not hold. -/
def scan (t : Txt) (p : UInt8 → Bool) (a : Nat) : Nat := a + ((t.drop a).takeWhile p).length
theorem scan_none {t : Txt} {p : UInt8 → Bool} {a : Nat} (h : t[a]? = none) : scan t p a = a := by
  have := get_ge h
  simp [scan, List.drop_eq_nil_of_le this]
theorem drop_at {α : Type} {t : List α} {a : Nat} {c : α} (h : t[a]? = some c) : t.drop a = c :: t.drop (a + 1) := by
  obtain ⟨ha, rfl⟩ := List.getElem?_eq_some_iff.1 h
  rw [List.drop_eq_getElem_cons ha]
theorem scan_stop {t : Txt} {p : UInt8 → Bool} {a : Nat} {c : UInt8} (h : t[a]? = some c) (hp : p c = false) : scan t p a = a := by
  simp [scan, drop_at h, hp]
theorem scan_go {t : Txt} {p : UInt8 → Bool} {a : Nat} {c : UInt8} (h : t[a]? = some c) (hp : p c = true) : scan t p a = scan t p (a + 1) := by
  simp [scan, drop_at h, hp]; omega
theorem scan_ge (t : Txt) (p : UInt8 → Bool) (a : Nat) : a ≤ scan t p a := by unfold scan; omega
theorem scan_le (t : Txt) (p : UInt8 → Bool) (a : Nat) (h : a ≤ t.length) : scan t p a ≤ t.length := by
  unfold scan
  have h1 := (List.takeWhile_sublist (l := t.drop a) p).length_le
  rw [List.length_drop] at h1
  omega

theorem num_inj {a b : UInt8} (h : num a = num b) : a = b := by
  unfold num at h
  exact UInt8.toNat_inj.1 (by omega)

/-- Does the text have p at that place? -/
def beginsB (t : Txt) (a : Nat) (p : Txt) : Bool := decide (a + p.length ≤ t.length) && decide ((t.drop a).take p.length = p)

theorem ext_str (t : Txt) (a b : Nat) : (ByteArray.mk t.toArray).extract a b = ⟨((t.drop a).take (b - a)).toArray⟩ := by
  rw [ByteArray.extract_mk]

def kws : List Txt := [[97, 110, 100], [99, 97, 116], [99, 108, 101, 97, 114], [100, 101, 108, 101, 116, 101], [101, 108, 115, 101], [102, 97, 108, 115, 101], [104, 97, 115], [104, 101, 114, 101], [105, 102], [108, 101, 110], [109, 97, 120], [109, 105, 110], [110, 101, 119], [110, 111, 116], [111, 114], [112, 105, 99, 107], [116, 114, 117, 101]]

/-- May a field be called so? -/
def nameB (x : Txt) : Bool := decide (x ≠ []) && decide (x.length ≤ 8) && !(match x[0]? with
  | some c => decide (48 ≤ num c) && decide (num c ≤ 57)
  | none => false) && x.all (fun c => partB (num c)) && !decide (x ∈ kws)

/-- The byte at a place (0 beyond the end). -/
def nth (t : Txt) (k : Nat) : Int := num (t.getD k 0)
end Go.Proofs.YtklkhegeeglfbaaGreatDoor
namespace Go.Proofs.YtklkhegeeglfbaaGreatDoor
open Go.RowKit Go.Maps

def digitB (c : Int) : Bool := decide (48 ≤ c) && decide (c ≤ 57)

set_option maxRecDepth 100000 in
theorem digit_any (c : Int) (w : World) : Calls Tryz.prog 79 #[.int .u8 c] w fun e w' => e = .returned (.bool (digitB c)) ∧ w' = w := by
  go_enter Tryz.func79, Tryz.ntmps79
  go_wp2
  all_goals (go_ret; refine ⟨ret_bool ?_, rfl⟩; apply Bool.eq_iff_iff.2; simp [digitB] at *; try omega)

set_option maxRecDepth 100000 in
theorem inRun_any (c : Int) (w : World) : Calls Tryz.prog 89 #[.int .u8 c] w fun e w' => e = .returned (.bool (partB c)) ∧ w' = w := by
  have HQ := hide (digit_any c w)
  go_enter Tryz.func89, Tryz.ntmps89
  go_wp2_with (go_at_call 79; refine (unhide HQ).mono ?_; rintro e w' ⟨rfl, rfl⟩)
  all_goals (go_ret; refine ⟨ret_bool ?_, rfl⟩; apply Bool.eq_iff_iff.2; simp [partB, digitB] at *; try omega)

set_option maxRecDepth 100000 in
set_option maxHeartbeats 1000000 in
theorem keyword_v (x : Txt) (w : World) : Calls Tryz.prog 80 #[str x] w fun e w' => e = .returned (.bool (decide (x ∈ kws))) ∧ w' = w := by
  go_enter Tryz.func80, Tryz.ntmps80
  go_wp2
  all_goals (go_ret; refine ⟨ret_bool ?_, rfl⟩; simp_all [kws])

end Go.Proofs.YtklkhegeeglfbaaGreatDoor
