import Derived.Test.YtbfkoamledkhnaaGreatDoorProg
import Derived.WalkKit
import Derived.WalkSpells
import Derived.WalkLawsBesides
import Derived.Laws.CopyOwn
import Derived.Maps.OwnSet
import Derived.Deep.AppendLies
import Derived.BigQuiet
import Derived.Deep.QuietTactic
import Derived.Deep.RegionHeld3
import Derived.Laws.IdiomStrings
namespace Go.Proofs.YtbfkoamledkhnaaGreatDoor
open Go.RowKit Go.Maps

theorem ret_int {k : IntKind} {a b : Int} (h : a = b) : Ending.returned (.int k a) = .returned (.int k b) := by rw [h]
theorem ret_bool {a b : Bool} (h : a = b) : Ending.returned (.bool a) = .returned (.bool b) := by rw [h]
theorem hide {p : Prop} (h : p) : Hid p := h
theorem unhide {p : Prop} (h : Hid p) : p := h

/-- All blocks that are there and are not named by F hold what they held. -/
structure Keeps (F : Nat → Prop) (w w' : World) : Prop where
  os : w'.os = w.os
  tape : w'.tape = w.tape
  output : w'.output = w.output
  size : w.heap.size ≤ w'.heap.size
  block : ∀ k, k < w.heap.size → ¬ F k → w'.heap[k]? = w.heap[k]?

theorem Keeps.refl (F : Nat → Prop) (w : World) : Keeps F w w := ⟨rfl, rfl, rfl, Nat.le_refl _, fun _ _ _ => rfl⟩
theorem Keeps.trans {F : Nat → Prop} {a b c : World} (h : Keeps F a b) (k : Keeps F b c) : Keeps F a c :=
  ⟨k.os.trans h.os, k.tape.trans h.tape, k.output.trans h.output, Nat.le_trans h.size k.size, fun i hi hF => (k.block i (Nat.lt_of_lt_of_le hi h.size) hF).trans (h.block i hi hF)⟩
theorem Keeps.mono {F G : Nat → Prop} {a b : World} (h : Keeps F a b) (hFG : ∀ k, k < a.heap.size → F k → G k) : Keeps G a b :=
  ⟨h.os, h.tape, h.output, h.size, fun k hk hG => h.block k hk (fun hf => hG (hFG k hk hf))⟩
theorem Keeps.any {G : Nat → Prop} {a b : World} (h : Keeps (fun _ => False) a b) : Keeps G a b := h.mono (fun _ _ f => f.elim)
theorem Keeps.drew {F : Nat → Prop} {a b : World} (h : Keeps F a b) : Keeps F a b.drew := ⟨h.os, h.tape, h.output, h.size, h.block⟩
theorem drewN_os (w : World) : ∀ n, (w.drewN n).os = w.os ∧ (w.drewN n).tape = w.tape ∧ (w.drewN n).output = w.output ∧ (w.drewN n).heap = w.heap
  | 0 => ⟨rfl, rfl, rfl, rfl⟩
  | n + 1 => by
    have := drewN_os w.drew n
    exact this
theorem Keeps.drewN {F : Nat → Prop} {a b : World} (h : Keeps F a b) (n : Nat) : Keeps F a (b.drewN n) := by
  obtain ⟨h1, h2, h3, h4⟩ := drewN_os b n
  exact ⟨h1.trans h.os, h2.trans h.tape, h3.trans h.output, by rw [h4]; exact h.size, by rw [h4]; exact h.block⟩
theorem Keeps.alloc {F : Nat → Prop} {a b : World} (h : Keeps F a b) (o : Obj) : Keeps F a (b.alloc o) :=
  h.trans ⟨rfl, rfl, rfl, by simp, fun k hk _ => Below.heap_alloc _ _ _ hk⟩
theorem Keeps.setCell {F : Nat → Prop} {a b : World} (h : Keeps F a b) {p : Addr} (hp : p.block < a.heap.size → F p.block) (u : Value) : Keeps F a (b.setCell p u) :=
  ⟨h.os, h.tape, h.output, by simpa using h.size, fun k hk hF => by
    have hne : k ≠ p.block := fun e => hF (by rw [e]; exact hp (by rw [← e]; exact hk))
    rw [Below.heap_setCell _ _ _ _ hne]; exact h.block k hk hF⟩
theorem Keeps.grown {F : Nat → Prop} {a b c : World} {row : Option Nat} (h : Keeps F a b) (hg : b.grownBy c row) (hr : ∀ k, row = some k → k < a.heap.size → F k) : Keeps F a c :=
  ⟨hg.os.trans h.os, hg.tape.trans h.tape, hg.output.trans h.output, Nat.le_trans h.size hg.size, fun k hk hF => by
    rw [hg.block k (Nat.lt_of_lt_of_le hk h.size) (fun e => hF (hr k e.symm hk))]; exact h.block k hk hF⟩
theorem Keeps.below {F : Nat → Prop} {a b : World} (h : Keeps F a b) {B : Nat} (hB : B ≤ a.heap.size) (hF : ∀ k, F k → B ≤ k) : Below B a b :=
  ⟨h.os, h.tape, h.output, h.size, fun k hk => h.block k (by omega) (fun f => by have := hF k f; omega)⟩
theorem Keeps.cell {F : Nat → Prop} {a b : World} (h : Keeps F a b) {k o : Nat} (hk : k < a.heap.size) (hF : ¬ F k) : b.cell? ⟨k, o, none⟩ = a.cell? ⟨k, o, none⟩ :=
  World.cell?_of_block (w := a) (h.block k hk hF)

theorem heap_setCell_at {w : World} {b o : Nat} {c : Array Value} {t : TypeId} {fr : Nat × Nat} (h : w.heap[b]? = some (.cells c t fr)) (v : Value) :
    (w.setCell ⟨b, o, none⟩ v).heap[b]? = some (.cells (c.setIfInBounds o v) t fr) := by
  simp [World.setCell, Array.getElem?_modify, h]
theorem lt_of_block {w : World} {b : Nat} {o : Obj} (h : w.heap[b]? = some o) : b < w.heap.size := (Array.getElem?_eq_some_iff.1 h).1
theorem cell_of_blk {w : World} {b : Nat} {c : Array Value} {t : TypeId} {fr : Nat × Nat} (h : w.heap[b]? = some (.cells c t fr)) (o : Nat) : w.cell? ⟨b, o, none⟩ = c[o]? := by
  simp [World.cell?, h]
theorem frozen_of_blk {w : World} {b : Nat} {c : Array Value} {t : TypeId} (h : w.heap[b]? = some (.cells c t (0, 0))) (o : Nat) : w.frozen? ⟨b, o, none⟩ = false := by
  simp [World.frozen?, h]


theorem Keeps.then {F G : Nat → Prop} {a b c : World} (h : Keeps G a b) (k : Keeps F b c) (hF : ∀ i, i < a.heap.size → F i → G i) : Keeps G a c :=
  ⟨k.os.trans h.os, k.tape.trans h.tape, k.output.trans h.output, Nat.le_trans h.size k.size, fun i hi hG => (k.block i (Nat.lt_of_lt_of_le hi h.size) (fun f => hG (hF i hi f))).trans (h.block i hi hG)⟩
theorem keeps_drewN (w : World) (n : Nat) : Keeps (fun _ => False) w (w.drewN n) := (Keeps.refl _ w).drewN n

theorem take_snoc {α : Type} (ws : List α) (k : Nat) (x : α) (h : ws[k]? = some x) : ws.take (k + 1) = ws.take k ++ [x] := by
  obtain ⟨hk, rfl⟩ := List.getElem?_eq_some_iff.1 h
  rw [List.take_succ_eq_append_getElem hk]

/-- A text. -/
abbrev Txt := List UInt8
abbrev str (l : Txt) : Value := .string ⟨l.toArray⟩
/-- A byte's number. -/
def num (c : UInt8) : Int := (c.toNat : Int)
theorem num_range (c : UInt8) : 0 ≤ num c ∧ num c ≤ 255 := by
  have := c.toNat_lt
  unfold num
  omega
/-- Bytes as cells. -/
def bs (l : Txt) : List Value := l.map fun c => Value.int .u8 (num c)
theorem bs_length (l : Txt) : (bs l).length = l.length := by simp [bs]
theorem bs_get (l : Txt) (j : Nat) : (bs l)[j]? = (l[j]?).map (fun c => Value.int .u8 (num c)) := by simp [bs]

/-- A slice of n elements whose cells read as xs. -/
structure RowAt (w : World) (v : Value) (n : Nat) (xs : List Value) : Prop where
  form : ∃ ao cap, v = .slice ao n cap
  cells : 0 < n → ∃ b off cap, v = .slice (some ⟨b, off, none⟩) n cap ∧ b < w.heap.size ∧ ∀ j x, xs[j]? = some x → w.cell? ⟨b, off + j, none⟩ = some x
  room : ∀ ao m cap, v = .slice ao m cap → m ≤ cap

theorem RowAt.kept {w w' : World} {v : Value} {n : Nat} {l : List Value} (h : RowAt w v n l) {F : Nat → Prop} (hk : Keeps F w w') (hF : ∀ k, v.ownBlock = some k → ¬ F k) : RowAt w' v n l := by
  refine ⟨h.form, fun h0 => ?_, h.room⟩
  obtain ⟨b, off, cap, e, hb, hc⟩ := h.cells h0
  refine ⟨b, off, cap, e, Nat.lt_of_lt_of_le hb hk.size, fun j x hx => ?_⟩
  rw [hk.cell hb (hF b (by rw [e]; rfl))]
  exact hc j x hx
theorem RowAt.keepF {w w' : World} {v : Value} {n : Nat} {l : List Value} (h : RowAt w v n l) (hk : Keeps (fun _ => False) w w') : RowAt w' v n l := h.kept hk (fun _ _ => id)
theorem RowAt.drewN {w : World} {v : Value} {n : Nat} {l : List Value} (h : RowAt w v n l) (k : Nat) : RowAt (w.drewN k) v n l := h.keepF (keeps_drewN w k)
theorem rowAt_own {w : World} {B t z n : Nat} {v : Value} {l : List Value} (h : w.ownsRow B t z v n l) : RowAt w v n l := by
  obtain ⟨hl, hh⟩ := h
  rcases hh with ⟨hv, hn⟩ | ⟨g, cap, cur, hv, hb, hg, h1, h2, h3, h4⟩
  · exact ⟨⟨none, 0, by rw [hn]; exact hv⟩, fun h0 => by omega, fun ao m cap e => by rw [hv] at e; simp at e; omega⟩
  · refine ⟨⟨_, _, hv⟩, fun _ => ⟨g, 0, cap, hv, lt_of_block hg, fun j x hx => ?_⟩, fun ao m cap' e => by rw [hv] at e; simp at e; omega⟩
    rw [cell_of_blk hg]
    rw [← h4, List.getElem?_take] at hx
    split at hx
    · simpa using hx
    · cases hx

end Go.Proofs.YtbfkoamledkhnaaGreatDoor
namespace Go.Proofs.YtbfkoamledkhnaaGreatDoor
open Go.RowKit Go.Maps

/-- May the byte stand in a name? -/
def partB (c : Int) : Bool := decide (97 ≤ c) && decide (c ≤ 122) || decide (65 ≤ c) && decide (c ≤ 90) || decide (48 ≤ c) && decide (c ≤ 57) || decide (c = 95)

set_option maxRecDepth 100000 in
theorem part_any (c : Int) (w : World) : Calls Tryz.prog 85 #[.int .u8 c] w fun e w' => e = .returned (.bool (partB c)) ∧ w' = w := by
  go_enter Tryz.func85, Tryz.ntmps85
  go_wp2
  all_goals (go_ret; refine ⟨ret_bool ?_, rfl⟩; apply Bool.eq_iff_iff.2; simp [partB] at *; try omega)

/-- A hexadecimal digit's number, -1 if it is none. -/
def hexB (c : Int) : Int := if 48 ≤ c ∧ c ≤ 57 then c - 48 else if 97 ≤ c ∧ c ≤ 102 then c - 87 else if 65 ≤ c ∧ c ≤ 70 then c - 55 else -1

set_option maxRecDepth 100000 in
theorem hex_any (c : Int) (h0 : 0 ≤ c) (h1 : c ≤ 255) (w : World) : Calls Tryz.prog 112 #[.int .u8 c] w fun e w' => e = .returned (.int .i64 (hexB c)) ∧ w' = w := by
  go_enter Tryz.func112, Tryz.ntmps112
  go_wp2
  all_goals (go_ret; refine ⟨ret_int ?_, rfl⟩; simp [hexB] at *; try omega)

/-- The width of a field of a type, -1 if there is no such type. -/
def wideB (t : Int) : Int := if t = 1 then 10 else if t = 2 then 1 else if t = 3 then 21 else -1

set_option maxRecDepth 100000 in
theorem wide_any (t : Int) (w : World) : Calls Tryz.prog 45 #[.int .i64 t] w fun e w' => e = .returned (.int .i64 (wideB t)) ∧ w' = w := by
  go_enter Tryz.func45, Tryz.ntmps45
  go_wp2
  all_goals (go_ret; refine ⟨ret_int ?_, rfl⟩; simp [wideB] at *; try simp_all)

structure FieldA where
  name : Txt
  type : Int
  opt : Bool
deriving DecidableEq
structure ValA where
  kind : Int
  n : Int
  s : Txt
deriving DecidableEq
def FieldA.v (f : FieldA) : Value := .agg #[str f.name, .int .i64 f.type, .bool f.opt]
def ValA.v (x : ValA) : Value := .agg #[.int .i64 x.kind, .int .i64 x.n, str x.s]
def FieldA.cs (f : FieldA) : List Value := [str f.name, .int .i64 f.type, .bool f.opt]
def ValA.cs (x : ValA) : List Value := [.int .i64 x.kind, .int .i64 x.n, str x.s]

/-- A type's word. -/
def wordB (t : Int) : Txt := if t = 1 then [105, 110, 116] else if t = 2 then [98, 111, 111, 108] else [98, 121, 116, 101, 115]

set_option maxRecDepth 100000 in
theorem word_any (t : Int) (w : World) : Calls Tryz.prog 48 #[.int .i64 t] w fun e w' => e = .returned (str (wordB t)) ∧ w' = w := by
  go_enter Tryz.func48, Tryz.ntmps48
  go_wp2
  all_goals (go_ret; refine ⟨?_, rfl⟩; simp [wordB] at *; try simp_all)

def zeroV (f : FieldA) : ValA := if f.opt then ⟨0, 0, []⟩ else ⟨f.type, 0, []⟩

set_option maxRecDepth 100000 in
theorem zeroOf_any (f : FieldA) (w : World) : Calls Tryz.prog 58 #[f.v] w fun e w' => e = .returned (zeroV f).v ∧ Keeps (fun _ => False) w w' := by
  obtain ⟨nm, t, o⟩ := f
  unfold FieldA.v
  cases o with
  | false =>
    go_enter Tryz.func58, Tryz.ntmps58
    go_wp2
    refine bodyPost_ret (v := (zeroV ⟨nm, t, false⟩).v) (by simp [results, go_sem, zeroV, ValA.v]) rfl ?_
    exact ⟨rfl, ((Keeps.refl _ _).alloc _).alloc _⟩
  | true =>
    go_enter Tryz.func58, Tryz.ntmps58
    go_wp2
    refine bodyPost_ret (v := (zeroV ⟨nm, t, true⟩).v) (by simp [results, go_sem, zeroV, ValA.v]) rfl ?_
    exact ⟨rfl, ((Keeps.refl _ _).alloc _).alloc _⟩

set_option maxRecDepth 100000 in
theorem eqValue_any (x y : ValA) (w : World) : Calls Tryz.prog 60 #[x.v, y.v] w fun e w' => e = .returned (.bool (decide (x = y))) ∧ Keeps (fun _ => False) w w' := by
  obtain ⟨k1, n1, s1⟩ := x
  obtain ⟨k2, n2, s2⟩ := y
  unfold ValA.v
  go_enter Tryz.func60, Tryz.ntmps60
  go_wp2
  all_goals (go_ret; refine ⟨ret_bool ?_, ((Keeps.refl _ _).alloc _).alloc _⟩; apply Bool.eq_iff_iff.2; simp_all; try omega)

/-- Does the value fit the field? -/
def fitsB (f : FieldA) (v : ValA) : Bool :=
  if v.kind = 0 then f.opt && decide (v.n = 0) && decide (v.s = [])
  else if v.kind ≠ f.type then false
  else if v.kind = 1 then decide (v.s = [])
  else if v.kind = 2 then (decide (v.n = 0) || decide (v.n = 1)) && decide (v.s = [])
  else if v.kind = 3 then decide (v.n = 0) && decide (v.s.length ≤ 20)
  else false

set_option maxRecDepth 100000 in
set_option maxHeartbeats 1000000 in
theorem fits_any (f : FieldA) (x : ValA) (w : World) : Calls Tryz.prog 55 #[f.v, x.v] w fun e w' => e = .returned (.bool (fitsB f x)) ∧ Keeps (fun _ => False) w w' := by
  obtain ⟨nm, t, o⟩ := f
  obtain ⟨k1, n1, s1⟩ := x
  unfold ValA.v FieldA.v
  go_enter Tryz.func55, Tryz.ntmps55
  go_wp2
  all_goals (go_ret; refine ⟨ret_bool ?_, ((Keeps.refl _ _).alloc _).alloc _⟩; apply Bool.eq_iff_iff.2; simp_all [fitsB]; try omega)

/-- An int's turned number. -/
def turned (n : Int) : Int := if 0 ≤ n then 2 * n else -2 * n - 1

set_option maxRecDepth 100000 in
theorem turned_any (n : Int) (h0 : -9223372036854775808 ≤ n) (h1 : n ≤ 9223372036854775807) (w : World) : Calls Tryz.prog 99 #[.int .i64 n] w fun e w' => e = .returned (.int .u64 (turned n)) ∧ w' = w := by
  go_enter Tryz.func99, Tryz.ntmps99
  go_wp2
  all_goals (go_ret; refine ⟨ret_int ?_, rfl⟩; simp [turned] at *; try omega)

def backB (u : Int) : Int := if u % 2 = 0 then u / 2 else -(u / 2) - 1

set_option maxRecDepth 100000 in
theorem back_any (u : Int) (h0 : 0 ≤ u) (h1 : u ≤ 18446744073709551615) (w : World) : Calls Tryz.prog 127 #[.int .u64 u] w fun e w' => e = .returned (.int .i64 (backB u)) ∧ w' = w := by
  go_enter Tryz.func127, Tryz.ntmps127
  go_wp2
  all_goals (go_ret; refine ⟨ret_int ?_, rfl⟩; simp [backB] at *; try omega)

/-- Is there a byte 128 to 194 at that place? -/
def moreB (t : Txt) (k : Nat) : Bool := match t[k]? with
  | some c => decide (128 ≤ num c) && decide (num c < 192)
  | none => false

theorem str_at {t : Txt} {k : Nat} {c : UInt8} (h : t[k]? = some c) : ∀ hk, (ByteArray.mk t.toArray)[k]'hk = c := by
  intro hk
  obtain ⟨_, rfl⟩ := List.getElem?_eq_some_iff.1 h
  rfl
theorem get_lt {α : Type} {t : List α} {k : Nat} {c : α} (h : t[k]? = some c) : k < t.length := (List.getElem?_eq_some_iff.1 h).1
theorem get_ge {α : Type} {t : List α} {k : Nat} (h : t[k]? = none) : t.length ≤ k := List.getElem?_eq_none_iff.1 h

set_option maxRecDepth 100000 in
theorem more_any (t : Txt) (k : Nat) (w : World) : Calls Tryz.prog 113 #[str t, .int .i64 k] w fun e w' => e = .returned (.bool (moreB t k)) ∧ w' = w := by
  unfold moreB
  cases h : t[k]? with
  | none =>
    have h1 := get_ge h
    go_enter Tryz.func113, Tryz.ntmps113
    go_wp2
    go_ret
    exact ⟨rfl, rfl⟩
  | some c =>
    have h1 := get_lt h
    have q := str_at h
    unfold num at *
    go_enter Tryz.func113, Tryz.ntmps113
    go_wp2
    all_goals (go_ret; refine ⟨ret_bool ?_, rfl⟩; apply Bool.eq_iff_iff.2; simp_all; try omega)

end Go.Proofs.YtbfkoamledkhnaaGreatDoor
namespace Go.Proofs.YtbfkoamledkhnaaGreatDoor
open Go.RowKit Go.Maps

/-- The place of the first byte, from a on, of which p does not hold. -/
def scan (t : Txt) (p : UInt8 → Bool) (a : Nat) : Nat := a + ((t.drop a).takeWhile p).length
theorem scan_none {t : Txt} {p : UInt8 → Bool} {a : Nat} (h : t[a]? = none) : scan t p a = a := by
  have := get_ge h
  simp [scan, List.drop_eq_nil_of_le this]
theorem drop_at {α : Type} {t : List α} {a : Nat} {c : α} (h : t[a]? = some c) : t.drop a = c :: t.drop (a + 1) := by
  obtain ⟨ha, rfl⟩ := List.getElem?_eq_some_iff.1 h
  rw [List.drop_eq_getElem_cons ha]
theorem scan_stop {t : Txt} {p : UInt8 → Bool} {a : Nat} {c : UInt8} (h : t[a]? = some c) (hp : p c = false) : scan t p a = a := by
  simp [scan, drop_at h, hp]
theorem scan_go {t : Txt} {p : UInt8 → Bool} {a : Nat} {c : UInt8} (h : t[a]? = some c) (hp : p c = true) : scan t p a = scan t p (a + 1) := by
  simp [scan, drop_at h, hp]; omega
theorem scan_ge (t : Txt) (p : UInt8 → Bool) (a : Nat) : a ≤ scan t p a := by unfold scan; omega
theorem scan_le (t : Txt) (p : UInt8 → Bool) (a : Nat) (h : a ≤ t.length) : scan t p a ≤ t.length := by
  unfold scan
  have h1 := (List.takeWhile_sublist (l := t.drop a) p).length_le
  rw [List.length_drop] at h1
  omega

theorem num_inj {a b : UInt8} (h : num a = num b) : a = b := by
  unfold num at h
  exact UInt8.toNat_inj.1 (by omega)

set_option maxRecDepth 100000 in
theorem upTo_any (t : Txt) (a : Nat) (c : UInt8) (ht : t.length ≤ 1099511627776) (w : World) :
    Calls Tryz.prog 51 #[str t, .int .i64 a, .int .u8 (num c)] w fun e w' => e = .returned (.int .i64 (scan t (fun x => x != c) a)) ∧ w' = w := by
  go_enter Tryz.func51, Tryz.ntmps51
  go_wp2
  go_loopw [1] (fun i wr => ∃ k : Nat, k ≤ max a t.length ∧ i = .int .i64 k ∧ Hid (scan t (fun x => x != c) a = scan t (fun x => x != c) k) ∧ wr = w) (fun i _ => t.length - (intOf i).toNat)
  case atStart => exact ⟨a, by omega, rfl, rfl, rfl⟩
  case round =>
    obtain ⟨k, hk, rfl, HS, rfl⟩ := hrel
    cases h : t[k]? with
    | none =>
      have h1 := get_ge h
      have HH := hide h
      clear h
      go_wp2
      go_ret
      exact ⟨ret_int (by rw [unhide HS, scan_none (unhide HH)]), rfl⟩
    | some y =>
      have h1 := get_lt h
      have q := str_at h
      have HH := hide h
      clear h
      have e1 : (y.toNat : Int) = num y := rfl
      go_wp2
      case roundEnd =>
        rename_i hne
        go_roundw
        case rel =>
          refine ⟨k + 1, by omega, by go_num, ?_, trivial⟩
          show _ = _
          rw [unhide HS]
          exact scan_go (unhide HH) (by simp only [bne_iff_ne]; rintro rfl; simp at hne)
        case measure => simp [intOf]; omega
      rename_i hne
      go_ret
      refine ⟨ret_int ?_, rfl⟩
      rw [unhide HS, scan_stop (unhide HH) (by simp at hne; simp [num_inj hne])]

set_option maxRecDepth 100000 in
theorem ending_any (t : Txt) (a : Nat) (ht : t.length ≤ 1099511627776) (w : World) :
    Calls Tryz.prog 105 #[str t, .int .i64 a] w fun e w' => e = .returned (.int .i64 (scan t (fun x => x != 44 && x != 125) a)) ∧ w' = w := by
  go_enter Tryz.func105, Tryz.ntmps105
  go_wp2
  go_loopw [1] (fun i wr => ∃ k : Nat, k ≤ max a t.length ∧ i = .int .i64 k ∧ Hid (scan t (fun x => x != 44 && x != 125) a = scan t (fun x => x != 44 && x != 125) k) ∧ wr = w) (fun i _ => t.length - (intOf i).toNat)
  case atStart => exact ⟨a, by omega, rfl, rfl, rfl⟩
  case round =>
    obtain ⟨k, hk, rfl, HS, rfl⟩ := hrel
    cases h : t[k]? with
    | none =>
      have h1 := get_ge h
      have HH := hide h
      clear h
      go_wp2
      go_ret
      exact ⟨ret_int (by rw [unhide HS, scan_none (unhide HH)]), rfl⟩
    | some y =>
      have h1 := get_lt h
      have q := str_at h
      have HH := hide h
      clear h
      have e1 : (y.toNat : Int) = num y := rfl
      go_wp2
      case roundEnd =>
        rename_i hx hne
        go_roundw
        case rel =>
          refine ⟨k + 1, by omega, by go_num, ?_, trivial⟩
          show _ = _
          rw [unhide HS]
          exact scan_go (unhide HH) (by simp only [Bool.and_eq_true, bne_iff_ne]; constructor <;> (rintro rfl; simp [num] at hx hne))
        case measure => simp [intOf]; omega
      · rename_i hx
        go_ret
        refine ⟨ret_int ?_, rfl⟩
        rw [unhide HS, scan_stop (unhide HH) (by rw [num_inj (a := y) (b := 44) hx]; rfl)]
      · rename_i hx hy
        go_ret
        refine ⟨ret_int ?_, rfl⟩
        rw [unhide HS, scan_stop (unhide HH) (by
          rcases hy with hy | hy
          · rw [num_inj (a := y) (b := 44) (by simp at hy; exact hy)]; rfl
          · rw [num_inj (a := y) (b := 125) (by simp at hy; exact hy)]; rfl)]

/-- Does the text have p at that place? -/
def beginsB (t : Txt) (a : Nat) (p : Txt) : Bool := decide (a + p.length ≤ t.length) && decide ((t.drop a).take p.length = p)

theorem ext_str (t : Txt) (a b : Nat) : (ByteArray.mk t.toArray).extract a b = ⟨((t.drop a).take (b - a)).toArray⟩ := by
  rw [ByteArray.extract_mk]

set_option maxRecDepth 100000 in
theorem begins_any (t : Txt) (a : Nat) (p : Txt) (ha : a ≤ 1099511627776) (ht : t.length ≤ 1099511627776) (hp : p.length ≤ 1099511627776) (w : World) :
    Calls Tryz.prog 70 #[str t, .int .i64 a, str p] w fun e w' => e = .returned (.bool (beginsB t a p)) ∧ w' = w := by
  go_enter Tryz.func70, Tryz.ntmps70
  go_wp2
  all_goals
    rename_i h
    go_ret
    refine ⟨ret_bool ?_, rfl⟩
    unfold beginsB
  · rw [ext_str, ByteArray.toList_mk, show a + p.length - a = p.length by omega, show decide (a + p.length ≤ t.length) = true from decide_eq_true (by omega)]
    apply Bool.eq_iff_iff.2
    simp
  · rw [show decide (a + p.length ≤ t.length) = false from decide_eq_false (by omega)]
    rfl

def kws : List Txt := [[97, 110, 100], [99, 97, 116], [99, 108, 101, 97, 114], [100, 101, 108, 101, 116, 101], [101, 108, 115, 101], [102, 97, 108, 115, 101], [104, 97, 115], [104, 101, 114, 101], [105, 102], [108, 101, 110], [109, 97, 120], [109, 105, 110], [110, 101, 119], [110, 111, 116], [111, 114], [112, 105, 99, 107], [116, 114, 117, 101]]

theorem keywords_any (w : World) : Calls Tryz.prog 116 #[] w fun e w' => e = .returned (.slice (some ⟨w.heap.size, 0, none⟩) 17 17) ∧ w' = w.alloc (.cells (kws.map str).toArray 9) := by
  go_enter Tryz.func116, Tryz.ntmps116
  go_wp2
  go_ret
  exact ⟨rfl, rfl⟩

set_option maxRecDepth 100000 in
theorem keyword_any (x : Txt) (w : World) : Calls Tryz.prog 86 #[str x] w fun e w' => e = .returned (.bool (decide (x ∈ kws))) ∧ Keeps (fun _ => False) w w' := by
  go_enter Tryz.func86, Tryz.ntmps86
  go_wp2_with fail
  refine (keywords_any w).mono ?_
  rintro e w1 ⟨rfl, rfl⟩
  have HK : Hid (Keeps (fun _ => False) w (w.alloc (.cells (kws.map str).toArray 9))) := (Keeps.refl _ _).alloc _
  have HB : Hid ((w.alloc (.cells (kws.map str).toArray 9)).heap[w.heap.size]? = some (.cells (kws.map str).toArray 9 (0, 0))) := heap_alloc_new w _
  generalize w.alloc (.cells (kws.map str).toArray 9) = w2 at *
  generalize w.heap.size = b at *
  go_wp2
  go_loopw [4] (fun i wr => ∃ k : Nat, k ≤ 17 ∧ i = .int .i64 k ∧ Hid (x ∉ kws.take k) ∧ ∃ n, wr = w2.drewN n) (fun i _ => 17 - (intOf i).toNat)
  case atStart => exact ⟨0, by omega, rfl, by simp [Hid], 0, rfl⟩
  case round =>
    obtain ⟨k, hk, rfl, HN, n, rfl⟩ := hrel
    by_cases hlt : k < 17
    · obtain ⟨y, hy⟩ : ∃ y, kws[k]? = some y := ⟨_, List.getElem?_eq_getElem (show k < kws.length from hlt)⟩
      have hc : w2.cell? ⟨b, k, none⟩ = some (str y) := by rw [cell_of_blk (unhide HB)]; simp [hy]
      have HY := hide hy
      clear hy
      go_wp2
      case roundEnd =>
        rename_i hx
        go_roundw
        case rel =>
          refine ⟨k + 1, by omega, by go_num, ?_, n, rfl⟩
          show x ∉ _
          rw [take_snoc _ _ _ (unhide HY), List.mem_append]
          rintro (h | h)
          · exact unhide HN h
          · simp at h; simp [h] at hx
        case measure => simp [intOf]; omega
      rename_i hx
      go_ret
      refine ⟨ret_bool ?_, (unhide HK).drewN _⟩
      symm
      rw [decide_eq_true_iff]
      rw [beq_iff_eq] at hx
      rw [← hx]
      exact List.mem_of_getElem? (unhide HY)
    · go_wp2
      go_ret
      obtain rfl : k = 17 := by omega
      exact ⟨ret_bool (by symm; rw [decide_eq_false_iff_not]; exact unhide HN), (unhide HK).drewN _⟩

/-- May a field be called so? -/
def nameB (x : Txt) : Bool := decide (x ≠ []) && decide (x.length ≤ 8) && !(match x[0]? with
  | some c => decide (48 ≤ num c) && decide (num c ≤ 57)
  | none => false) && x.all (fun c => partB (num c)) && !decide (x ∈ kws)

set_option maxRecDepth 100000 in
theorem name_any (x : Txt) (w : World) : Calls Tryz.prog 44 #[str x] w fun e w' => e = .returned (.bool (nameB x)) ∧ Keeps (fun _ => False) w w' := by
  cases h : x[0]? with
  | none =>
    obtain rfl : x = [] := List.eq_nil_of_length_eq_zero (by have := get_ge h; omega)
    go_enter Tryz.func44, Tryz.ntmps44
    go_wp2
    go_ret
    exact ⟨rfl, Keeps.refl _ _⟩
  | some c =>
    have h1 := get_lt h
    have q := str_at h
    have e1 : (c.toNat : Int) = num c := rfl
    have hx : (x == []) = false := by cases x <;> simp_all
    have HX : Hid (x ≠ []) := by rintro rfl; simp at h1
    have HH := hide h
    clear h
    by_cases hl : (8 : Int) < (x.length : Int)
    · go_enter Tryz.func44, Tryz.ntmps44
      go_wp2
      go_ret
      exact ⟨ret_bool (by unfold nameB; rw [show decide (x.length ≤ 8) = false from decide_eq_false (by omega)]; simp), Keeps.refl _ _⟩
    have hl2 : (x.length : Int) ≤ 8 := by omega
    by_cases hd : 48 ≤ num c ∧ num c ≤ 57
    · obtain ⟨hd1, hd2⟩ := hd
      have HN : Hid (nameB x = false) := by show _ = _; unfold nameB; rw [unhide HH]; simp [hd1, hd2]
      go_enter Tryz.func44, Tryz.ntmps44
      go_wp2
      go_ret
      exact ⟨ret_bool (unhide HN).symm, Keeps.refl _ _⟩
    have HN : Hid (nameB x = (x.all (fun c => partB (num c)) && !decide (x ∈ kws))) := by
      show _ = _
      unfold nameB
      rw [unhide HH, show decide (x ≠ []) = true from decide_eq_true (unhide HX), show decide (x.length ≤ 8) = true from decide_eq_true (by omega)]
      have : (decide (48 ≤ num c) && decide (num c ≤ 57)) = false := by
        apply Bool.eq_false_iff.2
        simp only [ne_eq, Bool.and_eq_true, decide_eq_true_eq]
        exact hd
      simp [this]
    have HD := hide hd
    clear hd HX
    go_enter Tryz.func44, Tryz.ntmps44
    go_wp2
    all_goals try (exfalso; have := unhide HD; clear HN HH; simp_all <;> omega)
    all_goals
      clear HH HD q e1
      go_loopw [3] (fun i wr => ∃ k : Nat, k ≤ x.length ∧ i = .int .i64 k ∧ Hid ((x.take k).all (fun c => partB (num c)) = true) ∧ wr = w) (fun i _ => x.length - (intOf i).toNat)
      case atStart => exact ⟨0, by omega, rfl, by simp [Hid], rfl⟩
      case round =>
        obtain ⟨k, hk, rfl, HS, rfl⟩ := hrel
        cases h : x[k]? with
        | none =>
          have h1 := get_ge h
          obtain rfl : k = x.length := by omega
          go_wp2_with fail
          refine (keyword_any x wr).mono ?_
          rintro e w1 ⟨rfl, hk1⟩
          have HK := hide hk1
          clear hk1
          go_wp2
          go_ret
          refine ⟨ret_bool ?_, unhide HK⟩
          rw [unhide HN]
          have := unhide HS
          rw [List.take_length] at this
          rw [this]; rfl
        | some y =>
          have h1 := get_lt h
          have q := str_at h
          have HY := hide h
          clear h
          have e1 : (y.toNat : Int) = num y := rfl
          go_wp2_with fail
          refine (part_any (num y) wr).mono ?_
          rintro e w1 ⟨rfl, rfl⟩
          cases hp : partB (num y) with
          | true =>
            go_wp2
            go_roundw
            case rel =>
              refine ⟨k + 1, by omega, by go_num, ?_, trivial⟩
              show _ = true
              rw [take_snoc _ _ _ (unhide HY), List.all_append, unhide HS]
              simp [hp]
            case measure => simp [intOf]; omega
          | false =>
            go_wp2
            go_ret
            refine ⟨ret_bool ?_, Keeps.refl _ _⟩
            rw [unhide HN]
            have : x.all (fun c => partB (num c)) = false := by
              rw [List.all_eq_false]
              exact ⟨y, List.mem_of_getElem? (unhide HY), by simp [hp]⟩
            rw [this]; rfl

theorem more_at (t : Txt) (k : Int) (n : Nat) (h : k = n) (w : World) : Calls Tryz.prog 113 #[str t, .int .i64 k] w fun e w' => e = .returned (.bool (moreB t n)) ∧ w' = w := by
  rw [h]; exact more_any t n w

/-- The byte at a place (0 beyond the end). -/
def nth (t : Txt) (k : Nat) : Int := num (t.getD k 0)
end Go.Proofs.YtbfkoamledkhnaaGreatDoor
namespace Go.Proofs.YtbfkoamledkhnaaGreatDoor
open Go.RowKit Go.Maps

def digitB (c : Int) : Bool := decide (48 ≤ c) && decide (c ≤ 57)

set_option maxRecDepth 100000 in
theorem digit_any (c : Int) (w : World) : Calls Tryz.prog 114 #[.int .u8 c] w fun e w' => e = .returned (.bool (digitB c)) ∧ w' = w := by
  go_enter Tryz.func114, Tryz.ntmps114
  go_wp2
  all_goals (go_ret; refine ⟨ret_bool ?_, rfl⟩; apply Bool.eq_iff_iff.2; simp [digitB] at *; try omega)

set_option maxRecDepth 100000 in
theorem inRun_any (c : Int) (w : World) : Calls Tryz.prog 118 #[.int .u8 c] w fun e w' => e = .returned (.bool (partB c)) ∧ w' = w := by
  have HQ := hide (digit_any c w)
  go_enter Tryz.func118, Tryz.ntmps118
  go_wp2_with (go_at_call 114; refine (unhide HQ).mono ?_; rintro e w' ⟨rfl, rfl⟩)
  all_goals (go_ret; refine ⟨ret_bool ?_, rfl⟩; apply Bool.eq_iff_iff.2; simp [partB, digitB] at *; try omega)

set_option maxRecDepth 100000 in
set_option maxHeartbeats 1000000 in
theorem keyword_v (x : Txt) (w : World) : Calls Tryz.prog 115 #[str x] w fun e w' => e = .returned (.bool (decide (x ∈ kws))) ∧ w' = w := by
  go_enter Tryz.func115, Tryz.ntmps115
  go_wp2
  all_goals (go_ret; refine ⟨ret_bool ?_, rfl⟩; simp_all [kws])

end Go.Proofs.YtbfkoamledkhnaaGreatDoor
