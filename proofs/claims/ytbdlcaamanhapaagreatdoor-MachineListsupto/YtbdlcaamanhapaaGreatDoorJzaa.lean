import Derived.Test.YtbdlcaamanhapaaGreatDoorProg
import Derived.WalkKit
import Derived.WalkSpells
import Derived.WalkLawsBesides
import Derived.Laws.CopyOwn
import Derived.Maps.OwnSet
import Derived.Deep.AppendLies
import Derived.BigQuiet
import Derived.Deep.QuietTactic
import Derived.Deep.RegionHeld3
import Derived.Laws.IdiomStrings
namespace Go.Proofs.YtbdlcaamanhapaaGreatDoor
open Go.RowKit Go.Maps
theorem ret_int {k : IntKind} {a b : Int} (h : a = b) : Ending.returned (.int k a) = .returned (.int k b) := by rw [h]
theorem ret_bool {a b : Bool} (h : a = b) : Ending.returned (.bool a) = .returned (.bool b) := by rw [h]
theorem zB {p : Prop} (h : p) : Hid p := h
theorem zA {p : Prop} (h : Hid p) : p := h
structure Wp (F : Nat → Prop) (w w' : World) : Prop where
 os : w'.os = w.os
 tape : w'.tape = w.tape
 output : w'.output = w.output
 size : w.heap.size ≤ w'.heap.size
 block : ∀ k, k < w.heap.size → ¬ F k → w'.heap[k]? = w.heap[k]?
theorem Wp.refl (F : Nat → Prop) (w : World) : Wp F w w := ⟨rfl, rfl, rfl, Nat.le_refl _, fun _ _ _ => rfl⟩
theorem Wp.trans {F : Nat → Prop} {a b c : World} (h : Wp F a b) (k : Wp F b c) : Wp F a c :=
 ⟨k.os.trans h.os, k.tape.trans h.tape, k.output.trans h.output, Nat.le_trans h.size k.size, fun i hi hF => (k.block i (Nat.lt_of_lt_of_le hi h.size) hF).trans (h.block i hi hF)⟩
theorem Wp.mono {F G : Nat → Prop} {a b : World} (h : Wp F a b) (hFG : ∀ k, k < a.heap.size → F k → G k) : Wp G a b :=
 ⟨h.os, h.tape, h.output, h.size, fun k hk hG => h.block k hk (fun hf => hG (hFG k hk hf))⟩
theorem Wp.any {G : Nat → Prop} {a b : World} (h : Wp (fun _ => False) a b) : Wp G a b := h.mono (fun _ _ f => f.elim)
theorem Wp.drew {F : Nat → Prop} {a b : World} (h : Wp F a b) : Wp F a b.drew := ⟨h.os, h.tape, h.output, h.size, h.block⟩
theorem drewN_os (w : World) : ∀ n, (w.drewN n).os = w.os ∧ (w.drewN n).tape = w.tape ∧ (w.drewN n).output = w.output ∧ (w.drewN n).heap = w.heap
 | 0 => ⟨rfl, rfl, rfl, rfl⟩
 | n + 1 => by
  have := drewN_os w.drew n
  exact this
theorem Wp.drewN {F : Nat → Prop} {a b : World} (h : Wp F a b) (n : Nat) : Wp F a (b.drewN n) := by
 obtain ⟨h1, h2, h3, h4⟩ := drewN_os b n
 exact ⟨h1.trans h.os, h2.trans h.tape, h3.trans h.output, by rw [h4]; exact h.size, by rw [h4]; exact h.block⟩
theorem Wp.alloc {F : Nat → Prop} {a b : World} (h : Wp F a b) (o : Obj) : Wp F a (b.alloc o) :=
 h.trans ⟨rfl, rfl, rfl, by simp, fun k hk _ => Below.heap_alloc _ _ _ hk⟩
theorem Wp.setCell {F : Nat → Prop} {a b : World} (h : Wp F a b) {p : Addr} (hp : p.block < a.heap.size → F p.block) (u : Value) : Wp F a (b.setCell p u) :=
 ⟨h.os, h.tape, h.output, by simpa using h.size, fun k hk hF => by
  have hne : k ≠ p.block := fun e => hF (by rw [e]; exact hp (by rw [← e]; exact hk))
  rw [Below.heap_setCell _ _ _ _ hne]; exact h.block k hk hF⟩
theorem Wp.grown {F : Nat → Prop} {a b c : World} {row : Option Nat} (h : Wp F a b) (hg : b.grownBy c row) (hr : ∀ k, row = some k → k < a.heap.size → F k) : Wp F a c :=
 ⟨hg.os.trans h.os, hg.tape.trans h.tape, hg.output.trans h.output, Nat.le_trans h.size hg.size, fun k hk hF => by
  rw [hg.block k (Nat.lt_of_lt_of_le hk h.size) (fun e => hF (hr k e.symm hk))]; exact h.block k hk hF⟩
theorem Wp.below {F : Nat → Prop} {a b : World} (h : Wp F a b) {B : Nat} (hB : B ≤ a.heap.size) (hF : ∀ k, F k → B ≤ k) : Below B a b :=
 ⟨h.os, h.tape, h.output, h.size, fun k hk => h.block k (by omega) (fun f => by have := hF k f; omega)⟩
theorem Wp.cell {F : Nat → Prop} {a b : World} (h : Wp F a b) {k o : Nat} (hk : k < a.heap.size) (hF : ¬ F k) : b.cell? ⟨k, o, none⟩ = a.cell? ⟨k, o, none⟩ :=
 World.cell?_of_block (w := a) (h.block k hk hF)
theorem zH {w : World} {b o : Nat} {c : Array Value} {t : TypeId} {fr : Nat × Nat} (h : w.heap[b]? = some (.cells c t fr)) (v : Value) :
  (w.setCell ⟨b, o, none⟩ v).heap[b]? = some (.cells (c.setIfInBounds o v) t fr) := by
 simp [World.setCell, Array.getElem?_modify, h]
theorem zE {w : World} {b : Nat} {o : Obj} (h : w.heap[b]? = some o) : b < w.heap.size := (Array.getElem?_eq_some_iff.1 h).1
theorem zC {w : World} {b : Nat} {c : Array Value} {t : TypeId} {fr : Nat × Nat} (h : w.heap[b]? = some (.cells c t fr)) (o : Nat) : w.cell? ⟨b, o, none⟩ = c[o]? := by
 simp [World.cell?, h]
theorem zF {w : World} {b : Nat} {c : Array Value} {t : TypeId} (h : w.heap[b]? = some (.cells c t (0, 0))) (o : Nat) : w.frozen? ⟨b, o, none⟩ = false := by
 simp [World.frozen?, h]
theorem Wp.then {F G : Nat → Prop} {a b c : World} (h : Wp G a b) (k : Wp F b c) (hF : ∀ i, i < a.heap.size → F i → G i) : Wp G a c :=
 ⟨k.os.trans h.os, k.tape.trans h.tape, k.output.trans h.output, Nat.le_trans h.size k.size, fun i hi hG => (k.block i (Nat.lt_of_lt_of_le hi h.size) (fun f => hG (hF i hi f))).trans (h.block i hi hG)⟩
theorem keeps_drewN (w : World) (n : Nat) : Wp (fun _ => False) w (w.drewN n) := (Wp.refl _ w).drewN n
theorem take_snoc {α : Type} (ws : List α) (k : Nat) (x : α) (h : ws[k]? = some x) : ws.take (k + 1) = ws.take k ++ [x] := by
 obtain ⟨hk, rfl⟩ := List.getElem?_eq_some_iff.1 h
 rw [List.take_succ_eq_append_getElem hk]
abbrev Txt := List UInt8
abbrev str (l : Txt) : Value := .string ⟨l.toArray⟩
def num (c : UInt8) : Int := (c.toNat : Int)
theorem num_range (c : UInt8) : 0 ≤ num c ∧ num c ≤ 255 := by
 have := c.toNat_lt
 unfold num
 omega
def bs (l : Txt) : List Value := l.map fun c => Value.int .u8 (num c)
theorem bs_length (l : Txt) : (bs l).length = l.length := by simp [bs]
theorem bs_get (l : Txt) (j : Nat) : (bs l)[j]? = (l[j]?).map (fun c => Value.int .u8 (num c)) := by simp [bs]
structure Ws (w : World) (v : Value) (n : Nat) (xs : List Value) : Prop where
 form : ∃ ao cap, v = .slice ao n cap
 cells : 0 < n → ∃ b off cap, v = .slice (some ⟨b, off, none⟩) n cap ∧ b < w.heap.size ∧ ∀ j x, xs[j]? = some x → w.cell? ⟨b, off + j, none⟩ = some x
 room : ∀ ao m cap, v = .slice ao m cap → m ≤ cap
theorem Ws.kept {w w' : World} {v : Value} {n : Nat} {l : List Value} (h : Ws w v n l) {F : Nat → Prop} (hk : Wp F w w') (hF : ∀ k, v.ownBlock = some k → ¬ F k) : Ws w' v n l := by
 refine ⟨h.form, fun h0 => ?_, h.room⟩
 obtain ⟨b, off, cap, e, hb, hc⟩ := h.cells h0
 refine ⟨b, off, cap, e, Nat.lt_of_lt_of_le hb hk.size, fun j x hx => ?_⟩
 rw [hk.cell hb (hF b (by rw [e]; rfl))]
 exact hc j x hx
theorem Ws.keepF {w w' : World} {v : Value} {n : Nat} {l : List Value} (h : Ws w v n l) (hk : Wp (fun _ => False) w w') : Ws w' v n l := h.kept hk (fun _ _ => id)
theorem zG {w : World} {B t z n : Nat} {v : Value} {l : List Value} (h : w.ownsRow B t z v n l) : Ws w v n l := by
 obtain ⟨hl, hh⟩ := h
 rcases hh with ⟨hv, hn⟩ | ⟨g, cap, cur, hv, hb, hg, h1, h2, h3, h4⟩
 ·exact ⟨⟨none, 0, by rw [hn]; exact hv⟩, fun h0 => by omega, fun ao m cap e => by rw [hv] at e; simp at e; omega⟩
 ·refine ⟨⟨_, _, hv⟩, fun _ => ⟨g, 0, cap, hv, zE hg, fun j x hx => ?_⟩, fun ao m cap' e => by rw [hv] at e; simp at e; omega⟩
  rw [zC hg]
  rw [← h4, List.getElem?_take] at hx
  split at hx
  ·simpa using hx
  ·cases hx
theorem kA (w : World) (o : Obj) : Wp (fun _ => False) w (w.alloc o) := (Wp.refl _ _).alloc _
set_option maxRecDepth 100000
def partB (c : Int) : Bool := decide (97 ≤ c) && decide (c ≤ 122) || decide (65 ≤ c) && decide (c ≤ 90) || decide (48 ≤ c) && decide (c ≤ 57) || decide (c = 95)
theorem part_any (c : Int) (w : World) : Calls Tryz.prog 123 #[.int .u8 c] w fun e w' => e = .returned (.bool (partB c)) ∧ w' = w := by
 go_enter Tryz.func123, Tryz.ntmps123
 go_wp2
 all_goals (go_ret; refine ⟨ret_bool ?_, rfl⟩; apply Bool.eq_iff_iff.2; simp [partB] at *; try omega)
def wideB (t : Int) : Int := if t = 1 then 10 else if t = 2 then 1 else if t = 3 then 21 else -1
theorem wide_any (t : Int) (w : World) : Calls Tryz.prog 88 #[.int .i64 t] w fun e w' => e = .returned (.int .i64 (wideB t)) ∧ w' = w := by
 go_enter Tryz.func88, Tryz.ntmps88
 go_wp2
 all_goals (go_ret; refine ⟨ret_int ?_, rfl⟩; simp [wideB] at *; try simp_all)
structure Wq where
 name : Txt
 type : Int
 opt : Bool
deriving DecidableEq
structure ValA where
 kind : Int
 n : Int
 s : Txt
deriving DecidableEq
def Wq.v (f : Wq) : Value := .agg #[str f.name, .int .i64 f.type, .bool f.opt]
def ValA.v (x : ValA) : Value := .agg #[.int .i64 x.kind, .int .i64 x.n, str x.s]
def Wq.cs (f : Wq) : List Value := [str f.name, .int .i64 f.type, .bool f.opt]
def ValA.cs (x : ValA) : List Value := [.int .i64 x.kind, .int .i64 x.n, str x.s]
def zeroV (f : Wq) : ValA := if f.opt then ⟨0, 0, []⟩ else ⟨f.type, 0, []⟩
def fitsB (f : Wq) (v : ValA) : Bool :=
 if v.kind = 0 then f.opt && decide (v.n = 0) && decide (v.s = [])
 else if v.kind ≠ f.type then false
 else if v.kind = 1 then decide (v.s = [])
 else if v.kind = 2 then (decide (v.n = 0) || decide (v.n = 1)) && decide (v.s = [])
 else if v.kind = 3 then decide (v.n = 0) && decide (v.s.length ≤ 20)
 else false
def turned (n : Int) : Int := if 0 ≤ n then 2 * n else -2 * n - 1
def backB (u : Int) : Int := if u % 2 = 0 then u / 2 else -(u / 2) - 1
theorem str_at {t : Txt} {k : Nat} {c : UInt8} (h : t[k]? = some c) : ∀ hk, (ByteArray.mk t.toArray)[k]'hk = c := by
 intro hk
 obtain ⟨_, rfl⟩ := List.getElem?_eq_some_iff.1 h
 rfl
theorem get_lt {α : Type} {t : List α} {k : Nat} {c : α} (h : t[k]? = some c) : k < t.length := (List.getElem?_eq_some_iff.1 h).1
theorem get_ge {α : Type} {t : List α} {k : Nat} (h : t[k]? = none) : t.length ≤ k := List.getElem?_eq_none_iff.1 h
def scan (t : Txt) (p : UInt8 → Bool) (a : Nat) : Nat := a + ((t.drop a).takeWhile p).length
theorem scan_none {t : Txt} {p : UInt8 → Bool} {a : Nat} (h : t[a]? = none) : scan t p a = a := by
 have := get_ge h
 simp [scan, List.drop_eq_nil_of_le this]
theorem drop_at {α : Type} {t : List α} {a : Nat} {c : α} (h : t[a]? = some c) : t.drop a = c :: t.drop (a + 1) := by
 obtain ⟨ha, rfl⟩ := List.getElem?_eq_some_iff.1 h
 rw [List.drop_eq_getElem_cons ha]
theorem scan_stop {t : Txt} {p : UInt8 → Bool} {a : Nat} {c : UInt8} (h : t[a]? = some c) (hp : p c = false) : scan t p a = a := by
 simp [scan, drop_at h, hp]
theorem scan_go {t : Txt} {p : UInt8 → Bool} {a : Nat} {c : UInt8} (h : t[a]? = some c) (hp : p c = true) : scan t p a = scan t p (a + 1) := by
 simp [scan, drop_at h, hp]; omega
theorem ext_str (t : Txt) (a b : Nat) : (ByteArray.mk t.toArray).extract a b = ⟨((t.drop a).take (b - a)).toArray⟩ := by
 rw [ByteArray.extract_mk]
def kws : List Txt := [[97, 110, 100], [99, 97, 116], [99, 108, 101, 97, 114], [100, 101, 108, 101, 116, 101], [101, 108, 115, 101], [102, 97, 108, 115, 101], [104, 97, 115], [104, 101, 114, 101], [105, 102], [108, 101, 110], [109, 97, 120], [109, 105, 110], [110, 101, 119], [110, 111, 116], [111, 114], [112, 105, 99, 107], [116, 114, 117, 101]]
theorem keywords_any (w : World) : Calls Tryz.prog 144 #[] w fun e w' => e = .returned (.slice (some ⟨w.heap.size, 0, none⟩) 17 17) ∧ w' = w.alloc (.cells (kws.map str).toArray 9) := by
 go_enter Tryz.func144, Tryz.ntmps144
 go_wp2
 go_ret
 exact ⟨rfl, rfl⟩
theorem keyword_any (x : Txt) (w : World) : Calls Tryz.prog 124 #[str x] w fun e w' => e = .returned (.bool (decide (x ∈ kws))) ∧ Wp (fun _ => False) w w' := by
 go_enter Tryz.func124, Tryz.ntmps124
 go_wp2_with fail
 refine (keywords_any w).mono ?_
 rintro e w1 ⟨rfl, rfl⟩
 have HK : Hid (Wp (fun _ => False) w (w.alloc (.cells (kws.map str).toArray 9))) := (Wp.refl _ _).alloc _
 have HB : Hid ((w.alloc (.cells (kws.map str).toArray 9)).heap[w.heap.size]? = some (.cells (kws.map str).toArray 9 (0, 0))) := heap_alloc_new w _
 generalize w.alloc (.cells (kws.map str).toArray 9) = w2 at *
 generalize w.heap.size = b at *
 go_wp2
 go_loopw [4] (fun i wr => ∃ k : Nat, k ≤ 17 ∧ i = .int .i64 k ∧ Hid (x ∉ kws.take k) ∧ ∃ n, wr = w2.drewN n) (fun i _ => 17 - (intOf i).toNat)
 case atStart => exact ⟨0, by omega, rfl, by simp [Hid], 0, rfl⟩
 case round =>
  obtain ⟨k, hk, rfl, HN, n, rfl⟩ := hrel
  by_cases hlt : k < 17
  ·obtain ⟨y, hy⟩ : ∃ y, kws[k]? = some y := ⟨_, List.getElem?_eq_getElem (show k < kws.length from hlt)⟩
   have hc : w2.cell? ⟨b, k, none⟩ = some (str y) := by rw [zC (zA HB)]; simp [hy]
   have HY := zB hy
   clear hy
   go_wp2
   case roundEnd =>
    rename_i hx
    go_roundw
    case rel =>
     refine ⟨k + 1, by omega, by go_num, ?_, n, rfl⟩
     show x ∉ _
     rw [take_snoc _ _ _ (zA HY), List.mem_append]
     rintro (h | h)
     ·exact zA HN h
     ·simp at h; simp [h] at hx
    case measure => simp [intOf]; omega
   rename_i hx
   go_ret
   refine ⟨ret_bool ?_, (zA HK).drewN _⟩
   symm
   rw [decide_eq_true_iff]
   rw [beq_iff_eq] at hx
   rw [← hx]
   exact List.mem_of_getElem? (zA HY)
  ·go_wp2
   go_ret
   obtain rfl : k = 17 := by omega
   exact ⟨ret_bool (by symm; rw [decide_eq_false_iff_not]; exact zA HN), (zA HK).drewN _⟩
def nameB (x : Txt) : Bool := decide (x ≠ []) && decide (x.length ≤ 8) && !(match x[0]? with
 | some c => decide (48 ≤ num c) && decide (num c ≤ 57)
 | none => false) && x.all (fun c => partB (num c)) && !decide (x ∈ kws)
theorem name_any (x : Txt) (w : World) : Calls Tryz.prog 87 #[str x] w fun e w' => e = .returned (.bool (nameB x)) ∧ Wp (fun _ => False) w w' := by
 cases h : x[0]? with
 | none =>
  obtain rfl : x = [] := List.eq_nil_of_length_eq_zero (by have := get_ge h; omega)
  go_enter Tryz.func87, Tryz.ntmps87
  go_wp2
  go_ret
  exact ⟨rfl, Wp.refl _ _⟩
 | some c =>
  have h1 := get_lt h
  have q := str_at h
  have e1 : (c.toNat : Int) = num c := rfl
  have hx : (x == []) = false := by cases x <;> simp_all
  have HX : Hid (x ≠ []) := by rintro rfl; simp at h1
  have HH := zB h
  clear h
  by_cases hl : (8 : Int) < (x.length : Int)
  ·go_enter Tryz.func87, Tryz.ntmps87
   go_wp2
   go_ret
   exact ⟨ret_bool (by unfold nameB; rw [show decide (x.length ≤ 8) = false from decide_eq_false (by omega)]; simp), Wp.refl _ _⟩
  have hl2 : (x.length : Int) ≤ 8 := by omega
  by_cases hd : 48 ≤ num c ∧ num c ≤ 57
  ·obtain ⟨hd1, hd2⟩ := hd
   have HN : Hid (nameB x = false) := by show _ = _; unfold nameB; rw [zA HH]; simp [hd1, hd2]
   go_enter Tryz.func87, Tryz.ntmps87
   go_wp2
   go_ret
   exact ⟨ret_bool (zA HN).symm, Wp.refl _ _⟩
  have HN : Hid (nameB x = (x.all (fun c => partB (num c)) && !decide (x ∈ kws))) := by
   show _ = _
   unfold nameB
   rw [zA HH, show decide (x ≠ []) = true from decide_eq_true (zA HX), show decide (x.length ≤ 8) = true from decide_eq_true (by omega)]
   have : (decide (48 ≤ num c) && decide (num c ≤ 57)) = false := by
    apply Bool.eq_false_iff.2
    simp only [ne_eq, Bool.and_eq_true, decide_eq_true_eq]
    exact hd
   simp [this]
  have HD := zB hd
  clear hd HX
  go_enter Tryz.func87, Tryz.ntmps87
  go_wp2
  all_goals try (exfalso; have := zA HD; clear HN HH; simp_all <;> omega)
  all_goals
   clear HH HD q e1
   go_loopw [3] (fun i wr => ∃ k : Nat, k ≤ x.length ∧ i = .int .i64 k ∧ Hid ((x.take k).all (fun c => partB (num c)) = true) ∧ wr = w) (fun i _ => x.length - (intOf i).toNat)
   case atStart => exact ⟨0, by omega, rfl, by simp [Hid], rfl⟩
   case round =>
    obtain ⟨k, hk, rfl, HS, rfl⟩ := hrel
    cases h : x[k]? with
    | none =>
     have h1 := get_ge h
     obtain rfl : k = x.length := by omega
     go_wp2_with fail
     refine (keyword_any x wr).mono ?_
     rintro e w1 ⟨rfl, hk1⟩
     have HK := zB hk1
     clear hk1
     go_wp2
     go_ret
     refine ⟨ret_bool ?_, zA HK⟩
     rw [zA HN]
     have := zA HS
     rw [List.take_length] at this
     rw [this]; rfl
    | some y =>
     have h1 := get_lt h
     have q := str_at h
     have HY := zB h
     clear h
     have e1 : (y.toNat : Int) = num y := rfl
     go_wp2_with fail
     refine (part_any (num y) wr).mono ?_
     rintro e w1 ⟨rfl, rfl⟩
     cases hp : partB (num y) with
     | true =>
      go_wp2
      go_roundw
      case rel =>
       refine ⟨k + 1, by omega, by go_num, ?_, trivial⟩
       show _ = true
       rw [take_snoc _ _ _ (zA HY), List.all_append, zA HS]
       simp [hp]
      case measure => simp [intOf]; omega
     | false =>
      go_wp2
      go_ret
      refine ⟨ret_bool ?_, Wp.refl _ _⟩
      rw [zA HN]
      have : x.all (fun c => partB (num c)) = false := by
       rw [List.all_eq_false]
       exact ⟨y, List.mem_of_getElem? (zA HY), by simp [hp]⟩
      rw [this]; rfl
set_option maxHeartbeats 1000000
def digitB (c : Int) : Bool := decide (48 ≤ c) && decide (c ≤ 57)
theorem digit_any (c : Int) (w : World) : Calls Tryz.prog 98 #[.int .u8 c] w fun e w' => e = .returned (.bool (digitB c)) ∧ w' = w := by
 go_enter Tryz.func98, Tryz.ntmps98
 go_wp2
 all_goals (go_ret; refine ⟨ret_bool ?_, rfl⟩; apply Bool.eq_iff_iff.2; simp [digitB] at *; try omega)
theorem inRun_any (c : Int) (w : World) : Calls Tryz.prog 128 #[.int .u8 c] w fun e w' => e = .returned (.bool (partB c)) ∧ w' = w := by
 have HQ := zB (digit_any c w)
 go_enter Tryz.func128, Tryz.ntmps128
 go_wp2_with (go_at_call 98; refine (zA HQ).mono ?_; rintro e w' ⟨rfl, rfl⟩)
 all_goals (go_ret; refine ⟨ret_bool ?_, rfl⟩; apply Bool.eq_iff_iff.2; simp [partB, digitB] at *; try omega)
theorem keyword_v (x : Txt) (w : World) : Calls Tryz.prog 100 #[str x] w fun e w' => e = .returned (.bool (decide (x ∈ kws))) ∧ w' = w := by
 go_enter Tryz.func100, Tryz.ntmps100
 go_wp2
 all_goals (go_ret; refine ⟨ret_bool ?_, rfl⟩; simp_all [kws])
def fcs (l : List Wq) : List Value := l.flatMap Wq.cs
def vcs (l : List ValA) : List Value := l.flatMap ValA.cs
theorem flat_get {α : Type} (g : α → List Value) (hg : ∀ x, (g x).length = 3) : ∀ (l : List α) (i : Nat) (x : α) (j : Nat), l[i]? = some x → j < 3 → (l.flatMap g)[i * 3 + j]? = (g x)[j]?
 | [], i, x, j, h, _ => by simp at h
 | y :: r, 0, x, j, h, hj => by
  simp at h; subst h
  simp only [List.flatMap_cons, Nat.zero_mul, Nat.zero_add]
  rw [List.getElem?_append_left (by rw [hg]; exact hj)]
 | y :: r, i + 1, x, j, h, hj => by
  simp only [List.flatMap_cons]
  rw [List.getElem?_append_right (by rw [hg]; omega), hg, show (i + 1) * 3 + j - 3 = i * 3 + j by omega]
  exact flat_get g hg r i x j (by simpa using h) hj
theorem flat_length {α : Type} (g : α → List Value) (hg : ∀ x, (g x).length = 3) : ∀ l : List α, (l.flatMap g).length = l.length * 3
 | [] => rfl
 | x :: r => by simp only [List.flatMap_cons, List.length_append, List.length_cons, hg, flat_length g hg r]; omega
theorem fcs_length (l : List Wq) : (fcs l).length = l.length * 3 := flat_length _ (fun _ => rfl) l
theorem vcs_length (l : List ValA) : (vcs l).length = l.length * 3 := flat_length _ (fun _ => rfl) l
def Wt (w : World) (v : Value) (l : List Wq) : Prop := Ws w v l.length (fcs l)
def Wr (w : World) (v : Value) (l : List ValA) : Prop := Ws w v l.length (vcs l)
def Wv (w : World) (v : Value) (l : Txt) : Prop := Ws w v l.length (bs l)
theorem Wt.cells {w : World} {v : Value} {l : List Wq} (h : Wt w v l) (h0 : 0 < l.length) :
  ∃ b off cap, v = .slice (some ⟨b, off, none⟩) l.length cap ∧ b < w.heap.size ∧ ∀ i f, l[i]? = some f → w.cell? ⟨b, off + i * 3, none⟩ = some (str f.name) ∧ w.cell? ⟨b, off + i * 3 + 1, none⟩ = some (.int .i64 f.type) ∧ w.cell? ⟨b, off + i * 3 + 2, none⟩ = some (.bool f.opt) := by
 obtain ⟨b, off, cap, e, hb, hc⟩ := Ws.cells h h0
 refine ⟨b, off, cap, e, hb, fun i f hf => ?_⟩
 have k := fun j hj => flat_get Wq.cs (fun _ => rfl) l i f j hf hj
 have k0 := hc (i * 3 + 0) (str f.name) (k 0 (by omega))
 have k1 := hc (i * 3 + 1) (.int .i64 f.type) (k 1 (by omega))
 have k2 := hc (i * 3 + 2) (.bool f.opt) (k 2 (by omega))
 exact ⟨k0, k1, k2⟩
theorem Wr.cells {w : World} {v : Value} {l : List ValA} (h : Wr w v l) (h0 : 0 < l.length) :
  ∃ b off cap, v = .slice (some ⟨b, off, none⟩) l.length cap ∧ b < w.heap.size ∧ ∀ i f, l[i]? = some f → w.cell? ⟨b, off + i * 3, none⟩ = some (.int .i64 f.kind) ∧ w.cell? ⟨b, off + i * 3 + 1, none⟩ = some (.int .i64 f.n) ∧ w.cell? ⟨b, off + i * 3 + 2, none⟩ = some (str f.s) := by
 obtain ⟨b, off, cap, e, hb, hc⟩ := Ws.cells h h0
 refine ⟨b, off, cap, e, hb, fun i f hf => ?_⟩
 have k := fun j hj => flat_get ValA.cs (fun _ => rfl) l i f j hf hj
 have k0 := hc (i * 3 + 0) (.int .i64 f.kind) (k 0 (by omega))
 have k1 := hc (i * 3 + 1) (.int .i64 f.n) (k 1 (by omega))
 have k2 := hc (i * 3 + 2) (str f.s) (k 2 (by omega))
 exact ⟨k0, k1, k2⟩
def opts (l : List Wq) : Nat := (l.filter Wq.opt).length
def headB (l : List Wq) : Nat := (opts l + 7) / 8
theorem opts_snoc (l : List Wq) (f : Wq) : opts (l ++ [f]) = opts l + (if f.opt then 1 else 0) := by
 unfold opts
 rw [List.filter_append, List.length_append]
 cases h : f.opt <;> simp [h]
theorem opts_le (l : List Wq) : opts l ≤ l.length := List.length_filter_le _ _
theorem Wt.keepF {w w' : World} {v : Value} {l : List Wq} (h : Wt w v l) (hk : Wp (fun _ => False) w w') : Wt w' v l := Ws.keepF h hk
theorem Wr.keepF {w w' : World} {v : Value} {l : List ValA} (h : Wr w v l) (hk : Wp (fun _ => False) w w') : Wr w' v l := Ws.keepF h hk
theorem Wv.keepF {w w' : World} {v : Value} {l : Txt} (h : Wv w v l) (hk : Wp (fun _ => False) w w') : Wv w' v l := Ws.keepF h hk
theorem boxed (w : World) (c : Array Value) (t : TypeId) : Hid (Wp (fun _ => False) w (w.alloc (.cells c t))) ∧ w.heap.size < (w.alloc (.cells c t)).heap.size ∧ ∀ j x, c[j]? = some x → (w.alloc (.cells c t)).cell? ⟨w.heap.size, j, none⟩ = some x :=
 ⟨(Wp.refl _ _).alloc _, by simp, fun j x hx => by rw [zC (heap_alloc_new w _)]; exact hx⟩
theorem head_any (l : List Wq) (v : Value) (w : World) (h : Wt w v l) (hl : l.length ≤ 1099511627776) :
  Calls Tryz.prog 125 #[.agg #[v]] w fun e w' => e = .returned (.int .i64 (headB l)) ∧ Wp (fun _ => False) w w' := by
 obtain ⟨ao, cap, rfl⟩ := Ws.form h
 have HF := zB h
 clear h
 go_enter Tryz.func125, Tryz.ntmps125
 go_wp2
 obtain ⟨HB, hb, hbc⟩ := boxed w #[.slice ao l.length cap] 24
 have hp := hbc 0 (.slice ao l.length cap) rfl
 have HF2 := zB ((zA HF).keepF (zA HB))
 clear hbc HF
 generalize w.alloc (.cells #[.slice ao l.length cap] 24) = w2 at *
 generalize w.heap.size = sb at *
 go_loopw [3, 4] (fun n i wr => ∃ k : Nat, k ≤ l.length ∧ i = .int .i64 k ∧ n = .int .i64 (opts (l.take k)) ∧ Wp (fun _ => False) w2 wr) (fun _ i _ => l.length - (intOf i).toNat)
 case atStart => exact ⟨0, Nat.zero_le _, rfl, rfl, Wp.refl _ _⟩
 case round =>
  obtain ⟨k, hk, rfl, rfl, hkp⟩ := hrel
  have hp' := (hkp.cell (o := 0) hb id).trans hp
  have HK := zB hkp
  have ho := opts_le (l.take k)
  rw [List.length_take] at ho
  cases h : l[k]? with
  | none =>
   have h1 := get_ge h
   obtain rfl : k = l.length := by omega
   clear hkp h h1
   rw [List.take_length] at *
   go_wp2
   go_ret
   exact ⟨ret_int (by unfold headB; omega), (zA HB).trans (zA HK)⟩
  | some f =>
   have h1 := get_lt h
   obtain ⟨b, off, c, e, hbl, hc⟩ := (zA HF2).cells (by omega)
   simp at e
   obtain ⟨rfl, rfl⟩ := e
   have c2 := (hkp.cell hbl id).trans (hc k f h).2.2
   have HO : Hid (opts (l.take (k + 1)) = opts (l.take k) + (if f.opt then 1 else 0)) := by show _ = _; rw [take_snoc _ _ _ h, opts_snoc]
   generalize opts (l.take k) = o at *
   clear hkp h hc
   cases hfo : f.opt with
   | true =>
    rw [hfo] at c2 HO
    go_wp2
    go_roundw
    case rel => exact ⟨k + 1, by omega, by go_num, by rw [zA HO]; go_num, zA HK⟩
    case measure => simp [intOf]; omega
   | false =>
    rw [hfo] at c2 HO
    go_wp2
    go_roundw
    case rel => exact ⟨k + 1, by omega, by go_num, by rw [zA HO]; go_num, zA HK⟩
    case measure => simp [intOf]; omega
def wides (l : List Wq) : Int := (l.map fun f => wideB f.type).sum
def widthB (l : List Wq) : Int := headB l + wides l
theorem wides_snoc (l : List Wq) (f : Wq) : wides (l ++ [f]) = wides l + wideB f.type := by simp [wides, List.sum_append]
theorem wideB_range (t : Int) : -1 ≤ wideB t ∧ wideB t ≤ 21 := by unfold wideB; repeat' split
                                                                  all_goals omega
theorem wides_range : ∀ l : List Wq, -(l.length : Int) ≤ wides l ∧ wides l ≤ 21 * (l.length : Int)
 | [] => by simp [wides]
 | f :: r => by
  have h1 := wides_range r
  have h2 := wideB_range f.type
  unfold wides at *
  simp only [List.map_cons, List.sum_cons, List.length_cons]
  omega
theorem headB_le (l : List Wq) : headB l ≤ l.length := by
 unfold headB
 have := opts_le l
 rcases Nat.eq_zero_or_pos (opts l) with h | h
 ·rw [h]; omega
 ·omega
theorem width_any (l : List Wq) (v : Value) (w : World) (h : Wt w v l) (hl : l.length ≤ 8) :
  Calls Tryz.prog 89 #[.agg #[v]] w fun e w' => e = .returned (.int .i64 (widthB l)) ∧ Wp (fun _ => False) w w' := by
 obtain ⟨ao, cap, rfl⟩ := Ws.form h
 obtain ⟨HB, hb, hbc⟩ := boxed w #[.slice ao l.length cap] 24
 have hp := hbc 0 (.slice ao l.length cap) rfl
 have hF2 := h.keepF (zA HB)
 have HH := zB (head_any l _ _ hF2 (by omega))
 have hh := headB_le l
 have HE : Hid (widthB l = headB l + wides l) := rfl
 generalize widthB l = R at *
 generalize headB l = H at *
 have HF2 := zB hF2
 clear hbc h hF2
 go_enter Tryz.func89, Tryz.ntmps89
 go_wp2_with fail
 refine (zA HH).mono ?_
 rintro e w2 ⟨rfl, hk⟩
 have HF3 := zB ((zA HF2).keepF hk)
 have HB2 := zB ((zA HB).trans hk)
 have hb2 : w.heap.size < w2.heap.size := Nat.lt_of_lt_of_le hb hk.size
 have hp2 := (hk.cell hb id).trans hp
 generalize w.alloc (.cells #[.slice ao l.length cap] 24) = w1 at *
 clear HH HF2 HB hk hp hb
 generalize w.heap.size = sb at *
 go_wp2_with fail
 go_loopw [3, 4] (fun n i wr => ∃ k : Nat, k ≤ l.length ∧ i = .int .i64 k ∧ n = .int .i64 (H + wides (l.take k)) ∧ Wp (fun _ => False) w2 wr) (fun _ i _ => l.length - (intOf i).toNat)
 case atStart => exact ⟨0, Nat.zero_le _, rfl, by simp [wides], Wp.refl _ _⟩
 case round =>
  obtain ⟨k, hk, rfl, rfl, hkp⟩ := hrel
  have hp' := (hkp.cell (o := 0) hb2 id).trans hp2
  have HK := zB hkp
  have ho := wides_range (l.take k)
  rw [List.length_take] at ho
  cases h : l[k]? with
  | none =>
   have h1 := get_ge h
   obtain rfl : k = l.length := by omega
   clear hkp h h1
   rw [List.take_length] at *
   go_wp2_with fail
   go_ret
   exact ⟨ret_int (zA HE).symm, (zA HB2).trans (zA HK)⟩
  | some f =>
   have h1 := get_lt h
   obtain ⟨b, off, c, e, hbl, hc⟩ := (zA HF3).cells (by omega)
   simp at e
   obtain ⟨rfl, rfl⟩ := e
   have c1 := (hkp.cell hbl id).trans (hc k f h).2.1
   have HO : Hid (wides (l.take (k + 1)) = wides (l.take k) + wideB f.type) := by show _ = _; rw [take_snoc _ _ _ h, wides_snoc]
   have hwr := wideB_range f.type
   generalize wides (l.take k) = o at *
   clear hkp h hc
   go_wp2_with fail
   refine (wide_any f.type wr).mono ?_
   rintro e w3 ⟨rfl, rfl⟩
   generalize wideB f.type = W at *
   go_wp2_with fail
   go_roundw
   case rel => exact ⟨k + 1, by omega, by go_num, by rw [zA HO]; go_num, zA HK⟩
   case measure => simp [intOf]; omega
def fieldOK (f : Wq) : Bool := nameB f.name && decide (0 ≤ wideB f.type)
def schemaB (l : List Wq) : Bool := decide (1 ≤ l.length) && decide (l.length ≤ 8) && l.all fieldOK && decide (l.map Wq.name).Nodup && decide (widthB l ≤ 64)
def errS (l : List Wq) : Int := if schemaB l then 0 else 60
set_option maxHeartbeats 2000000
theorem errS_bad {l : List Wq} (h : schemaB l = false) : errS l = 60 := by simp [errS, h]
theorem errS_good {l : List Wq} (h : schemaB l = true) : errS l = 0 := by simp [errS, h]
theorem schemaB_name {l : List Wq} {f : Wq} (hm : f ∈ l) (h : fieldOK f = false) : schemaB l = false := by
 have : l.all fieldOK = false := List.all_eq_false.2 ⟨f, hm, by simp [h]⟩
 simp [schemaB, this]
theorem schemaB_twice {l : List Wq} {i j : Nat} {f g : Wq} (hi : l[i]? = some f) (hj : l[j]? = some g) (hij : j < i) (h : g.name = f.name) : schemaB l = false := by
 have : ¬ (l.map Wq.name).Nodup := by
  intro hn
  have e1 : (l.map Wq.name)[j]? = some g.name := by simp [hj]
  have e2 : (l.map Wq.name)[i]? = some f.name := by simp [hi]
  obtain ⟨hjl, e1'⟩ := List.getElem?_eq_some_iff.1 e1
  obtain ⟨hil, e2'⟩ := List.getElem?_eq_some_iff.1 e2
  have := List.pairwise_iff_getElem.1 hn j i hjl hil hij
  exact this (by rw [e1', e2', h])
 simp [schemaB, this]
theorem schemaB_end {l : List Wq} (h1 : 1 ≤ l.length) (h2 : l.length ≤ 8) (h3 : l.all fieldOK = true) (h4 : (l.map Wq.name).Nodup) : schemaB l = decide (widthB l ≤ 64) := by
 unfold schemaB
 rw [h3, decide_eq_true h1, decide_eq_true h2, decide_eq_true h4]
 rfl
theorem nodup_snoc {l : List Wq} {f : Wq} (h : (l.map Wq.name).Nodup) (hn : ∀ g ∈ l, g.name ≠ f.name) : ((l ++ [f]).map Wq.name).Nodup := by
 rw [List.map_append, List.nodup_append]
 refine ⟨h, by simp, ?_⟩
 intro a ha b hb
 obtain ⟨g, hg, rfl⟩ := List.mem_map.1 ha
 simp at hb
 subst hb
 exact hn g hg
theorem checkSchema_any (l : List Wq) (v : Value) (w : World) (h : Wt w v l) :
  Calls Tryz.prog 57 #[.agg #[v]] w fun e w' => e = .returned (.int .i64 (errS l)) ∧ Wp (fun _ => False) w w' := by
 obtain ⟨ao, cap, rfl⟩ := Ws.form h
 obtain ⟨HB, hb, hbc⟩ := boxed w #[.slice ao l.length cap] 24
 have hp := hbc 0 (.slice ao l.length cap) rfl
 have HF := zB (h.keepF (zA HB))
 clear hbc h
 by_cases hl1 : (l.length : Int) < 1
 ·have HE : Hid (errS l = 60) := errS_bad (by unfold schemaB; rw [decide_eq_false (show ¬ 1 ≤ l.length by omega)]; simp)
  go_enter Tryz.func57, Tryz.ntmps57
  go_wp2
  go_ret
  exact ⟨ret_int (zA HE).symm, (Wp.refl _ _).alloc _⟩
 by_cases hl2 : (8 : Int) < (l.length : Int)
 ·have HE : Hid (errS l = 60) := errS_bad (by unfold schemaB; rw [decide_eq_false (show ¬ l.length ≤ 8 by omega)]; simp)
  go_enter Tryz.func57, Tryz.ntmps57
  go_wp2
  go_ret
  exact ⟨ret_int (zA HE).symm, (Wp.refl _ _).alloc _⟩
 have hl3 : (1 : Int) ≤ (l.length : Int) := by omega
 have hl4 : (l.length : Int) ≤ 8 := by omega
 clear hl1 hl2
 go_enter Tryz.func57, Tryz.ntmps57
 go_wp2_with fail
 generalize w.alloc (.cells #[.slice ao l.length cap] 24) = w2 at *
 generalize w.heap.size = sb at *
 go_loopw [3] (fun i wr => ∃ k : Nat, k ≤ l.length ∧ i = .int .i64 k ∧ Hid ((l.take k).all fieldOK = true) ∧ Hid ((l.take k).map Wq.name).Nodup ∧ Wp (fun _ => False) w2 wr) (fun i _ => l.length - (intOf i).toNat)
 case atStart => exact ⟨0, Nat.zero_le _, rfl, by simp [Hid], by simp [Hid], Wp.refl _ _⟩
 case round =>
  obtain ⟨k, hk, rfl, HA, HN, hkp⟩ := hrel
  have hp' := (hkp.cell (o := 0) hb id).trans hp
  cases h : l[k]? with
  | none =>
   have h1 := get_ge h
   obtain rfl : k = l.length := by omega
   rw [List.take_length] at HA HN
   have HW := zB (width_any l _ _ ((zA HF).keepF hkp) (by omega))
   have HE := zB (schemaB_end (by omega) (by omega) (zA HA) (zA HN))
   have HK := zB hkp
   clear hkp h h1
   go_wp2_with fail
   refine (zA HW).mono ?_
   rintro e w3 ⟨rfl, hk3⟩
   have HK3 := zB hk3
   clear hk3
   by_cases hw : (64 : Int) < widthB l
   ·go_wp2_with fail
    go_ret
    exact ⟨ret_int (errS_bad (by rw [zA HE]; exact decide_eq_false (by omega))).symm, ((zA HB).trans (zA HK)).trans (zA HK3)⟩
   ·go_wp2_with fail
    go_ret
    exact ⟨ret_int (errS_good (by rw [zA HE]; exact decide_eq_true (by omega))).symm, ((zA HB).trans (zA HK)).trans (zA HK3)⟩
  | some f =>
   have h1 := get_lt h
   obtain ⟨b, off, c, e, hbl, hc⟩ := (zA HF).cells (by omega)
   simp at e
   obtain ⟨rfl, rfl⟩ := e
   have c0 := (hkp.cell hbl id).trans (hc k f h).1
   have c1 := (hkp.cell hbl id).trans (hc k f h).2.1
   have c2 := (hkp.cell hbl id).trans (hc k f h).2.2
   have HC := zB hc
   have HH := zB h
   have HK := zB hkp
   clear hkp h hc
   obtain ⟨HX, hxb, hxc⟩ := boxed wr #[str f.name, .int .i64 f.type, .bool f.opt] 58
   have x0 := hxc 0 (str f.name) rfl
   have x1 := hxc 1 (.int .i64 f.type) rfl
   go_wp2_with fail
   refine (name_any f.name _).mono ?_
   rintro e w4 ⟨rfl, hk4⟩
   have x0' := (hk4.cell hxb id).trans x0
   have x1' := (hk4.cell hxb id).trans x1
   have hxb' := Nat.lt_of_lt_of_le hxb hk4.size
   have HK4 := zB (((zA HK).trans (zA HX)).trans hk4)
   clear hxc x0 x1 hxb hk4 HX c0 c1 c2 hp'
   generalize wr.alloc _ = wd at *
   generalize wr.heap.size = fb at *
   have HO : Hid (fieldOK f = (nameB f.name && decide (0 ≤ wideB f.type))) := rfl
   go_wp2_with fail
   refine (wide_any f.type w4).mono ?_
   rintro e w5 ⟨rfl, rfl⟩
   have hp' := ((zA HK4).cell (o := 0) hb id).trans hp
   cases hfo : fieldOK f with
   | false =>
    have HE : Hid (errS l = 60) := errS_bad (schemaB_name (List.mem_of_getElem? (zA HH)) hfo)
    have ho := (zA HO).symm.trans hfo
    generalize nameB f.name = nm at *
    generalize wideB f.type = wi at *
    clear hfo HO
    cases nm
    ·go_wp2_with fail
     go_ret
     exact ⟨ret_int (zA HE).symm, (zA HB).trans (zA HK4)⟩
    ·have hw : wi < 0 := by simpa using ho
     clear ho
     go_wp2_with fail
     go_ret
     exact ⟨ret_int (zA HE).symm, (zA HB).trans (zA HK4)⟩
   | true =>
    have ho := (zA HO).symm.trans hfo
    rw [Bool.and_eq_true, decide_eq_true_eq] at ho
    obtain ⟨hnm, hwi⟩ := ho
    rw [hnm]
    generalize wideB f.type = wi at *
    have HFO := zB hfo
    clear hnm hfo HO
    go_wp2_with fail
    go_loopw [7] (fun i w6 => ∃ j : Nat, j ≤ k ∧ i = .int .i64 j ∧ Hid (∀ g ∈ l.take j, g.name ≠ f.name) ∧ Wp (fun _ => False) w5 w6) (fun i _ => k - (intOf i).toNat)
    case atStart => exact ⟨0, Nat.zero_le _, rfl, by simp [Hid], Wp.refl _ _⟩
    case round =>
     obtain ⟨j, hj, rfl, HD, hk6⟩ := hrel
     have HK6 := zB hk6
     by_cases hjk : j < k
     ·obtain ⟨g, hg⟩ : ∃ g, l[j]? = some g := ⟨_, List.getElem?_eq_getElem (by omega)⟩
      have y0 := (hk6.cell hxb' id).trans x0'
      have hp6 := (hk6.cell (o := 0) (Nat.lt_of_lt_of_le hb (zA HK4).size) id).trans hp'
      have g0 := (((zA HK4).trans hk6).cell hbl id).trans ((zA HC) j g hg).1
      have HG := zB hg
      clear hk6 hg
      have i1 : (j : Int) < (k : Int) := by omega
      have i2 : (j : Int) < (l.length : Int) := by omega
      go_wp2_with fail
      go_quiet (fail)
      go_wp2_with fail
      case roundEnd =>
       rename_i hne
       go_roundw
       case rel =>
        refine ⟨j + 1, by omega, by go_num, ?_, (zA HK6).drewN _⟩
        intro x hx
        rw [take_snoc _ _ _ (zA HG), List.mem_append] at hx
        rcases hx with hx | hx
        ·exact zA HD x hx
        ·simp at hx; rw [hx]; simpa using hne
       case measure => simp [intOf]; omega
      rename_i hne
      have HE : Hid (errS l = 60) := errS_bad (schemaB_twice (zA HH) (zA HG) hjk (by simpa using hne))
      go_ret
      exact ⟨ret_int (zA HE).symm, ((zA HB).trans ((zA HK4).trans (zA HK6))).drewN _⟩
     ·obtain rfl : j = k := by omega
      clear hk6
      go_wp2_with fail
      go_roundw
      case rel =>
       refine ⟨j + 1, by omega, by go_num, ?_, ?_, (zA HK4).trans (zA HK6)⟩
       ·show _ = true
        rw [take_snoc _ _ _ (zA HH), List.all_append, zA HA]
        simp [zA HFO]
       ·show List.Nodup _
        rw [take_snoc _ _ _ (zA HH)]
        exact nodup_snoc (zA HN) (zA HD)
      case measure => simp [intOf]; omega
set_option maxHeartbeats 1000000
def runB (x : Txt) : Nat := scan x (fun c => partB (num c)) 0
theorem run_v (x : Txt) (hx : x.length ≤ 1099511627776) (w : World) : Calls Tryz.prog 99 #[str x] w fun e w' => e = .returned (.int .i64 (runB x)) ∧ w' = w := by
 go_enter Tryz.func99, Tryz.ntmps99
 go_wp2
 go_loopw [6] (fun i wr => ∃ k : Nat, k ≤ x.length ∧ i = .int .i64 k ∧ Hid (runB x = scan x (fun c => partB (num c)) k) ∧ wr = w) (fun i _ => x.length - (intOf i).toNat)
 case atStart => exact ⟨0, by omega, rfl, rfl, rfl⟩
 case round =>
  obtain ⟨k, hk, rfl, HS, rfl⟩ := hrel
  cases h : x[k]? with
  | none =>
   have h1 := get_ge h
   obtain rfl : k = x.length := by omega
   have HH := zB h
   clear h
   go_wp2
   go_ret
   exact ⟨ret_int (by rw [zA HS, scan_none (zA HH)]), rfl⟩
  | some y =>
   have h1 := get_lt h
   have q := str_at h
   have HH := zB h
   clear h
   have e1 : (y.toNat : Int) = num y := rfl
   go_wp2_with fail
   refine (inRun_any (num y) wr).mono ?_
   rintro e w1 ⟨rfl, rfl⟩
   cases hp : partB (num y) with
   | true =>
    go_wp2
    go_roundw
    case rel => exact ⟨k + 1, by omega, by go_num, (zA HS).trans (scan_go (zA HH) hp), trivial⟩
    case measure => simp [intOf]; omega
   | false =>
    go_wp2
    go_ret
    exact ⟨ret_int (by rw [zA HS, scan_stop (zA HH) hp]), rfl⟩
theorem takeWhile_all {p : UInt8 → Bool} : ∀ l : Txt, ((l.takeWhile p).length = l.length) = (l.all p = true)
 | [] => by simp
 | c :: r => by
  cases h : p c
  ·simp [h]
  ·have := takeWhile_all (p := p) r
   simp only [List.takeWhile_cons, h, List.length_cons, List.all_cons, Bool.true_and, if_true]
   rw [← this]
   simp
theorem runB_full (x : Txt) : ((runB x : Int) == (x.length : Int)) = x.all (fun c => partB (num c)) := by
 have h := takeWhile_all (p := fun c => partB (num c)) x
 unfold runB scan
 rw [List.drop_zero, Nat.zero_add]
 apply Bool.eq_iff_iff.2
 rw [beq_iff_eq, ← h]
 omega
theorem nameB_form (x : Txt) (c : UInt8) (h : x[0]? = some c) (h8 : x.length ≤ 8) : nameB x = (!digitB (num c) && (x.all (fun c => partB (num c)) && !decide (x ∈ kws))) := by
 unfold nameB digitB
 have : x ≠ [] := by rintro rfl; simp at h
 rw [h, decide_eq_true h8, decide_eq_true this]
 simp [Bool.and_assoc]
theorem name_v (x : Txt) (w : World) : Calls Tryz.prog 64 #[str x] w fun e w' => e = .returned (.bool (nameB x)) ∧ w' = w := by
 cases h : x[0]? with
 | none =>
  obtain rfl : x = [] := List.eq_nil_of_length_eq_zero (by have := get_ge h; omega)
  go_enter Tryz.func64, Tryz.ntmps64
  go_wp2
  go_ret
  exact ⟨rfl, rfl⟩
 | some c =>
  have h1 := get_lt h
  have q := str_at h
  have e1 : (c.toNat : Int) = num c := rfl
  by_cases hl : (8 : Int) < (x.length : Int)
  ·have HN : Hid (nameB x = false) := by show _ = _; unfold nameB; rw [show decide (x.length ≤ 8) = false from decide_eq_false (by omega)]; simp
   clear h
   go_enter Tryz.func64, Tryz.ntmps64
   go_wp2
   go_ret
   exact ⟨ret_bool (zA HN).symm, rfl⟩
  have hl2 : (x.length : Int) ≤ 8 := by omega
  have HN := zB (nameB_form x c h (by omega))
  have HR := zB (run_v x (by omega) w)
  have HK := zB (keyword_v x w)
  have HD := zB (digit_any (num c) w)
  have HF := zB (runB_full x)
  generalize nameB x = N at *
  generalize digitB (num c) = D at *
  generalize x.all (fun c => partB (num c)) = P at *
  generalize decide (x ∈ kws) = K at *
  clear h hl
  go_enter Tryz.func64, Tryz.ntmps64
  go_wp2_with fail
  refine (zA HD).mono ?_
  rintro e w' ⟨rfl, rfl⟩
  cases D with
  | true =>
   go_wp2_with fail
   go_ret
   exact ⟨ret_bool (zA HN).symm, rfl⟩
  | false =>
   go_wp2_with fail
   refine (zA HR).mono ?_
   rintro e w' ⟨rfl, rfl⟩
   have hf := zA HF
   cases P with
   | false =>
    go_wp2_with fail
    go_ret
    exact ⟨ret_bool (zA HN).symm, rfl⟩
   | true =>
    go_wp2_with fail
    refine (zA HK).mono ?_
    rintro e w' ⟨rfl, rfl⟩
    go_wp2_with fail
    go_ret
    exact ⟨ret_bool (by rw [zA HN]; cases K <;> rfl), rfl⟩
theorem typeB (t : Int) : (t == 1 || t == 2 || t == 3) = decide (0 ≤ wideB t) := by
 unfold wideB
 apply Bool.eq_iff_iff.2
 simp only [Bool.or_eq_true, beq_iff_eq, decide_eq_true_eq]
 repeat' split
 all_goals omega
theorem isType_v (t : Int) (w : World) : Calls Tryz.prog 65 #[.int .i64 t] w fun e w' => e = .returned (.bool (decide (0 ≤ wideB t))) ∧ w' = w := by
 go_enter Tryz.func65, Tryz.ntmps65
 go_wp2
 all_goals (go_ret; refine ⟨ret_bool ?_, rfl⟩; rw [← typeB]; try simp_all)
end Go.Proofs.YtbdlcaamanhapaaGreatDoor
