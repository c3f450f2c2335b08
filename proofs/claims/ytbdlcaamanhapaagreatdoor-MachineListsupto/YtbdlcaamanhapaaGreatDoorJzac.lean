import Derived.Test.YtbdlcaamanhapaaGreatDoorJzab
import Derived.Lib.AppendStr
import Derived.Laws.MakeOwn
namespace Go.Proofs.YtbdlcaamanhapaaGreatDoor
open Go.RowKit Go.Maps
def headN : List Bool → Nat
 | [] => 0
 | b :: r => (if b then 1 else 0) + 2 * headN r
theorem headN_snoc : ∀ (l : List Bool) (b : Bool), headN (l ++ [b]) = headN l + (if b then 2 ^ l.length else 0)
 | [], b => by cases b <;> simp [headN]
 | c :: r, b => by
  simp only [List.cons_append, headN, headN_snoc r b, List.length_cons, Nat.pow_succ]
  cases b <;> cases c <;> simp <;> omega
theorem headN_lt : ∀ l : List Bool, headN l < 2 ^ l.length
 | [] => by simp [headN]
 | b :: r => by
  have := headN_lt r
  simp only [headN, List.length_cons, Nat.pow_succ]
  cases b <;> simp <;> omega
def bitsOf (z : List (Wq × ValA)) : List Bool := (z.filter fun p => p.1.opt).map fun p => decide (p.2.kind ≠ 0)
theorem bitsOf_snoc (z : List (Wq × ValA)) (f : Wq) (x : ValA) : bitsOf (z ++ [(f, x)]) = bitsOf z ++ (if f.opt then [decide (x.kind ≠ 0)] else []) := by
 unfold bitsOf
 rw [List.filter_append, List.map_append]
 cases h : f.opt <;> simp [h]
theorem bitsOf_le (z : List (Wq × ValA)) : (bitsOf z).length ≤ z.length := by
 unfold bitsOf
 rw [List.length_map]
 exact List.length_filter_le _ _
def enc1 (x : ValA) : Txt :=
 if x.kind = 1 then groups (tn x.n) else if x.kind = 2 then [UInt8.ofNat x.n.toNat] else if x.kind = 3 then UInt8.ofNat x.s.length :: x.s else []
def headT (z : List (Wq × ValA)) : Txt := if 0 < (bitsOf z).length then [UInt8.ofNat (headN (bitsOf z))] else []
def encB (l : List Wq) (r : List ValA) : Txt := headT (l.zip r) ++ r.flatMap enc1
def encodeB (l : List Wq) (r : List ValA) : Txt := if errR l r = 0 then encB l r else []
def InR (r : List ValA) : Prop := ∀ x ∈ r, -9223372036854775808 ≤ x.n ∧ x.n ≤ 9223372036854775807
theorem pow2_le {k : Nat} (h : k ≤ 8) : 2 ^ k ≤ 256 := by
 have : 2 ^ k ≤ 2 ^ 8 := Nat.pow_le_pow_right (by omega) h
 omega
theorem fitsB_kind {f : Wq} {x : ValA} (h : fitsB f x = true) : x.kind = 0 ∨ x.kind = 1 ∨ (x.kind = 2 ∧ 0 ≤ x.n ∧ x.n ≤ 1) ∨ (x.kind = 3 ∧ x.s.length ≤ 20) := by
 unfold fitsB at h
 repeat' split at h
 all_goals simp_all
 rcases h.1 with h | h <;> simp [h]
theorem fitAll_at {l : List Wq} {r : List ValA} (h : fitAll l r = true) {k : Nat} {f : Wq} {x : ValA} (hf : l[k]? = some f) (hx : r[k]? = some x) : fitsB f x = true := by
 have := List.all_eq_true.1 h (f, x) (List.mem_of_getElem? (zip_get hf hx))
 exact this
theorem errR_zero {l : List Wq} {r : List ValA} (h : errR l r = 0) : schemaB l = true ∧ r.length = l.length ∧ fitAll l r = true := by
 unfold errR at h
 split at h
 ·rename_i hs
  split at h
  ·rename_i hr
   unfold recB at hr
   rw [Bool.and_eq_true, decide_eq_true_eq] at hr
   exact ⟨hs, hr⟩
  ·cases h
 ·cases h
theorem enc1_length {f : Wq} {x : ValA} (h : fitsB f x = true) (hx : -9223372036854775808 ≤ x.n ∧ x.n ≤ 9223372036854775807) : (enc1 x).length ≤ 21 := by
 unfold enc1
 have hg := groups_10 (tn x.n) (tn_le _ hx.1 hx.2)
 rcases fitsB_kind h with h | h | ⟨h, _⟩ | ⟨h, h2⟩ <;> simp [h] <;> omega
theorem flat_le {α β : Type} (g : α → List β) (m : Nat) : ∀ l : List α, (∀ x ∈ l, (g x).length ≤ m) → (l.flatMap g).length ≤ m * l.length
 | [], _ => by simp
 | x :: r, h => by
  have h1 := flat_le g m r (fun y hy => h y (List.mem_cons_of_mem _ hy))
  have h2 := h x (List.mem_cons_self ..)
  simp only [List.flatMap_cons, List.length_append, List.length_cons, Nat.mul_add]
  omega
theorem bs_append (a b : Txt) : bs (a ++ b) = bs a ++ bs b := by simp [bs]
theorem ret_vi {v u : Value} {k : IntKind} {a b : Int} (h : v = u) (h2 : a = b) : Ending.returned (.tuple #[v, .int k a]) = .returned (.tuple #[u, .int k b]) := by rw [h, h2]
theorem enc1_none {x : ValA} (h : x.kind = 0) : enc1 x = [] := by simp [enc1, h]
theorem enc1_int {x : ValA} (h : x.kind = 1) : enc1 x = groups (tn x.n) := by simp [enc1, h]
theorem enc1_bool {x : ValA} (h : x.kind = 2) : enc1 x = [UInt8.ofNat x.n.toNat] := by simp [enc1, h]
theorem enc1_bytes {x : ValA} (h : x.kind = 3) : enc1 x = UInt8.ofNat x.s.length :: x.s := by simp [enc1, h]
theorem Wp.narrowS {F : Nat → Prop} {a b c : World} (h : Wp (fun _ => False) a b) (k : Wp F b c) (hF : ∀ i, F i → a.heap.size ≤ i) : Wp (fun _ => False) a c := h.narrow k hF
set_option maxRecDepth 100000
set_option maxHeartbeats 4000000
theorem strCells_bs (s : Txt) : Lib.strCells ⟨s.toArray⟩ = bs s := by simp [Lib.strCells, bs, num]
theorem appendStr_v (base : Nat) (v : Value) (xs : List Value) (n : Nat) (s : Txt) (w : World) (hown : w.ownsRow base 5 1 v n xs) (hn : n ≤ 4096) (ht : s.length ≤ 255) (hbase : base ≤ w.heap.size) :
  Calls Tryz.prog 135 #[v, str s] w fun e w' => ∃ v', e = .returned v' ∧ w'.ownsRow base 5 1 v' (n + 1 + s.length) (xs ++ [.int .u8 (s.length : Int)] ++ bs s) ∧ Wp (fun q => v.ownBlock = some q) w w' := by
 obtain ⟨i0, hi, hz0, hz1, hz2⟩ := info_parts Tryz.info5
 obtain ⟨vo, vc, rfl⟩ := Ws.form (zG hown)
 have HO := zB hown
 have HT := zB ht
 have i1 : (0 : Int) ≤ (s.length : Int) := by omega
 have i2 : (s.length : Int) ≤ 255 := by omega
 have hw8 : IntKind.u8.wrap (s.length : Int) = (s.length : Int) := by rw [IntKind.wrap_u8]; omega
 have mark0 : True := trivial
 clear hown ht
 go_enter Tryz.func135, Tryz.ntmps135
 go_wp2_with (first
  | (clear mark0
     at_builtin
     refine wpList_append_lies _ rfl _ _ _ rfl base 5 i0 _ 1 1 Tryz.underlying42 hi hz0 hz1 hz2 rfl (by omega) (.slice vo n vc) n xs rfl ((zA HO).alloc _) ⟨w.heap.size, 0, none⟩ 1 1 [.int .u8 (s.length : Int)] rfl rfl (World.news_of_block (cs := #[.int .u8 (s.length : Int)]) (t := 5) (fr := (0, 0)) (heap_alloc_new w _)) (by simp [Value.oneCell']) (by omega) (by unfold maxLen; omega) (by omega) (by simp; omega) (w.heap.size + 1) (by simp) ?_
     intro g cap w1 hown1 hgrow hat hlt1
     have hk1 : Wp (fun q => (Value.slice vo n vc).ownBlock = some q) w w1 := ((Wp.refl _ w).alloc _).grown hgrow (fun q e _ => e)
     have HK1 := zB hk1
     have HO1 := zB hown1
     have HB1 : Hid (base ≤ w1.heap.size) := Nat.le_trans hbase hk1.size
     have HAT := zB hat
     have mark1 : True := trivial
     clear hk1 hown1 hgrow hat)
  | (clear mark1
     at_builtin
     refine Lib.wpList_append_own_string _ rfl _ _ _ _ rfl base 5 i0 Tryz.underlying42 Tryz.underlying9 hi hz0 hz1 hz2 (.slice (some ⟨g, 0, none⟩) (n + 1) cap) (n + 1) (xs ++ [.int .u8 (s.length : Int)]) rfl (zA HO1) ⟨s.toArray⟩ rfl (by have := zA HT; show n + 1 + s.length ≤ maxLen; unfold maxLen; omega) (by have := zA HT; show n + 1 + s.length ≤ _; omega) (zA HB1) ?_
     intro v2 w2 how2 hg2 _
     have HO2 := zB how2
     have HG2 := zB hg2
     clear how2 hg2))
 go_ret
 refine ⟨_, rfl, ?_, (zA HK1).grown (zA HG2) (fun k e hlt => ?_)⟩
 ·have h := zA HO2
  rw [strCells_bs] at h
  exact h
 ·simp only [Value.ownBlock, Option.some.injEq] at e
  subst e
  rcases zA HAT with q | q
  ·exact q
  ·omega
theorem appendValue_v (w : World) (B : Nat) (v : Value) (m : Nat) (xs : List Value) (f : Wq) (x : ValA) (hx : fitsB f x = true) (hI : -9223372036854775808 ≤ x.n ∧ x.n ≤ 9223372036854775807) (hv : w.ownsRow B 5 1 v m xs) (hm : m ≤ 1024) (hB : B ≤ w.heap.size) :
  Calls Tryz.prog 150 #[v, x.v] w fun e w' => ∃ v', e = .returned v' ∧ w'.ownsRow B 5 1 v' (m + (enc1 x).length) (xs ++ bs (enc1 x)) ∧ Wp (fun q => B ≤ q) w w' := by
 obtain ⟨i0, hi, hz0, hz1, hz2⟩ := info_parts Tryz.info5
 obtain ⟨k, n, s⟩ := x
 simp only at hI
 obtain ⟨hn0, hn1⟩ := hI
 have HI0 := zB hn0
 have HI1 := zB hn1
 unfold ValA.v
 simp only
 have HV := zB (hv.alloc (.cells #[.int .i64 k, .int .i64 n, str s] 51))
 have HKB : Hid (Wp (fun q => B ≤ q) w (w.alloc (.cells #[.int .i64 k, .int .i64 n, str s] 51))) := (Wp.refl _ _).alloc _
 have hB1 : B ≤ (w.alloc (.cells #[.int .i64 k, .int .i64 n, str s] 51)).heap.size := by simp; omega
 have HLT := zB hv
 clear hv
 rcases fitsB_kind hx with h | h | ⟨h, hb0, hb1⟩ | ⟨h, hs20⟩
 ·simp only at h
  subst h
  have HE : Hid (enc1 ⟨0, n, s⟩ = []) := enc1_none rfl
  clear hx
  go_enter Tryz.func150, Tryz.ntmps150
  go_wp2_with fail
  go_ret
  refine ⟨_, rfl, ?_, zA HKB⟩
  rw [zA HE]
  simpa [bs] using zA HV
 ·simp only at h
  subst h
  have HE : Hid (enc1 ⟨1, n, s⟩ = groups (tn n)) := enc1_int rfl
  have HQ := zB (appendInt_v _ B v m xs n hn0 hn1 (zA HV) (by omega) hB1)
  clear hx hn0 hn1
  rw [zA HE]
  go_enter Tryz.func150, Tryz.ntmps150
  go_wp2_with fail
  refine (zA HQ).mono ?_
  rintro e w2 ⟨v', rfl, ho, hk, _⟩
  have HO := zB ho
  have HK := zB hk
  clear ho hk
  go_wp2_with fail
  go_ret
  exact ⟨_, rfl, zA HO, (zA HKB).trans ((zA HK).mono (fun q _ e => ((zA HV).lt q e).1))⟩
 ·simp only at h hb0 hb1
  subst h
  have HE : Hid (enc1 ⟨2, n, s⟩ = [UInt8.ofNat n.toNat]) := enc1_bool rfl
  have HC : Hid (num (UInt8.ofNat n.toNat) = n) := by show _ = _; rw [num_of _ (by omega)]; omega
  clear hx hn0 hn1
  rw [zA HE]
  generalize UInt8.ofNat n.toNat = c at *
  go_enter Tryz.func150, Tryz.ntmps150
  go_wp2_with (at_builtin; refine wpList_append_lies _ rfl _ _ _ rfl B 5 i0 _ 1 1 Tryz.underlying42 hi hz0 hz1 hz2 rfl (by omega) v m xs rfl ((zA HV).alloc _) ⟨w.heap.size + 1, 0, none⟩ 1 1 [.int .u8 n] rfl rfl (World.news_of_block (cs := #[.int .u8 n]) (t := 5) (fr := (0, 0)) (by have q := heap_alloc_new (w.alloc (.cells #[.int .i64 2, .int .i64 n, str s] 51)) (.cells #[.int .u8 n] 5); rw [World.size_alloc] at q; exact q)) (by simp [Value.oneCell']) (by omega) (by unfold maxLen; omega) (by omega) (by simp; omega) (w.heap.size + 2) (by simp) ?_; intro g cap w2 hown1 hgrow hat hlt1)
  go_ret
  refine ⟨_, rfl, ?_, ((zA HKB).alloc _).grown hgrow (fun q e _ => ((zA HV).lt q e).1)⟩
  simpa [bs, zA HC] using hown1
 ·simp only at h hs20
  subst h
  have HE : Hid (enc1 ⟨3, n, s⟩ = UInt8.ofNat s.length :: s) := enc1_bytes rfl
  have HC : Hid (num (UInt8.ofNat s.length) = (s.length : Int)) := num_of _ (by omega)
  clear hx hn0 hn1
  rw [zA HE]
  generalize UInt8.ofNat s.length = c at *
  have HQ := zB (appendStr_v B v xs m s _ (zA HV) (by omega) (by omega) hB1)
  go_enter Tryz.func150, Tryz.ntmps150
  go_wp2_with fail
  refine (zA HQ).mono ?_
  rintro e w2 ⟨v', rfl, ho, hk⟩
  have HO := zB ho
  have HK := zB hk
  clear ho hk HQ
  go_wp2_with fail
  go_ret
  refine ⟨_, rfl, ?_, (zA HKB).trans ((zA HK).mono (fun q _ e => ((zA HV).lt q e).1))⟩
  have h := zA HO
  rw [List.append_assoc] at h
  have e1 : bs (c :: s) = [.int .u8 (s.length : Int)] ++ bs s := by simp [bs, zA HC]
  rw [e1]
  rw [show m + (s.length + 1) = m + 1 + s.length by omega]
  exact h
theorem run_mkb (h c : Nat) (hh : h ≤ c) (hc : c ≤ 1024) (w : World) : (Instr.makeSlice 42 (.int .i64 (h : Int)) (.int .i64 (c : Int))).run Tryz.prog w = .ok (.slice (some ⟨w.heap.size, 0, none⟩) h c) (w.alloc (.cells (madeCells #[.int .u8 0] c) 5)) := by
 obtain ⟨i0, hi, hz0, hz1, hz2⟩ := info_parts Tryz.info5
 have q := run_make (P := Tryz.prog) w 42 5 i0 (.int .u8 0) Tryz.underlying42 hi hz0 .i64 .i64 (h : Int) (c : Int) (by omega) (by omega) (by rw [hz2]; omega) (by omega)
 rw [hz1] at q
 simpa [Value.cells] using q
theorem made_zero (c : Nat) : (madeCells #[.int .u8 0] c).toList = List.replicate c (.int .u8 0) := by
 apply List.ext_getElem?
 intro i
 simp only [madeCells, Array.toList_map, List.getElem?_map, Array.getElem?_toList, List.getElem?_replicate]
 by_cases h : i < c
 ·simp [h, Nat.mod_one]
 ·simp [h]
theorem owns_made (w : World) (h c : Nat) (hh : h ≤ c) (hc : c ≤ 1024) : (w.alloc (.cells (madeCells #[.int .u8 0] c) 5)).ownsRow w.heap.size 5 1 (.slice (some ⟨w.heap.size, 0, none⟩) h c) h (List.replicate h (.int .u8 0)) := by
 refine ⟨by simp, Or.inr ⟨w.heap.size, c, _, rfl, Nat.le_refl _, heap_alloc_new w _, hh, by unfold maxLen; omega, by rw [size_madeCells]; omega, ?_⟩⟩
 rw [made_zero, List.take_replicate, Nat.mul_one, Nat.min_eq_left hh]
theorem put_none (a : Option Addr) (cap N : Nat) (w : World) : Calls Tryz.prog 151 #[.slice a 0 cap, .int .u64 N] w fun e w' => (∃ r, e = .returned r) ∧ w' = w := by
 go_enter Tryz.func151, Tryz.ntmps151
 go_wp2
 go_loopw [7] (fun i wr => i = .int .i64 0 ∧ wr = w) (fun _ _ => 0)
 case atStart => exact ⟨rfl, rfl⟩
 case round =>
  obtain ⟨rfl, rfl⟩ := hrel
  go_wp2
  go_end0
  exact ⟨⟨_, rfl⟩, rfl⟩
theorem put_one (g cap N : Nat) (c0 : Value) (w : World) (hN : N ≤ 255) (hc : w.cell? ⟨g, 0, none⟩ = some c0) (hf : w.frozen? ⟨g, 0, none⟩ = false) :
  Calls Tryz.prog 151 #[.slice (some ⟨g, 0, none⟩) 1 cap, .int .u64 N] w fun e w' => (∃ r, e = .returned r) ∧ w' = w.setCell ⟨g, 0, none⟩ (.int .u8 N) := by
 go_enter Tryz.func151, Tryz.ntmps151
 go_wp2
 go_loopw [1, 7] (fun n i wr => (n = .int .u64 N ∧ i = .int .i64 0 ∧ wr = w) ∨ ((∃ n', n = .int .u64 n') ∧ i = .int .i64 1 ∧ wr = w.setCell ⟨g, 0, none⟩ (.int .u8 N))) (fun _ i _ => 1 - (intOf i).toNat)
 case atStart => exact Or.inl ⟨rfl, rfl, rfl⟩
 case round =>
  have hN' : (N : Int) ≤ 255 := by omega
  rcases hrel with ⟨rfl, rfl, rfl⟩ | ⟨⟨n', rfl⟩, rfl, rfl⟩
  ·go_wp2
   go_roundw
   case rel => exact Or.inr ⟨⟨_, rfl⟩, rfl, trivial⟩
   case measure => simp [intOf]
  ·clear hc hf
   go_wp2
   go_end0
   exact ⟨⟨_, rfl⟩, rfl⟩
theorem owns_first {w : World} {B g n cap : Nat} {y x : Value} {xs : List Value} (h : w.ownsRow B 5 1 (.slice (some ⟨g, 0, none⟩) n cap) n (y :: xs)) :
  (w.setCell ⟨g, 0, none⟩ x).ownsRow B 5 1 (.slice (some ⟨g, 0, none⟩) n cap) n (x :: xs) ∧ w.cell? ⟨g, 0, none⟩ = some y ∧ w.frozen? ⟨g, 0, none⟩ = false ∧ B ≤ g := by
 obtain ⟨hl, hh⟩ := h
 rcases hh with ⟨hv, _⟩ | ⟨g', cap', cur, hv, hb, hg, h1, h2, h3, h4⟩
 ·simp at hv
 ·simp at hv
  obtain ⟨rfl, rfl⟩ := hv
  have hn : 0 < n := by simp at hl; omega
  refine ⟨⟨by simpa using hl, Or.inr ⟨g, cap, _, rfl, hb, zH hg x, h1, h2, by simpa using h3, ?_⟩⟩, ?_, zF hg 0, hb⟩
  ·rw [Nat.mul_one] at *
   obtain ⟨cl⟩ := cur
   cases cl with
   | nil => simp at h3; omega
   | cons c r =>
    obtain ⟨m, rfl⟩ : ∃ m, n = m + 1 := ⟨n - 1, by omega⟩
    simp at h4 ⊢
    exact h4.2
  ·rw [zC hg]
   obtain ⟨cl⟩ := cur
   cases cl with
   | nil => simp at h3; omega
   | cons c r =>
    obtain ⟨m, rfl⟩ : ∃ m, n = m + 1 := ⟨n - 1, by omega⟩
    simp at h4 ⊢
    exact h4.1
theorem bitsOf_length : ∀ (l : List Wq) (r : List ValA), r.length = l.length → (bitsOf (l.zip r)).length = opts l
 | [], r, _ => by simp [bitsOf, opts]
 | f :: l, [], h => by simp at h
 | f :: l, x :: r, h => by
  have := bitsOf_length l r (by simpa using h)
  unfold bitsOf opts at *
  simp only [List.zip_cons_cons, List.filter_cons]
  cases hf : f.opt
  ·simpa [hf] using this
  ·simp only [if_true, List.map_cons, List.length_cons]
   simpa using this
theorem headT_cases (l : List Wq) (r : List ValA) (hr : r.length = l.length) (hl : l.length ≤ 8) : (headB l = 0 ∧ headT (l.zip r) = []) ∨ (headB l = 1 ∧ headT (l.zip r) = [UInt8.ofNat (headN (bitsOf (l.zip r)))]) := by
 have h1 := bitsOf_length l r hr
 have h2 := opts_le l
 unfold headB headT
 rw [h1]
 by_cases h : 0 < opts l
 ·right
  exact ⟨by omega, by rw [if_pos h]⟩
 ·left
  exact ⟨by omega, by rw [if_neg h]⟩
theorem or_pow : ∀ J : Fin 8, ∀ N : Fin 256, N.1 < 2 ^ J.1 → bits .or .u64 (N.1 : Int) ((2 ^ J.1 : Nat) : Int) = ((N.1 + 2 ^ J.1 : Nat) : Int) := by decide +kernel
theorem or_marks (N J : Nat) (hJ : J < 8) (hN : N < 2 ^ J) : bits .or .u64 (N : Int) ((2 ^ J : Nat) : Int) = ((N + 2 ^ J : Nat) : Int) := by
 have h256 : N < 256 := Nat.lt_of_lt_of_le hN (by have := pow2_le (k := J) (by omega); omega)
 exact or_pow ⟨J, hJ⟩ ⟨N, h256⟩ hN
theorem or_marks2 (N J : Nat) (hJ : J < 8) (hN : N < 2 ^ J) : bits .or .u64 (N : Int) (IntKind.u64.wrap ((2 : Int) ^ J)) = ((N + 2 ^ J : Nat) : Int) := by
 have e : IntKind.u64.wrap ((2 : Int) ^ J) = ((2 ^ J : Nat) : Int) := by
  have h := pow2_le (k := J) (by omega)
  have h2 : ((2 : Int) ^ J) = ((2 ^ J : Nat) : Int) := by simp
  rw [h2, IntKind.wrap_u64]
  omega
 rw [e]
 exact or_marks N J hJ hN
theorem wideB_pos {l : List Wq} (h : l.all fieldOK = true) : 0 ≤ wides l := by
 unfold wides
 induction l with
 | nil => simp
 | cons f r ih =>
  simp only [List.all_cons, Bool.and_eq_true] at h
  have h1 := h.1
  unfold fieldOK at h1
  simp only [Bool.and_eq_true, decide_eq_true_eq] at h1
  have := ih h.2
  simp only [List.map_cons, List.sum_cons]
  omega
theorem schemaB_width {l : List Wq} (h : schemaB l = true) : ∃ W : Nat, widthB l = W ∧ headB l ≤ W ∧ W ≤ 64 := by
 have h1 := wideB_pos (schemaB_ok h)
 have h2 : widthB l ≤ 64 := by
  unfold schemaB at h
  simp only [Bool.and_eq_true, decide_eq_true_eq] at h
  exact h.2
 unfold widthB at *
 exact ⟨(headB l + wides l).toNat, by omega, by omega, by omega⟩
def bodyTo (r : List ValA) (k : Nat) : Txt := (r.take k).flatMap enc1
theorem bodyTo_snoc {r : List ValA} {k : Nat} {x : ValA} (h : r[k]? = some x) : bodyTo r (k + 1) = bodyTo r k ++ enc1 x := by
 unfold bodyTo
 rw [take_snoc _ _ _ h, List.flatMap_append]
 simp
theorem bodyTo_le {l : List Wq} {r : List ValA} (hl : r.length = l.length) (hf : fitAll l r = true) (hI : InR r) (k : Nat) : (bodyTo r k).length ≤ 21 * r.length := by
 unfold bodyTo
 have h2 := flat_le enc1 21 (r.take k) (fun x hx => by
  obtain ⟨i, hi⟩ := List.mem_iff_getElem?.1 (List.mem_of_mem_take hx)
  have := get_lt hi
  exact enc1_length (fitAll_at hf (List.getElem?_eq_getElem (by omega)) hi) (hI x (List.mem_of_mem_take hx)))
 rw [List.length_take] at h2
 have : 21 * min k r.length ≤ 21 * r.length := Nat.mul_le_mul_left _ (Nat.min_le_right _ _)
 omega
theorem val_encode (l : List Wq) (v : Value) (r : List ValA) (u : Value) (w : World) (hT : Types w) (h : Wt w v l) (hr : Wr w u r) (hI : InR r) :
  Calls Tryz.prog 146 #[.agg #[v], u] w fun e w' => ∃ b', e = .returned (.tuple #[b', .int .i64 (errR l r)]) ∧ w'.ownsRow w.heap.size 5 1 b' (encodeB l r).length (bs (encodeB l r)) ∧ Wp (fun _ => False) w w' := by
 obtain ⟨ao, cap, rfl⟩ := Ws.form h
 obtain ⟨bo, cbp, rfl⟩ := Ws.form hr
 obtain ⟨HB, hb, hbc⟩ := boxed w #[.slice ao l.length cap] 24
 have hp := hbc 0 (.slice ao l.length cap) rfl
 have HF := zB (h.keepF (zA HB))
 have HV := zB (hr.keepF (zA HB))
 have HT := zB (hT.keepF (zA HB))
 have HS := zB (val_check l _ r _ _ (zA HT) (zA HF) (zA HV))
 have HI := zB hI
 clear hbc h hr hI hT
 go_enter Tryz.func146, Tryz.ntmps146
 go_wp2_with fail
 refine (zA HS).mono ?_
 rintro e w2 ⟨rfl, hk2⟩
 have hp2 := (hk2.cell (o := 0) hb id).trans hp
 have hb2 := Nat.lt_of_lt_of_le hb hk2.size
 have HF2 := zB ((zA HF).keepF hk2)
 have HV2 := zB ((zA HV).keepF hk2)
 have HT2 := zB ((zA HT).keepF hk2)
 have HB2 := zB ((zA HB).trans hk2)
 have hw2 : w.heap.size ≤ w2.heap.size := (zA HB2).size
 clear HS HF HV HB HT hk2 hp hb
 generalize w.alloc (.cells #[.slice ao l.length cap] 24) = w1 at *
 by_cases he : errR l r = 0
 ·obtain ⟨hs, hlen, hfit⟩ := errR_zero he
  have hl8 := (schemaB_len hs).2
  have hl1 := (schemaB_len hs).1
  have HE : Hid (encodeB l r = headT (l.zip r) ++ r.flatMap enc1) := by show _ = _; unfold encodeB; rw [if_pos he]; rfl
  rw [he]
  obtain ⟨W, hW, hHW, hW64⟩ := schemaB_width hs
  have hHB : headB l ≤ 1 := by have := opts_le l; unfold headB; omega
  have HL := zB hlen
  have HT0 := zB hfit
  have HQ1 := zB (head_v l _ _ (zA HF2) hl8)
  have HHC := zB (headT_cases l r hlen hl8)
  have hr8 : r.length ≤ 8 := by omega
  have HSO := zB (schemaB_ok hs)
  have HWW := zB hW
  have HE0 := zB he
  clear hs hlen hfit he hW
  generalize headB l = H at *
  go_wp2_with fail
  refine (zA HQ1).mono ?_
  rintro e w3 ⟨rfl, hk3⟩
  have hp3 := (hk3.cell (o := 0) hb2 id).trans hp2
  have HF3 := zB ((zA HF2).keepF hk3)
  have HT3 := zB ((zA HT2).keepF hk3)
  have HK3 := zB hk3
  have HQ2 := zB (width_v l _ _ (zA HT3) (zA HF3) hl8 (zA HSO))
  rw [zA HWW] at HQ2
  clear hk3 HQ1
  go_wp2_with fail
  refine (zA HQ2).mono ?_
  rintro e w4 ⟨rfl, hk4⟩
  have K24 := (zA HK3).trans hk4
  have hp4 := (K24.cell (o := 0) hb2 id).trans hp2
  have hb4 := Nat.lt_of_lt_of_le hb2 K24.size
  have hmk := run_mkb H W hHW (by omega) w4
  have HOM := zB (owns_made w4 H W hHW (by omega))
  have HB4 := zB ((zA HB2).trans K24)
  have HF4 := zB ((zA HF2).keepF K24)
  have HV4 := zB ((zA HV2).keepF K24)
  have hw4 : w.heap.size ≤ w4.heap.size := (zA HB4).size
  have HA : Hid (Wp (fun q => w4.heap.size ≤ q) w4 (w4.alloc (.cells (madeCells #[.int .u8 0] W) 5))) := (Wp.refl _ _).alloc _
  have hp5 := ((zA HA).cell (o := 0) hb4 (by omega)).trans hp4
  clear hk4 HQ2 K24 hp3 hp2 HF3 HT3 HK3 HT2 HB2 HF2 HV2
  go_wp2_with fail
  generalize w4.alloc (.cells (madeCells #[.int .u8 0] W) 5) = w5 at *
  clear hmk
  go_loopw [8, 9, 10, 28] (fun bb mm oo i wr => ∃ k N J : Nat, k ≤ l.length ∧ i = .int .i64 k ∧ mm = .int .u64 N ∧ oo = .int .i64 J ∧ N ≤ 255 ∧ J ≤ 8 ∧ Hid (N = headN (bitsOf ((l.zip r).take k)) ∧ J = (bitsOf ((l.zip r).take k)).length) ∧ wr.ownsRow w4.heap.size 5 1 bb (H + (bodyTo r k).length) (List.replicate H (.int .u8 0) ++ bs (bodyTo r k)) ∧ Wp (fun q => w4.heap.size ≤ q) w5 wr) (fun _ _ _ i _ => l.length - (intOf i).toNat)
  case atStart => exact ⟨0, 0, 0, Nat.zero_le _, rfl, rfl, rfl, by omega, by omega, ⟨rfl, rfl⟩, by simpa [bodyTo, bs] using zA HOM, Wp.refl _ _⟩
  case round =>
   obtain ⟨k, N, J, hk, rfl, rfl, rfl, hN, hJ, HQ, hown, hkp⟩ := hrel
   have HO := zB hown
   have HK := zB ((zA HA).trans hkp)
   have HBL := zB (bodyTo_le (zA HL) (zA HT0) (zA HI) k)
   have hp6 := (hkp.cell (o := 0) (Nat.lt_of_lt_of_le hb4 (zA HA).size) (by omega)).trans hp5
   have HKP := zB hkp
   clear hown hkp
   by_cases hlt : k < l.length
   ·obtain ⟨x, hx⟩ : ∃ x, r[k]? = some x := ⟨_, List.getElem?_eq_getElem (by have := zA HL; omega)⟩
    obtain ⟨f, hf⟩ : ∃ f, l[k]? = some f := ⟨_, List.getElem?_eq_getElem hlt⟩
    obtain ⟨b, off, c, e, hbl, hc⟩ := (zA HF4).cells (by omega)
    simp at e
    obtain ⟨rfl, rfl⟩ := e
    obtain ⟨b', off', c', e', hbl', hc'⟩ := (zA HV4).cells (by have := zA HL; omega)
    simp at e'
    obtain ⟨rfl, rfl⟩ := e'
    have c0 := ((zA HK).cell hbl (by omega)).trans (hc k f hf).1
    have c1 := ((zA HK).cell hbl (by omega)).trans (hc k f hf).2.1
    have c2 := ((zA HK).cell hbl (by omega)).trans (hc k f hf).2.2
    obtain ⟨HX, hxb, hxc⟩ := boxed wr #[str f.name, .int .i64 f.type, .bool f.opt] 58
    have K1 := (zA HK).then (zA HX) (fun _ _ hF => hF.elim)
    have d0 := (K1.cell hbl' (by omega)).trans (hc' k x hx).1
    have d1 := (K1.cell hbl' (by omega)).trans (hc' k x hx).2.1
    have d2 := (K1.cell hbl' (by omega)).trans (hc' k x hx).2.2
    have i1 : (k : Int) < (r.length : Int) := by have := zA HL; omega
    have i2 : (k : Int) < (l.length : Int) := by omega
    have HZ : Hid (bitsOf ((l.zip r).take (k + 1)) = bitsOf ((l.zip r).take k) ++ (if f.opt then [decide (x.kind ≠ 0)] else [])) := by
     show _ = _
     rw [take_snoc _ _ _ (zip_get hf hx), bitsOf_snoc]
    have HZL : Hid ((bitsOf ((l.zip r).take (k + 1))).length ≤ 8) := by
     have h1 := bitsOf_le ((l.zip r).take (k + 1))
     rw [List.length_take] at h1
     show _ ≤ _
     omega
    have HCQ := zB (appendValue_v (wr.alloc (.cells #[str f.name, .int .i64 f.type, .bool f.opt] 58)) w4.heap.size u8 _ _ f x (fitAll_at (zA HT0) hf hx) ((zA HI) x (List.mem_of_getElem? hx)) ((zA HO).alloc _) (by have := zA HBL; omega) (by have := (zA HK).size; simp; omega))
    have HBT := zB (bodyTo_snoc hx)
    have HKN := zB (((zA HKP).alloc (.cells #[str f.name, .int .i64 f.type, .bool f.opt] 58)))
    generalize bitsOf ((l.zip r).take k) = Z at *
    obtain ⟨Z', HZE⟩ : ∃ Z', Hid (bitsOf ((l.zip r).take (k + 1)) = Z') := ⟨_, rfl⟩
    rw [zA HZE] at HZ HZL
    unfold ValA.v at HCQ
    clear hc hc' hf hx K1 hxc HX HKP
    have HN2 := zB (headN_lt Z)
    cases hfo : f.opt with
    | true =>
     rw [hfo] at c2 HCQ HKN d0 d1 d2
     have hJ7 : J ≤ 7 := by
      have h1 := zA HZL
      rw [zA HZ, hfo] at h1
      simp at h1
      have := (zA HQ).2
      omega
     by_cases hki : x.kind = 0
     ·have HKI := zB hki
      rw [hki] at d0 HCQ
      clear hki
      go_wp2_with fail
      refine (zA HCQ).mono ?_
      rintro e w7 ⟨v7, rfl, ho7, hk7⟩
      have HO7 := zB ho7
      have HK7 := zB ((zA HKN).trans hk7)
      clear ho7 hk7 HCQ
      go_wp2_with fail
      go_roundw
      case rel =>
       refine ⟨k + 1, N, J + 1, by omega, by go_num, by go_num, by go_num, hN, (by omega), ?_, ?_, zA HK7⟩
       ·have hq := zA HQ
        have hz := zA HZ
        show _ ∧ _
        rw [zA HZE]
        rw [hz, hfo, if_pos rfl, headN_snoc, decide_eq_false (by simp [zA HKI]), List.length_append, ← hq.1, ← hq.2]; exact ⟨rfl, rfl⟩
       ·rw [zA HBT, bs_append, List.length_append, ← List.append_assoc, ← Nat.add_assoc]
        exact zA HO7
      case measure => simp [intOf]; omega
     ·have HKI := zB hki
      have hki' : (x.kind != 0) = true := by rw [bne_iff_ne]; exact hki
      have hNJ : N < 2 ^ J := by have := zA HN2; rw [← (zA HQ).1, ← (zA HQ).2] at this; exact this
      have HOR := zB (or_marks2 N J (by omega) hNJ)
      have HB8 : Hid (N + 2 ^ J ≤ 255) := by
       have : 2 ^ (J + 1) ≤ 256 := pow2_le (by omega)
       rw [Nat.pow_succ] at this
       show _ ≤ _
       omega
      clear hki
      go_wp2_with fail
      refine (zA HCQ).mono ?_
      rintro e w7 ⟨v7, rfl, ho7, hk7⟩
      have HO7 := zB ho7
      have HK7 := zB ((zA HKN).trans hk7)
      clear ho7 hk7 HCQ
      go_wp2_with fail
      go_roundw
      case rel =>
       refine ⟨k + 1, N + 2 ^ J, J + 1, by omega, by go_num, congrArg (Value.int .u64) (zA HOR), by go_num, (zA HB8), (by omega), ?_, ?_, zA HK7⟩
       ·have hq := zA HQ
        have hz := zA HZ
        show _ ∧ _
        rw [zA HZE]
        rw [hz, hfo, if_pos rfl, headN_snoc, decide_eq_true (zA HKI), if_pos rfl, List.length_append, ← hq.1, ← hq.2]; exact ⟨rfl, rfl⟩
       ·rw [zA HBT, bs_append, List.length_append, ← List.append_assoc, ← Nat.add_assoc]
        exact zA HO7
      case measure => simp [intOf]; omega
    | false =>
     rw [hfo] at c2 HCQ HKN d0 d1 d2
     go_wp2_with fail
     refine (zA HCQ).mono ?_
     rintro e w7 ⟨v7, rfl, ho7, hk7⟩
     have HO7 := zB ho7
     have HK7 := zB ((zA HKN).trans hk7)
     clear ho7 hk7 HCQ
     go_wp2_with fail
     go_roundw
     case rel =>
      refine ⟨k + 1, N, J, by omega, by go_num, by go_num, by go_num, hN, hJ, ?_, ?_, zA HK7⟩
      ·have hq := zA HQ
       have hz := zA HZ
       show _ ∧ _
       rw [zA HZE]
       rw [hz, hfo]; simpa using hq
      ·rw [zA HBT, bs_append, List.length_append, ← List.append_assoc, ← Nat.add_assoc]
       exact zA HO7
     case measure => simp [intOf]; omega
   ·obtain rfl : k = l.length := by omega
    obtain ⟨oo, oc, rfl⟩ := (zG (zA HO)).form
    have hroom := (zG (zA HO)).room _ _ _ rfl
    have HBF : Hid (bodyTo r l.length = r.flatMap enc1) := by show _ = _; unfold bodyTo; rw [List.take_of_length_le (by have := zA HL; omega)]
    have HZF : Hid (N = headN (bitsOf (l.zip r))) := by
     have := (zA HQ).1
     rw [List.take_of_length_le (by have := zA HL; simp; omega)] at this
     exact this
    rcases zA HHC with ⟨hH, hT⟩ | ⟨hH, hT⟩
    ·subst hH
     have HTT := zB hT
     have i5 : (0 : Int) ≤ (oc : Int) := by omega
     have HP := zB (put_none oo oc N wr)
     clear hT hlt
     go_wp2_with fail
     refine (zA HP).mono ?_
     rintro e w7 ⟨⟨rr, rfl⟩, rfl⟩
     go_wp2_with fail
     go_ret2
     refine ⟨_, ret_vi rfl (zA HE0).symm, ?_, (zA HB4).narrowS ((zA HK)) (fun i hi => by omega)⟩
     rw [zA HE, zA HTT, List.nil_append, ← zA HBF]
     have := ownsRow_lower (zA HO) hw4
     simpa using this
    ·subst hH
     have HTT := zB hT
     obtain ⟨g, cap2, e3, hg1, hg2⟩ := (zA HO).form (by omega)
     simp at e3
     obtain ⟨rfl, rfl⟩ := e3
     have i5 : (1 : Int) ≤ (oc : Int) := by omega
     have HOF := zB (owns_first (x := .int .u8 N) (y := .int .u8 0) (xs := bs (bodyTo r l.length)) (by simpa using zA HO))
     have HP := zB (put_one g oc N _ wr hN (zA HOF).2.1 (zA HOF).2.2.1)
     clear hT hlt
     go_wp2_with fail
     refine (zA HP).mono ?_
     rintro e w7 ⟨⟨rr, rfl⟩, rfl⟩
     have HKS := zB ((zA HK).setCell (p := ⟨g, 0, none⟩) (u := .int .u8 N) (fun _ => (zA HOF).2.2.2))
     have HO7 := zB (ownsRow_lower (zA HOF).1 hw4)
     generalize wr.setCell ⟨g, 0, none⟩ (.int .u8 N) = w8 at *
     go_wp2_with fail
     go_ret2
     refine ⟨_, ret_vi rfl (zA HE0).symm, ?_, (zA HB4).narrowS (zA HKS) (fun i hi => by omega)⟩
     have hnum : num (UInt8.ofNat N) = (N : Int) := num_of N (by omega)
     rw [zA HE, zA HTT, ← zA HZF, ← zA HBF, bs_append]
     have h7 := zA HO7
     simpa [bs, hnum, Nat.add_comm] using h7
 ·have HE : Hid (encodeB l r = []) := by show _ = _; unfold encodeB; rw [if_neg he]
  have he' : (errR l r != 0) = true := by rw [bne_iff_ne]; exact he
  clear he
  obtain ⟨E, HEE⟩ : ∃ E, Hid (errR l r = E) := ⟨_, rfl⟩
  rw [zA HEE] at he' ⊢
  go_wp2_with fail
  go_ret2
  refine ⟨_, ret_vi rfl (zA HEE).symm, ?_, zA HB2⟩
  rw [zA HE]
  exact World.ownsRow_nil _ w.heap.size 5 1
set_option maxHeartbeats 1000000
def intS : List Wq := [⟨[110], 1, false⟩]
theorem row_new (w1 : World) (cs : Array Value) (t n b : Nat) (hb : b = w1.heap.size) : Ws (w1.alloc (.cells cs t)) (.slice (some ⟨b, 0, none⟩) n n) n cs.toList := by
 subst hb
 refine ⟨⟨_, _, rfl⟩, fun _ => ⟨_, 0, _, rfl, by simp, fun j x hx => ?_⟩, fun ao m cap e => by simp at e; omega⟩
 rw [zC (heap_alloc_new w1 _), Nat.zero_add]
 simpa using hx
theorem intSchema_v (w : World) : Calls Tryz.prog 132 #[] w fun e w' => ∃ v, e = .returned (.agg #[v]) ∧ Wt w' v intS ∧ Wp (fun _ => False) w w' := by
 go_enter Tryz.func132, Tryz.ntmps132
 go_wp2_with fail
 refine bodyPost_ret (v := .agg #[.slice (some ⟨w.heap.size + 1, 0, none⟩) 1 1]) (by simp [results, go_sem]) rfl ?_
 refine ⟨_, rfl, ?_, ((Wp.refl _ w).alloc _).alloc _⟩
 exact row_new _ #[.string ⟨#[110]⟩, .int .i64 1, .bool false] 58 1 _ (by simp)
theorem intS_ok : schemaB intS = true := by decide
theorem errR_int (n : Int) : errR intS [⟨1, n, []⟩] = 0 := by
 unfold errR
 rw [intS_ok]
 simp [recB, fitAll, intS, fitsB]
theorem encodeB_int (n : Int) : encodeB intS [⟨1, n, []⟩] = groups (tn n) := by
 unfold encodeB
 rw [if_pos (errR_int n)]
 have : enc1 ⟨1, n, []⟩ = groups (tn n) := enc1_int rfl
 simp [encB, headT, bitsOf, intS, this]
theorem intBytes_v (n : Int) (w : World) (hT : Types w) (h0 : -9223372036854775808 ≤ n) (h1 : n ≤ 9223372036854775807) :
  Calls Tryz.prog 134 #[.int .i64 n] w fun e w' => ∃ v, e = .returned v ∧ w'.ownsRow w.heap.size 5 1 v (groups (tn n)).length (bs (groups (tn n))) ∧ Wp (fun _ => False) w w' := by
 have HQ := zB (intSchema_v w)
 have HT := zB hT
 clear hT
 go_enter Tryz.func134, Tryz.ntmps134
 go_wp2_with fail
 refine (zA HQ).mono ?_
 rintro e w2 ⟨v, rfl, hf, hk⟩
 have HB : Hid (Wp (fun _ => False) w2 (w2.alloc (.cells #[.int .i64 1, .int .i64 n, .string ⟨#[]⟩] 51))) := (Wp.refl _ _).alloc _
 have HC := zB (val_encode intS v [⟨1, n, []⟩] (.slice (some ⟨w2.heap.size, 0, none⟩) 1 1) _ (((zA HT).keepF hk).keepF (zA HB)) (hf.keepF (zA HB)) (row_new w2 #[.int .i64 1, .int .i64 n, .string ⟨#[]⟩] 51 1 _ rfl) (by intro x hx; simp at hx; subst hx; exact ⟨h0, h1⟩))
 rw [encodeB_int, errR_int] at HC
 have HK := zB (hk.trans (zA HB))
 have hs : w.heap.size ≤ (w2.alloc (.cells #[.int .i64 1, .int .i64 n, .string ⟨#[]⟩] 51)).heap.size := (zA HK).size
 clear HQ hf hk HB
 go_wp2_with fail
 refine (zA HC).mono ?_
 rintro e w3 ⟨b', rfl, ho, hk3⟩
 have HO := zB (ownsRow_lower ho hs)
 have HK3 := zB ((zA HK).trans hk3)
 clear ho hk3 HC
 go_wp2_with fail
 go_ret
 exact ⟨_, rfl, zA HO, zA HK3⟩
end Go.Proofs.YtbdlcaamanhapaaGreatDoor
