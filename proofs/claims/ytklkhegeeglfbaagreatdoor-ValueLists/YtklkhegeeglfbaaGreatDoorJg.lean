import Derived.Test.YtklkhegeeglfbaaGreatDoorJe
import Derived.Test.YtklkhegeeglfbaaGreatDoorT
import Derived.Lib.AppendStr
import Derived.Laws.MakeOwn
import Derived.Test.YtklkhegeeglfbaaGreatDoorJd
namespace Go.Proofs.YtklkhegeeglfbaaGreatDoor
open Go.RowKit Go.Maps

/-- 'append(b, s...)' at a step of a region that draws its order. -/
theorem step_append_str {P : Program} {w : World} {ops : Array Oper} {o : Oper} {a : Act} {K : Act → World → Prop} {Q : Exit → Act → World → Prop} {E : Prop} (hgd : o.guard = none) (s x : Operand) (t u : TypeId)
    (ho : o.op = .call { callee := .builtin .append, args := #[s, x], argTypes := #[t, u] })
    (base : Nat) (e : TypeId) (i : TypeInfo) (ht : P.underlying t = some (.slice e)) (hu : P.underlying u = some .string) (hi : P.info? e = some i) (hz : i.zero = some (.int .u8 0))
    (hsize : i.size = 1) (hby : i.bytes = 1)
    (v : Value) (n : Nat) (xs : List Value) (hs : a.eval s = v) (hown : w.ownsRow base e 1 v n xs) (sb : ByteArray) (hx : a.eval x = .string sb)
    (h63 : n + sb.size ≤ maxLen) (hbytes : n + sb.size ≤ 140737488355328) (hbase : base ≤ w.heap.size)
    (h : ∀ v' w', w'.ownsRow base e 1 v' (n + sb.size) (xs ++ Lib.strCells sb) → w.grownBy w' v.ownBlock → K (a.put o.dst v') w') :
    if Region.wanted o (yielded ops a.tmps) = true then Oper.wp P o a w K Q else E := by
  have hw : Region.wanted o (yielded ops a.tmps) = true := by simp [Region.wanted, hgd]
  rw [if_pos hw]
  obtain ⟨v', w', hr, h2, h3, _⟩ := Lib.run_append_own_string (P := P) w base t u o.type e i ht hu hi hz hsize hby v n xs hown sb h63 hbytes hbase
  unfold Oper.wp execOp
  simp only [ho, resolve, invoke, builtin, Sem.run_bind, Sem.run_pure, Result.andThen_ok, List.map_toArray, List.map_cons, List.map_nil, hs, hx, hr]
  exact h v' w' h2 h3
theorem strCells_bs (s : Txt) : Lib.strCells ⟨s.toArray⟩ = bs s := by simp [Lib.strCells, bs, num]

set_option maxRecDepth 100000 in
set_option maxHeartbeats 4000000 in
theorem appendStr_v (base : Nat) (v : Value) (xs : List Value) (n : Nat) (s : Txt) (w : World) (hown : w.ownsRow base 5 1 v n xs) (hn : n ≤ 4096) (ht : s.length ≤ 255) (hbase : base ≤ w.heap.size) :
    Calls Tryz.prog 67 #[v, str s] w fun e w' => ∃ v', e = .returned v' ∧ w'.ownsRow base 5 1 v' (n + 1 + s.length) (xs ++ [.int .u8 (s.length : Int)] ++ bs s) ∧ Keeps (fun q => v.ownBlock = some q) w w' := by
  obtain ⟨i0, hi, hz0, hz1, hz2⟩ := info_parts Tryz.info5
  obtain ⟨vo, vc, rfl⟩ := RowAt.form (rowAt_own hown)
  have HO := hide hown
  have HT := hide ht
  have i1 : (0 : Int) ≤ (s.length : Int) := by omega
  have i2 : (s.length : Int) ≤ 255 := by omega
  have hw8 : IntKind.u8.wrap (s.length : Int) = (s.length : Int) := by rw [IntKind.wrap_u8]; omega
  have mark0 : True := trivial
  clear hown ht
  go_enter Tryz.func67, Tryz.ntmps67
  go_wp2_with (first
    | (clear mark0
       at_builtin
       refine wpList_append_lies _ rfl _ _ _ rfl base 5 i0 _ 1 1 Tryz.underlying30 hi hz0 hz1 hz2 rfl (by omega) (.slice vo n vc) n xs rfl ((unhide HO).alloc _) ⟨w.heap.size, 0, none⟩ 1 1 [.int .u8 (s.length : Int)] rfl rfl (World.news_of_block (cs := #[.int .u8 (s.length : Int)]) (t := 5) (fr := (0, 0)) (heap_alloc_new w _)) (by simp [Value.oneCell']) (by omega) (by unfold maxLen; omega) (by omega) (by simp; omega) (w.heap.size + 1) (by simp) ?_
       intro g cap w1 hown1 hgrow hat hlt1
       have hk1 : Keeps (fun q => (Value.slice vo n vc).ownBlock = some q) w w1 := ((Keeps.refl _ w).alloc _).grown hgrow (fun q e _ => e)
       have HK1 := hide hk1
       have HO1 := hide hown1
       have HB1 : Hid (base ≤ w1.heap.size) := Nat.le_trans hbase hk1.size
       have HAT := hide hat
       have mark1 : True := trivial
       clear hk1 hown1 hgrow hat)
    | (clear mark1
       at_builtin
       refine Lib.wpList_append_own_string _ rfl _ _ _ _ rfl base 5 i0 Tryz.underlying30 Tryz.underlying9 hi hz0 hz1 hz2 (.slice (some ⟨g, 0, none⟩) (n + 1) cap) (n + 1) (xs ++ [.int .u8 (s.length : Int)]) rfl (unhide HO1) ⟨s.toArray⟩ rfl (by have := unhide HT; show n + 1 + s.length ≤ maxLen; unfold maxLen; omega) (by have := unhide HT; show n + 1 + s.length ≤ _; omega) (unhide HB1) ?_
       intro v2 w2 how2 hg2 _
       have HO2 := hide how2
       have HG2 := hide hg2
       clear how2 hg2))
  go_ret
  refine ⟨_, rfl, ?_, (unhide HK1).grown (unhide HG2) (fun k e hlt => ?_)⟩
  · have h := unhide HO2
    rw [strCells_bs] at h
    exact h
  · simp only [Value.ownBlock, Option.some.injEq] at e
    subst e
    rcases unhide HAT with q | q
    · exact q
    · omega

set_option maxRecDepth 100000 in
set_option maxHeartbeats 2000000 in
theorem appendValue_v (w : World) (B : Nat) (v : Value) (m : Nat) (xs : List Value) (f : FieldA) (x : ValA) (hx : fitsB f x = true) (hI : -9223372036854775808 ≤ x.n ∧ x.n ≤ 9223372036854775807) (hv : w.ownsRow B 5 1 v m xs) (hm : m ≤ 1024) (hB : B ≤ w.heap.size) :
    Calls Tryz.prog 42 #[v, x.v] w fun e w' => ∃ v', e = .returned v' ∧ w'.ownsRow B 5 1 v' (m + (enc1 x).length) (xs ++ bs (enc1 x)) ∧ Keeps (fun q => B ≤ q) w w' := by
  obtain ⟨i0, hi, hz0, hz1, hz2⟩ := info_parts Tryz.info5
  obtain ⟨k, n, s⟩ := x
  simp only at hI
  obtain ⟨hn0, hn1⟩ := hI
  have HI0 := hide hn0
  have HI1 := hide hn1
  unfold ValA.v
  simp only
  have HV := hide (hv.alloc (.cells #[.int .i64 k, .int .i64 n, str s] 40))
  have HKB : Hid (Keeps (fun q => B ≤ q) w (w.alloc (.cells #[.int .i64 k, .int .i64 n, str s] 40))) := (Keeps.refl _ _).alloc _
  have hB1 : B ≤ (w.alloc (.cells #[.int .i64 k, .int .i64 n, str s] 40)).heap.size := by simp; omega
  have HLT := hide hv
  clear hv
  rcases fitsB_kind hx with h | h | ⟨h, hb0, hb1⟩ | ⟨h, hs20⟩
  · simp only at h
    subst h
    have HE : Hid (enc1 ⟨0, n, s⟩ = []) := enc1_none rfl
    clear hx
    go_enter Tryz.func42, Tryz.ntmps42
    go_wp2_with fail
    go_ret
    refine ⟨_, rfl, ?_, unhide HKB⟩
    rw [unhide HE]
    simpa [bs] using unhide HV
  · simp only at h
    subst h
    have HE : Hid (enc1 ⟨1, n, s⟩ = groups (tn n)) := enc1_int rfl
    have HQ := hide (appendInt_v _ B v m xs n hn0 hn1 (unhide HV) (by omega) hB1)
    clear hx hn0 hn1
    rw [unhide HE]
    go_enter Tryz.func42, Tryz.ntmps42
    go_wp2_with fail
    refine (unhide HQ).mono ?_
    rintro e w2 ⟨v', rfl, ho, hk, _⟩
    have HO := hide ho
    have HK := hide hk
    clear ho hk
    go_wp2_with fail
    go_ret
    exact ⟨_, rfl, unhide HO, (unhide HKB).trans ((unhide HK).mono (fun q _ e => ((unhide HV).lt q e).1))⟩
  · simp only at h hb0 hb1
    subst h
    have HE : Hid (enc1 ⟨2, n, s⟩ = [UInt8.ofNat n.toNat]) := enc1_bool rfl
    have HC : Hid (num (UInt8.ofNat n.toNat) = n) := by show _ = _; rw [num_of _ (by omega)]; omega
    clear hx hn0 hn1
    rw [unhide HE]
    generalize UInt8.ofNat n.toNat = c at *
    go_enter Tryz.func42, Tryz.ntmps42
    go_wp2_with (at_builtin; refine wpList_append_lies _ rfl _ _ _ rfl B 5 i0 _ 1 1 Tryz.underlying30 hi hz0 hz1 hz2 rfl (by omega) v m xs rfl ((unhide HV).alloc _) ⟨w.heap.size + 1, 0, none⟩ 1 1 [.int .u8 n] rfl rfl (World.news_of_block (cs := #[.int .u8 n]) (t := 5) (fr := (0, 0)) (by have q := heap_alloc_new (w.alloc (.cells #[.int .i64 2, .int .i64 n, str s] 40)) (.cells #[.int .u8 n] 5); rw [World.size_alloc] at q; exact q)) (by simp [Value.oneCell']) (by omega) (by unfold maxLen; omega) (by omega) (by simp; omega) (w.heap.size + 2) (by simp) ?_; intro g cap w2 hown1 hgrow hat hlt1)
    go_ret
    refine ⟨_, rfl, ?_, ((unhide HKB).alloc _).grown hgrow (fun q e _ => ((unhide HV).lt q e).1)⟩
    simpa [bs, unhide HC] using hown1
  · simp only at h hs20
    subst h
    have HE : Hid (enc1 ⟨3, n, s⟩ = UInt8.ofNat s.length :: s) := enc1_bytes rfl
    have HC : Hid (num (UInt8.ofNat s.length) = (s.length : Int)) := num_of _ (by omega)
    clear hx hn0 hn1
    rw [unhide HE]
    generalize UInt8.ofNat s.length = c at *
    have HQ := hide (appendStr_v B v xs m s _ (unhide HV) (by omega) (by omega) hB1)
    go_enter Tryz.func42, Tryz.ntmps42
    go_wp2_with fail
    refine (unhide HQ).mono ?_
    rintro e w2 ⟨v', rfl, ho, hk⟩
    have HO := hide ho
    have HK := hide hk
    clear ho hk HQ
    go_wp2_with fail
    go_ret
    refine ⟨_, rfl, ?_, (unhide HKB).trans ((unhide HK).mono (fun q _ e => ((unhide HV).lt q e).1))⟩
    have h := unhide HO
    rw [List.append_assoc] at h
    have e1 : bs (c :: s) = [.int .u8 (s.length : Int)] ++ bs s := by simp [bs, unhide HC]
    rw [e1]
    rw [show m + (s.length + 1) = m + 1 + s.length by omega]
    exact h
end Go.Proofs.YtklkhegeeglfbaaGreatDoor
namespace Go.Proofs.YtklkhegeeglfbaaGreatDoor
open Go.RowKit Go.Maps

theorem run_mkb (h c : Nat) (hh : h ≤ c) (hc : c ≤ 1024) (w : World) : (Instr.makeSlice 30 (.int .i64 (h : Int)) (.int .i64 (c : Int))).run Tryz.prog w = .ok (.slice (some ⟨w.heap.size, 0, none⟩) h c) (w.alloc (.cells (madeCells #[.int .u8 0] c) 5)) := by
  obtain ⟨i0, hi, hz0, hz1, hz2⟩ := info_parts Tryz.info5
  have q := run_make (P := Tryz.prog) w 30 5 i0 (.int .u8 0) Tryz.underlying30 hi hz0 .i64 .i64 (h : Int) (c : Int) (by omega) (by omega) (by rw [hz2]; omega) (by omega)
  rw [hz1] at q
  simpa [Value.cells] using q
theorem made_zero (c : Nat) : (madeCells #[.int .u8 0] c).toList = List.replicate c (.int .u8 0) := by
  apply List.ext_getElem?
  intro i
  simp only [madeCells, Array.toList_map, List.getElem?_map, Array.getElem?_toList, List.getElem?_replicate]
  by_cases h : i < c
  · simp [h, Nat.mod_one]
  · simp [h]
theorem owns_made (w : World) (h c : Nat) (hh : h ≤ c) (hc : c ≤ 1024) : (w.alloc (.cells (madeCells #[.int .u8 0] c) 5)).ownsRow w.heap.size 5 1 (.slice (some ⟨w.heap.size, 0, none⟩) h c) h (List.replicate h (.int .u8 0)) := by
  refine ⟨by simp, Or.inr ⟨w.heap.size, c, _, rfl, Nat.le_refl _, heap_alloc_new w _, hh, by unfold maxLen; omega, by rw [size_madeCells]; omega, ?_⟩⟩
  rw [made_zero, List.take_replicate, Nat.mul_one, Nat.min_eq_left hh]

set_option maxRecDepth 100000 in
theorem put_none (a : Option Addr) (cap N : Nat) (w : World) : Calls Tryz.prog 43 #[.slice a 0 cap, .int .u64 N] w fun e w' => (∃ r, e = .returned r) ∧ w' = w := by
  go_enter Tryz.func43, Tryz.ntmps43
  go_wp2
  go_loopw [7] (fun i wr => i = .int .i64 0 ∧ wr = w) (fun _ _ => 0)
  case atStart => exact ⟨rfl, rfl⟩
  case round =>
    obtain ⟨rfl, rfl⟩ := hrel
    go_wp2

    go_end0
    exact ⟨⟨_, rfl⟩, rfl⟩

set_option maxRecDepth 100000 in
theorem put_one (g cap N : Nat) (c0 : Value) (w : World) (hN : N ≤ 255) (hc : w.cell? ⟨g, 0, none⟩ = some c0) (hf : w.frozen? ⟨g, 0, none⟩ = false) :
    Calls Tryz.prog 43 #[.slice (some ⟨g, 0, none⟩) 1 cap, .int .u64 N] w fun e w' => (∃ r, e = .returned r) ∧ w' = w.setCell ⟨g, 0, none⟩ (.int .u8 N) := by
  go_enter Tryz.func43, Tryz.ntmps43
  go_wp2
  go_loopw [1, 7] (fun n i wr => (n = .int .u64 N ∧ i = .int .i64 0 ∧ wr = w) ∨ ((∃ n', n = .int .u64 n') ∧ i = .int .i64 1 ∧ wr = w.setCell ⟨g, 0, none⟩ (.int .u8 N))) (fun _ i _ => 1 - (intOf i).toNat)
  case atStart => exact Or.inl ⟨rfl, rfl, rfl⟩
  case round =>
    have hN' : (N : Int) ≤ 255 := by omega
    rcases hrel with ⟨rfl, rfl, rfl⟩ | ⟨⟨n', rfl⟩, rfl, rfl⟩
    · go_wp2
      go_roundw
      case rel => exact Or.inr ⟨⟨_, rfl⟩, rfl, trivial⟩
      case measure => simp [intOf]
    · clear hc hf
      go_wp2
      go_end0
      exact ⟨⟨_, rfl⟩, rfl⟩

/-- The first cell of an owned row, written. -/
theorem owns_first {w : World} {B g n cap : Nat} {y x : Value} {xs : List Value} (h : w.ownsRow B 5 1 (.slice (some ⟨g, 0, none⟩) n cap) n (y :: xs)) :
    (w.setCell ⟨g, 0, none⟩ x).ownsRow B 5 1 (.slice (some ⟨g, 0, none⟩) n cap) n (x :: xs) ∧ w.cell? ⟨g, 0, none⟩ = some y ∧ w.frozen? ⟨g, 0, none⟩ = false ∧ B ≤ g := by
  obtain ⟨hl, hh⟩ := h
  rcases hh with ⟨hv, _⟩ | ⟨g', cap', cur, hv, hb, hg, h1, h2, h3, h4⟩
  · simp at hv
  · simp at hv
    obtain ⟨rfl, rfl⟩ := hv
    have hn : 0 < n := by simp at hl; omega
    refine ⟨⟨by simpa using hl, Or.inr ⟨g, cap, _, rfl, hb, heap_setCell_at hg x, h1, h2, by simpa using h3, ?_⟩⟩, ?_, frozen_of_blk hg 0, hb⟩
    · rw [Nat.mul_one] at *
      obtain ⟨cl⟩ := cur
      cases cl with
      | nil => simp at h3; omega
      | cons c r =>
        obtain ⟨m, rfl⟩ : ∃ m, n = m + 1 := ⟨n - 1, by omega⟩
        simp at h4 ⊢
        exact h4.2
    · rw [cell_of_blk hg]
      obtain ⟨cl⟩ := cur
      cases cl with
      | nil => simp at h3; omega
      | cons c r =>
        obtain ⟨m, rfl⟩ : ∃ m, n = m + 1 := ⟨n - 1, by omega⟩
        simp at h4 ⊢
        exact h4.1

theorem bitsOf_length : ∀ (l : List FieldA) (r : List ValA), r.length = l.length → (bitsOf (l.zip r)).length = opts l
  | [], r, _ => by simp [bitsOf, opts]
  | f :: l, [], h => by simp at h
  | f :: l, x :: r, h => by
    have := bitsOf_length l r (by simpa using h)
    unfold bitsOf opts at *
    simp only [List.zip_cons_cons, List.filter_cons]
    cases hf : f.opt
    · simpa [hf] using this
    · simp only [if_true, List.map_cons, List.length_cons]
      simpa using this
theorem headT_cases (l : List FieldA) (r : List ValA) (hr : r.length = l.length) (hl : l.length ≤ 8) : (headB l = 0 ∧ headT (l.zip r) = []) ∨ (headB l = 1 ∧ headT (l.zip r) = [UInt8.ofNat (headN (bitsOf (l.zip r)))]) := by
  have h1 := bitsOf_length l r hr
  have h2 := opts_le l
  unfold headB headT
  rw [h1]
  by_cases h : 0 < opts l
  · right
    exact ⟨by omega, by rw [if_pos h]⟩
  · left
    exact ⟨by omega, by rw [if_neg h]⟩
theorem or_pow : ∀ J : Fin 8, ∀ N : Fin 256, N.1 < 2 ^ J.1 → bits .or .u64 (N.1 : Int) ((2 ^ J.1 : Nat) : Int) = ((N.1 + 2 ^ J.1 : Nat) : Int) := by decide +kernel

end Go.Proofs.YtklkhegeeglfbaaGreatDoor
namespace Go.Proofs.YtklkhegeeglfbaaGreatDoor
open Go.RowKit Go.Maps

theorem or_marks (N J : Nat) (hJ : J < 8) (hN : N < 2 ^ J) : bits .or .u64 (N : Int) ((2 ^ J : Nat) : Int) = ((N + 2 ^ J : Nat) : Int) := by
  have h256 : N < 256 := Nat.lt_of_lt_of_le hN (by have := pow2_le (k := J) (by omega); omega)
  exact or_pow ⟨J, hJ⟩ ⟨N, h256⟩ hN
theorem or_marks2 (N J : Nat) (hJ : J < 8) (hN : N < 2 ^ J) : bits .or .u64 (N : Int) (IntKind.u64.wrap ((2 : Int) ^ J)) = ((N + 2 ^ J : Nat) : Int) := by
  have e : IntKind.u64.wrap ((2 : Int) ^ J) = ((2 ^ J : Nat) : Int) := by
    have h := pow2_le (k := J) (by omega)
    have h2 : ((2 : Int) ^ J) = ((2 ^ J : Nat) : Int) := by simp
    rw [h2, IntKind.wrap_u64]
    omega
  rw [e]
  exact or_marks N J hJ hN
theorem wideB_pos {l : List FieldA} (h : l.all fieldOK = true) : 0 ≤ wides l := by
  unfold wides
  induction l with
  | nil => simp
  | cons f r ih =>
    simp only [List.all_cons, Bool.and_eq_true] at h
    have h1 := h.1
    unfold fieldOK at h1
    simp only [Bool.and_eq_true, decide_eq_true_eq] at h1
    have := ih h.2
    simp only [List.map_cons, List.sum_cons]
    omega
theorem schemaB_width {l : List FieldA} (h : schemaB l = true) : ∃ W : Nat, widthB l = W ∧ headB l ≤ W ∧ W ≤ 64 := by
  have h1 := wideB_pos (schemaB_ok h)
  have h2 : widthB l ≤ 64 := by
    unfold schemaB at h
    simp only [Bool.and_eq_true, decide_eq_true_eq] at h
    exact h.2
  unfold widthB at *
  exact ⟨(headB l + wides l).toNat, by omega, by omega, by omega⟩

/-- What Encode has written ahead of value k, the head still open. -/
def bodyTo (r : List ValA) (k : Nat) : Txt := (r.take k).flatMap enc1
theorem bodyTo_snoc {r : List ValA} {k : Nat} {x : ValA} (h : r[k]? = some x) : bodyTo r (k + 1) = bodyTo r k ++ enc1 x := by
  unfold bodyTo
  rw [take_snoc _ _ _ h, List.flatMap_append]
  simp
theorem bodyTo_le {l : List FieldA} {r : List ValA} (hl : r.length = l.length) (hf : fitAll l r = true) (hI : InR r) (k : Nat) : (bodyTo r k).length ≤ 21 * r.length := by
  unfold bodyTo
  have h2 := flat_le enc1 21 (r.take k) (fun x hx => by
    obtain ⟨i, hi⟩ := List.mem_iff_getElem?.1 (List.mem_of_mem_take hx)
    have := get_lt hi
    exact enc1_length (fitAll_at hf (List.getElem?_eq_getElem (by omega)) hi) (hI x (List.mem_of_mem_take hx)))
  rw [List.length_take] at h2
  have : 21 * min k r.length ≤ 21 * r.length := Nat.mul_le_mul_left _ (Nat.min_le_right _ _)
  omega

set_option maxRecDepth 100000 in
set_option maxHeartbeats 4000000 in
theorem val_encode (l : List FieldA) (v : Value) (r : List ValA) (u : Value) (w : World) (hT : Types w) (h : FldsAt w v l) (hr : ValsAt w u r) (hI : InR r) :
    Calls Tryz.prog 17 #[.agg #[v], u] w fun e w' => ∃ b', e = .returned (.tuple #[b', .int .i64 (errR l r)]) ∧ w'.ownsRow w.heap.size 5 1 b' (encodeB l r).length (bs (encodeB l r)) ∧ Keeps (fun _ => False) w w' := by
  obtain ⟨ao, cap, rfl⟩ := RowAt.form h
  obtain ⟨bo, cbp, rfl⟩ := RowAt.form hr
  obtain ⟨HB, hb, hbc⟩ := boxed w #[.slice ao l.length cap] 26
  have hp := hbc 0 (.slice ao l.length cap) rfl
  have HF := hide (h.keepF (unhide HB))
  have HV := hide (hr.keepF (unhide HB))
  have HT := hide (hT.keepF (unhide HB))
  have HS := hide (val_check l _ r _ _ (unhide HT) (unhide HF) (unhide HV))
  have HI := hide hI
  clear hbc h hr hI hT
  go_enter Tryz.func17, Tryz.ntmps17
  go_wp2_with fail
  refine (unhide HS).mono ?_
  rintro e w2 ⟨rfl, hk2⟩
  have hp2 := (hk2.cell (o := 0) hb id).trans hp
  have hb2 := Nat.lt_of_lt_of_le hb hk2.size
  have HF2 := hide ((unhide HF).keepF hk2)
  have HV2 := hide ((unhide HV).keepF hk2)
  have HT2 := hide ((unhide HT).keepF hk2)
  have HB2 := hide ((unhide HB).trans hk2)
  have hw2 : w.heap.size ≤ w2.heap.size := (unhide HB2).size
  clear HS HF HV HB HT hk2 hp hb
  generalize w.alloc (.cells #[.slice ao l.length cap] 26) = w1 at *
  by_cases he : errR l r = 0
  · obtain ⟨hs, hlen, hfit⟩ := errR_zero he
    have hl8 := (schemaB_len hs).2
    have hl1 := (schemaB_len hs).1
    have HE : Hid (encodeB l r = headT (l.zip r) ++ r.flatMap enc1) := by show _ = _; unfold encodeB; rw [if_pos he]; rfl
    rw [he]
    obtain ⟨W, hW, hHW, hW64⟩ := schemaB_width hs
    have hHB : headB l ≤ 1 := by have := opts_le l; unfold headB; omega
    have HL := hide hlen
    have HT0 := hide hfit
    have HQ1 := hide (head_v l _ _ (unhide HF2) hl8)
    have HHC := hide (headT_cases l r hlen hl8)
    have hr8 : r.length ≤ 8 := by omega
    have HSO := hide (schemaB_ok hs)
    have HWW := hide hW
    have HE0 := hide he
    clear hs hlen hfit he hW
    generalize headB l = H at *
    go_wp2_with fail
    refine (unhide HQ1).mono ?_
    rintro e w3 ⟨rfl, hk3⟩
    have hp3 := (hk3.cell (o := 0) hb2 id).trans hp2
    have HF3 := hide ((unhide HF2).keepF hk3)
    have HT3 := hide ((unhide HT2).keepF hk3)
    have HK3 := hide hk3
    have HQ2 := hide (width_v l _ _ (unhide HT3) (unhide HF3) hl8 (unhide HSO))
    rw [unhide HWW] at HQ2
    clear hk3 HQ1
    go_wp2_with fail
    refine (unhide HQ2).mono ?_
    rintro e w4 ⟨rfl, hk4⟩
    have K24 := (unhide HK3).trans hk4
    have hp4 := (K24.cell (o := 0) hb2 id).trans hp2
    have hb4 := Nat.lt_of_lt_of_le hb2 K24.size
    have hmk := run_mkb H W hHW (by omega) w4
    have HOM := hide (owns_made w4 H W hHW (by omega))
    have HB4 := hide ((unhide HB2).trans K24)
    have HF4 := hide ((unhide HF2).keepF K24)
    have HV4 := hide ((unhide HV2).keepF K24)
    have hw4 : w.heap.size ≤ w4.heap.size := (unhide HB4).size
    have HA : Hid (Keeps (fun q => w4.heap.size ≤ q) w4 (w4.alloc (.cells (madeCells #[.int .u8 0] W) 5))) := (Keeps.refl _ _).alloc _
    have hp5 := ((unhide HA).cell (o := 0) hb4 (by omega)).trans hp4
    clear hk4 HQ2 K24 hp3 hp2 HF3 HT3 HK3 HT2 HB2 HF2 HV2
    go_wp2_with fail
    generalize w4.alloc (.cells (madeCells #[.int .u8 0] W) 5) = w5 at *
    clear hmk
    go_loopw [8, 9, 10, 28] (fun bb mm oo i wr => ∃ k N J : Nat, k ≤ l.length ∧ i = .int .i64 k ∧ mm = .int .u64 N ∧ oo = .int .i64 J ∧ N ≤ 255 ∧ J ≤ 8 ∧ Hid (N = headN (bitsOf ((l.zip r).take k)) ∧ J = (bitsOf ((l.zip r).take k)).length) ∧ wr.ownsRow w4.heap.size 5 1 bb (H + (bodyTo r k).length) (List.replicate H (.int .u8 0) ++ bs (bodyTo r k)) ∧ Keeps (fun q => w4.heap.size ≤ q) w5 wr) (fun _ _ _ i _ => l.length - (intOf i).toNat)
    case atStart => exact ⟨0, 0, 0, Nat.zero_le _, rfl, rfl, rfl, by omega, by omega, ⟨rfl, rfl⟩, by simpa [bodyTo, bs] using unhide HOM, Keeps.refl _ _⟩
    case round =>
      obtain ⟨k, N, J, hk, rfl, rfl, rfl, hN, hJ, HQ, hown, hkp⟩ := hrel
      have HO := hide hown
      have HK := hide ((unhide HA).trans hkp)
      have HBL := hide (bodyTo_le (unhide HL) (unhide HT0) (unhide HI) k)
      have hp6 := (hkp.cell (o := 0) (Nat.lt_of_lt_of_le hb4 (unhide HA).size) (by omega)).trans hp5
      have HKP := hide hkp
      clear hown hkp
      by_cases hlt : k < l.length
      · obtain ⟨x, hx⟩ : ∃ x, r[k]? = some x := ⟨_, List.getElem?_eq_getElem (by have := unhide HL; omega)⟩
        obtain ⟨f, hf⟩ : ∃ f, l[k]? = some f := ⟨_, List.getElem?_eq_getElem hlt⟩
        obtain ⟨b, off, c, e, hbl, hc⟩ := (unhide HF4).cells (by omega)
        simp at e
        obtain ⟨rfl, rfl⟩ := e
        obtain ⟨b', off', c', e', hbl', hc'⟩ := (unhide HV4).cells (by have := unhide HL; omega)
        simp at e'
        obtain ⟨rfl, rfl⟩ := e'
        have c0 := ((unhide HK).cell hbl (by omega)).trans (hc k f hf).1
        have c1 := ((unhide HK).cell hbl (by omega)).trans (hc k f hf).2.1
        have c2 := ((unhide HK).cell hbl (by omega)).trans (hc k f hf).2.2
        obtain ⟨HX, hxb, hxc⟩ := boxed wr #[str f.name, .int .i64 f.type, .bool f.opt] 69
        have K1 := (unhide HK).then (unhide HX) (fun _ _ hF => hF.elim)
        have d0 := (K1.cell hbl' (by omega)).trans (hc' k x hx).1
        have d1 := (K1.cell hbl' (by omega)).trans (hc' k x hx).2.1
        have d2 := (K1.cell hbl' (by omega)).trans (hc' k x hx).2.2
        have i1 : (k : Int) < (r.length : Int) := by have := unhide HL; omega
        have i2 : (k : Int) < (l.length : Int) := by omega
        have HZ : Hid (bitsOf ((l.zip r).take (k + 1)) = bitsOf ((l.zip r).take k) ++ (if f.opt then [decide (x.kind ≠ 0)] else [])) := by
          show _ = _
          rw [take_snoc _ _ _ (zip_get hf hx), bitsOf_snoc]
        have HZL : Hid ((bitsOf ((l.zip r).take (k + 1))).length ≤ 8) := by
          have h1 := bitsOf_le ((l.zip r).take (k + 1))
          rw [List.length_take] at h1
          show _ ≤ _
          omega
        have HCQ := hide (appendValue_v (wr.alloc (.cells #[str f.name, .int .i64 f.type, .bool f.opt] 69)) w4.heap.size u8 _ _ f x (fitAll_at (unhide HT0) hf hx) ((unhide HI) x (List.mem_of_getElem? hx)) ((unhide HO).alloc _) (by have := unhide HBL; omega) (by have := (unhide HK).size; simp; omega))
        have HBT := hide (bodyTo_snoc hx)
        have HKN := hide (((unhide HKP).alloc (.cells #[str f.name, .int .i64 f.type, .bool f.opt] 69)))
        generalize bitsOf ((l.zip r).take k) = Z at *
        obtain ⟨Z', HZE⟩ : ∃ Z', Hid (bitsOf ((l.zip r).take (k + 1)) = Z') := ⟨_, rfl⟩
        rw [unhide HZE] at HZ HZL
        unfold ValA.v at HCQ
        clear hc hc' hf hx K1 hxc HX HKP
        have HN2 := hide (headN_lt Z)
        cases hfo : f.opt with
        | true =>
          rw [hfo] at c2 HCQ HKN d0 d1 d2
          have hJ7 : J ≤ 7 := by
            have h1 := unhide HZL
            rw [unhide HZ, hfo] at h1
            simp at h1
            have := (unhide HQ).2
            omega
          by_cases hki : x.kind = 0
          · have HKI := hide hki
            rw [hki] at d0 HCQ
            clear hki
            go_wp2_with fail
            refine (unhide HCQ).mono ?_
            rintro e w7 ⟨v7, rfl, ho7, hk7⟩
            have HO7 := hide ho7
            have HK7 := hide ((unhide HKN).trans hk7)
            clear ho7 hk7 HCQ
            go_wp2_with fail
            go_roundw
            case rel =>
              refine ⟨k + 1, N, J + 1, by omega, by go_num, by go_num, by go_num, hN, (by omega), ?_, ?_, unhide HK7⟩
              · have hq := unhide HQ
                have hz := unhide HZ
                show _ ∧ _
                rw [unhide HZE]
                rw [hz, hfo, if_pos rfl, headN_snoc, decide_eq_false (by simp [unhide HKI]), List.length_append, ← hq.1, ← hq.2]; exact ⟨rfl, rfl⟩
              · rw [unhide HBT, bs_append, List.length_append, ← List.append_assoc, ← Nat.add_assoc]
                exact unhide HO7
            case measure => simp [intOf]; omega
          · have HKI := hide hki
            have hki' : (x.kind != 0) = true := by rw [bne_iff_ne]; exact hki
            have hNJ : N < 2 ^ J := by have := unhide HN2; rw [← (unhide HQ).1, ← (unhide HQ).2] at this; exact this
            have HOR := hide (or_marks2 N J (by omega) hNJ)
            have HB8 : Hid (N + 2 ^ J ≤ 255) := by
              have : 2 ^ (J + 1) ≤ 256 := pow2_le (by omega)
              rw [Nat.pow_succ] at this
              show _ ≤ _
              omega
            clear hki
            go_wp2_with fail
            refine (unhide HCQ).mono ?_
            rintro e w7 ⟨v7, rfl, ho7, hk7⟩
            have HO7 := hide ho7
            have HK7 := hide ((unhide HKN).trans hk7)
            clear ho7 hk7 HCQ
            go_wp2_with fail
            go_roundw
            case rel =>
              refine ⟨k + 1, N + 2 ^ J, J + 1, by omega, by go_num, congrArg (Value.int .u64) (unhide HOR), by go_num, (unhide HB8), (by omega), ?_, ?_, unhide HK7⟩
              · have hq := unhide HQ
                have hz := unhide HZ
                show _ ∧ _
                rw [unhide HZE]
                rw [hz, hfo, if_pos rfl, headN_snoc, decide_eq_true (unhide HKI), if_pos rfl, List.length_append, ← hq.1, ← hq.2]; exact ⟨rfl, rfl⟩
              · rw [unhide HBT, bs_append, List.length_append, ← List.append_assoc, ← Nat.add_assoc]
                exact unhide HO7
            case measure => simp [intOf]; omega
        | false =>
          rw [hfo] at c2 HCQ HKN d0 d1 d2
          go_wp2_with fail
          refine (unhide HCQ).mono ?_
          rintro e w7 ⟨v7, rfl, ho7, hk7⟩
          have HO7 := hide ho7
          have HK7 := hide ((unhide HKN).trans hk7)
          clear ho7 hk7 HCQ
          go_wp2_with fail
          go_roundw
          case rel =>
            refine ⟨k + 1, N, J, by omega, by go_num, by go_num, by go_num, hN, hJ, ?_, ?_, unhide HK7⟩
            · have hq := unhide HQ
              have hz := unhide HZ
              show _ ∧ _
              rw [unhide HZE]
              rw [hz, hfo]; simpa using hq
            · rw [unhide HBT, bs_append, List.length_append, ← List.append_assoc, ← Nat.add_assoc]
              exact unhide HO7
          case measure => simp [intOf]; omega
      · obtain rfl : k = l.length := by omega
        obtain ⟨oo, oc, rfl⟩ := (rowAt_own (unhide HO)).form
        have hroom := (rowAt_own (unhide HO)).room _ _ _ rfl
        have HBF : Hid (bodyTo r l.length = r.flatMap enc1) := by show _ = _; unfold bodyTo; rw [List.take_of_length_le (by have := unhide HL; omega)]
        have HZF : Hid (N = headN (bitsOf (l.zip r))) := by
          have := (unhide HQ).1
          rw [List.take_of_length_le (by have := unhide HL; simp; omega)] at this
          exact this
        rcases unhide HHC with ⟨hH, hT⟩ | ⟨hH, hT⟩
        · subst hH
          have HTT := hide hT
          have i5 : (0 : Int) ≤ (oc : Int) := by omega
          have HP := hide (put_none oo oc N wr)
          clear hT hlt
          go_wp2_with fail
          refine (unhide HP).mono ?_
          rintro e w7 ⟨⟨rr, rfl⟩, rfl⟩
          go_wp2_with fail
          go_ret2
          refine ⟨_, ret_vi rfl (unhide HE0).symm, ?_, (unhide HB4).narrowS ((unhide HK)) (fun i hi => by omega)⟩
          rw [unhide HE, unhide HTT, List.nil_append, ← unhide HBF]
          have := ownsRow_lower (unhide HO) hw4
          simpa using this
        · subst hH
          have HTT := hide hT
          obtain ⟨g, cap2, e3, hg1, hg2⟩ := (unhide HO).form (by omega)
          simp at e3
          obtain ⟨rfl, rfl⟩ := e3
          have i5 : (1 : Int) ≤ (oc : Int) := by omega
          have HOF := hide (owns_first (x := .int .u8 N) (y := .int .u8 0) (xs := bs (bodyTo r l.length)) (by simpa using unhide HO))
          have HP := hide (put_one g oc N _ wr hN (unhide HOF).2.1 (unhide HOF).2.2.1)
          clear hT hlt
          go_wp2_with fail
          refine (unhide HP).mono ?_
          rintro e w7 ⟨⟨rr, rfl⟩, rfl⟩
          have HKS := hide ((unhide HK).setCell (p := ⟨g, 0, none⟩) (u := .int .u8 N) (fun _ => (unhide HOF).2.2.2))
          have HO7 := hide (ownsRow_lower (unhide HOF).1 hw4)
          generalize wr.setCell ⟨g, 0, none⟩ (.int .u8 N) = w8 at *
          go_wp2_with fail
          go_ret2
          refine ⟨_, ret_vi rfl (unhide HE0).symm, ?_, (unhide HB4).narrowS (unhide HKS) (fun i hi => by omega)⟩
          have hnum : num (UInt8.ofNat N) = (N : Int) := num_of N (by omega)
          rw [unhide HE, unhide HTT, ← unhide HZF, ← unhide HBF, bs_append]
          have h7 := unhide HO7
          simpa [bs, hnum, Nat.add_comm] using h7
  · have HE : Hid (encodeB l r = []) := by show _ = _; unfold encodeB; rw [if_neg he]
    have he' : (errR l r != 0) = true := by rw [bne_iff_ne]; exact he
    clear he
    obtain ⟨E, HEE⟩ : ∃ E, Hid (errR l r = E) := ⟨_, rfl⟩
    rw [unhide HEE] at he' ⊢
    go_wp2_with fail
    go_ret2
    refine ⟨_, ret_vi rfl (unhide HEE).symm, ?_, unhide HB2⟩
    rw [unhide HE]
    exact World.ownsRow_nil _ w.heap.size 5 1

end Go.Proofs.YtklkhegeeglfbaaGreatDoor
