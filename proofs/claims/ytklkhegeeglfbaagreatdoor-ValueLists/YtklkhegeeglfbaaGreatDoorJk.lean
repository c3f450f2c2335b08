import Derived.Test.YtklkhegeeglfbaaGreatDoorJzac
import Derived.Test.YtklkhegeeglfbaaGreatDoorJg
import Derived.Test.YtklkhegeeglfbaaGreatDoorShelf
namespace Go.Proofs.YtklkhegeeglfbaaGreatDoor
open Go.RowKit Go.Maps

theorem Keeps.ofBelow {a b : World} (h : Below a.heap.size a b) : Keeps (fun _ => False) a b := ⟨h.os, h.tape, h.output, h.size, fun k hk _ => h.block k hk⟩
/-- A builder that has been written to: it knows its own address. -/
def Bld (B b : Nat) (t : Txt) (w : World) : Prop := Lib.BuilderAt 123 5 B b (.pointer (some ⟨b, 0, none⟩)) (bs t) w

set_option maxRecDepth 100000 in
theorem copyCheck_v (b : Nat) (w : World) (h : w.cell? ⟨b, 0, none⟩ = some (.pointer (some ⟨b, 0, none⟩))) : Calls Tryz.prog 96 #[.pointer (some ⟨b, 0, none⟩)] w fun e w' => e = .returned (.tuple #[]) ∧ w' = w := by
  obtain ⟨j, hj, _⟩ := Option.map_eq_some_iff.1 Tryz.Builder_Extra_169.sizeBuilder
  go_enter Tryz.func96, Tryz.ntmps96
  go_wp2
  rw [Lib.run_neq_ptr_same w _ Tryz.underlying121 hj]
  go_wp2
  go_end0
  exact ⟨rfl, rfl⟩

set_option maxRecDepth 100000 in
theorem plain_v (c : Int) (w : World) : Calls Tryz.prog 95 #[.int .u8 c] w fun e w' => e = .returned (.bool (decide (32 ≤ c) && decide (c ≤ 126))) ∧ w' = w := by
  go_enter Tryz.func95, Tryz.ntmps95
  go_wp2
  all_goals (go_ret; refine ⟨ret_bool ?_, rfl⟩; apply Bool.eq_iff_iff.2; simp at *; try omega)

set_option maxRecDepth 100000 in
set_option maxHeartbeats 2000000 in
theorem writeByte_v (B b : Nat) (t : Txt) (c : UInt8) (w : World) (h : Bld B b t w) (hlen : t.length ≤ 70368744177664) (hBw : B ≤ w.heap.size) :
    Calls Tryz.prog 94 #[.pointer (some ⟨b, 0, none⟩), .int .u8 (num c)] w fun e w' => e = .returned .nilIface ∧ Bld B b (t ++ [c]) w' ∧ Below B w w' := by
  obtain ⟨i0, hi, hz0, hz1, hz2⟩ := info_parts Tryz.info5
  have HQ := hide (copyCheck_v b w h.cell0)
  obtain ⟨hB, v, hbk, hown, hne⟩ := h
  have hl : (bs t).length = t.length := by simp [bs]
  rw [hl] at hown
  have c0 : w.cell? ⟨b, 0, none⟩ = some (.pointer (some ⟨b, 0, none⟩)) := by rw [Lib.cell_of_heap hbk]; rfl
  have c1 : w.cell? ⟨b, 1, none⟩ = some v := by rw [Lib.cell_of_heap hbk]; rfl
  have hlt : b < w.heap.size := by
    rcases Nat.lt_or_ge b w.heap.size with h' | h'
    · exact h'
    · simp [Array.getElem?_eq_none h'] at hbk
  go_enter Tryz.func94, Tryz.ntmps94
  go_wp2_with (first
    | (go_at_call 96; refine (unhide HQ).mono ?_; rintro e w1 ⟨rfl, rfl⟩)
    | (at_builtin; refine wpList_append_own _ rfl _ _ 30 rfl B 5 i0 (.int .u8 0) 1 1 Tryz.underlying30 hi hz0 hz1 hz2 rfl (by decide) _ _ _ rfl (hown.alloc _) ⟨w1.heap.size, 0, none⟩ 1 1 [.int .u8 (num c)] rfl rfl ?c1 ?c2 ?c3 ?c4 ?c5 ?_))
  case c1 =>
    intro j u hj
    match j, hj with
    | 0, hj => simp at hj; subst hj; simp [Addr.add]
  case c2 => intro u hu; simp at hu; subst hu; rfl
  case c3 => unfold maxLen; omega
  case c4 => omega
  case c5 => simp; omega
  intro v' w2 hown' hgrow _
  have hb2 : w2.heap[b]? = some (.cells #[.pointer (some ⟨b, 0, none⟩), v] 123 (0, 0)) := by
    rw [hgrow.block b (by simp; omega) (fun e => hne e.symm), Lib.alloc_old w1 _ b hlt]
    exact hbk
  have d0 : w2.cell? ⟨b, 0, none⟩ = some (.pointer (some ⟨b, 0, none⟩)) := by rw [Lib.cell_of_heap hb2]; rfl
  have d1 : w2.cell? ⟨b, 1, none⟩ = some v := by rw [Lib.cell_of_heap hb2]; rfl
  have f1 : w2.frozen? ⟨b, 1, none⟩ = false := Lib.frozen_of_heap hb2 1
  obtain ⟨g, cap, rfl⟩ : ∃ g cap, v' = .slice (some ⟨g, 0, none⟩) (t.length + 1) cap := by
    rcases hown'.2 with ⟨_, h0⟩ | ⟨g, cap, cur, hv, _⟩
    · omega
    · exact ⟨g, cap, hv⟩
  go_wp2
  go_ret
  refine ⟨rfl, ?_, ?_⟩
  · refine Lib.BuilderAt.put (T := 123) (e := 5) hB hb2 (bs' := bs (t ++ [c])) ?_ (by decide)
    rw [show (bs (t ++ [c])).length = t.length + 1 by simp [bs], show bs (t ++ [c]) = bs t ++ [.int .u8 (num c)] by simp [bs]]
    exact hown'
  · exact (((Below.refl B w1).alloc hBw _).grown hgrow (by simp; omega) (fun k hk => (hown.lt k hk).1)).setCell (p := ⟨b, 1, none⟩) hB _

set_option maxRecDepth 100000 in
set_option maxHeartbeats 2000000 in
theorem writeString_v (B b : Nat) (t s : Txt) (w : World) (h : Bld B b t w) (hlen : t.length + s.length ≤ 70368744177664) (hBw : B ≤ w.heap.size) :
    Calls Tryz.prog 77 #[.pointer (some ⟨b, 0, none⟩), str s] w fun e w' => e = .returned (.tuple #[.int .i64 s.length, .nilIface]) ∧ Bld B b (t ++ s) w' ∧ Below B w w' := by
  obtain ⟨i0, hi, hz0, hz1, hz2⟩ := info_parts Tryz.info5
  have HQ := hide (copyCheck_v b w h.cell0)
  obtain ⟨hB, v, hbk, hown, hne⟩ := h
  have hl : (bs t).length = t.length := by simp [bs]
  have hsz : ByteArray.size ⟨s.toArray⟩ = s.length := by simp [ByteArray.size]
  rw [hl] at hown
  have c0 : w.cell? ⟨b, 0, none⟩ = some (.pointer (some ⟨b, 0, none⟩)) := by rw [Lib.cell_of_heap hbk]; rfl
  have c1 : w.cell? ⟨b, 1, none⟩ = some v := by rw [Lib.cell_of_heap hbk]; rfl
  have hlt : b < w.heap.size := by
    rcases Nat.lt_or_ge b w.heap.size with h' | h'
    · exact h'
    · simp [Array.getElem?_eq_none h'] at hbk
  go_enter Tryz.func77, Tryz.ntmps77
  go_wp2_with (first
    | (go_at_call 96; refine (unhide HQ).mono ?_; rintro e w1 ⟨rfl, rfl⟩)
    | (at_builtin; refine Lib.wpList_append_own_string _ rfl _ _ 30 9 rfl B 5 i0 Tryz.underlying30 Tryz.underlying9 hi hz0 hz1 hz2 _ _ _ rfl hown ⟨s.toArray⟩ rfl ?c3 ?c4 ?c5 ?_))
  case c3 => rw [hsz]; unfold maxLen; omega
  case c4 => rw [hsz]; omega
  case c5 => omega
  intro v' w2 hown' hgrow _
  have hb2 : w2.heap[b]? = some (.cells #[.pointer (some ⟨b, 0, none⟩), v] 123 (0, 0)) := by
    rw [hgrow.block b hlt (fun e => hne e.symm)]
    exact hbk
  have d0 : w2.cell? ⟨b, 0, none⟩ = some (.pointer (some ⟨b, 0, none⟩)) := by rw [Lib.cell_of_heap hb2]; rfl
  have d1 : w2.cell? ⟨b, 1, none⟩ = some v := by rw [Lib.cell_of_heap hb2]; rfl
  have f1 : w2.frozen? ⟨b, 1, none⟩ = false := Lib.frozen_of_heap hb2 1
  obtain ⟨ao, n', cap, rfl⟩ : ∃ ao n' cap, v' = .slice ao n' cap := by
    rcases hown'.2 with ⟨hv, _⟩ | ⟨g, cap, cur, hv, _⟩
    · exact ⟨_, _, _, hv⟩
    · exact ⟨_, _, _, hv⟩
  go_wp2
  go_ret2
  refine ⟨rfl, ?_, ?_⟩
  · refine Lib.BuilderAt.put (T := 123) (e := 5) hB hb2 (bs' := bs (t ++ s)) ?_ (by decide)
    rw [show (bs (t ++ s)).length = t.length + s.length by simp [bs], show bs (t ++ s) = bs t ++ bs s by simp [bs]]
    first | exact hown' | (rw [strCells_bs, hsz] at hown'; exact hown')
  · exact ((Below.refl B w1).grown hgrow hBw (fun k hk => (hown.lt k hk).1)).setCell (p := ⟨b, 1, none⟩) hB _

theorem string_v (B b : Nat) (t : Txt) (w : World) (h : Bld B b t w) (h0 : t ≠ []) :
    Calls Tryz.prog 78 #[.pointer (some ⟨b, 0, none⟩)] w fun e w' => e = .returned (str t) ∧ Below B w w' :=
  Tryz.Builder_String B b t w (.inr (by have e : Lib.byteCells t = bs t := by simp [Lib.byteCells, bs, num]
                                        rw [e]; exact h)) h0
end Go.Proofs.YtklkhegeeglfbaaGreatDoor
namespace Go.Proofs.YtklkhegeeglfbaaGreatDoor
open Go.RowKit Go.Maps

theorem writeByte_i {B b : Nat} {t : Txt} {w : World} (c : UInt8) (i : Int) (hi : num c = i) (h : Bld B b t w) (hlen : t.length ≤ 70368744177664) (hBw : B ≤ w.heap.size) :
    Calls Tryz.prog 94 #[.pointer (some ⟨b, 0, none⟩), .int .u8 i] w fun e w' => e = .returned .nilIface ∧ Bld B b (t ++ [c]) w' ∧ Below B w w' := by
  subst hi
  exact writeByte_v B b t c w h hlen hBw
theorem and15 (c : UInt8) : bits .and .u8 (num c) 15 = ((c.toNat % 16 : Nat) : Int) := by
  have h : ∀ n : Fin 256, bits .and .u8 ((n.val : Nat) : Int) 15 = ((n.val % 16 : Nat) : Int) := by decide +kernel
  exact h ⟨c.toNat, c.toNat_lt⟩

set_option maxRecDepth 100000 in
set_option maxHeartbeats 2000000 in
theorem quote_v (t : Txt) (w : World) (ht : t.length ≤ 1099511627776) :
    Calls Tryz.prog 75 #[str t] w fun e w' => e = .returned (str (quoteB t)) ∧ Keeps (fun _ => False) w w' := by
  have HT := hide ht
  have ht' : t.length ≤ 1099511627776 := ht
  obtain ⟨hbk, hA⟩ : (w.alloc (.cells #[.pointer none, .slice none 0 0] 123)).heap[w.heap.size]? = some (.cells #[.pointer none, .slice none 0 0] 123 (0, 0)) ∧ Below w.heap.size w (w.alloc (.cells #[.pointer none, .slice none 0 0] 123)) := ⟨heap_alloc_new w _, (Below.refl _ _).alloc (Nat.le_refl _) _⟩
  have HQ := hide (Tryz.Builder_Grow_fresh w.heap.size w.heap.size (t.length + 2) _ (Nat.le_refl _) hbk hA.size (by omega))
  have HA := hide hA
  have e2 : ((t.length + 2 : Nat) : Int) = (t.length : Int) + 2 := by omega
  rw [e2] at HQ
  clear ht hbk hA
  go_enter Tryz.func75, Tryz.ntmps75
  go_wp2_with fail
  refine (unhide HQ).mono ?_
  rintro e w2 ⟨rfl, hb2, hl2⟩
  have HL2 := hide (Below.trans (unhide HA) hl2)
  have s2 := (unhide HL2).size
  have HB2 : Hid (Bld w.heap.size w.heap.size [] w2) := hb2
  clear hb2 hl2 HQ HA
  go_wp2_with fail
  refine (writeByte_i 34 34 rfl (unhide HB2) (by simp) s2).mono ?_
  rintro e w3 ⟨rfl, hb3, hl3⟩
  have HL3 := hide (Below.trans (unhide HL2) hl3)
  have s3 := (unhide HL3).size
  have HB3 := hide hb3
  clear hb3 hl3 HB2 HL2 s2
  go_wp2_with fail
  go_loopw [4, 5, 13] (fun _ _ i wr => ∃ (k : Nat) (A : Txt), k ≤ t.length ∧ i = .int .i64 k ∧ Hid (A = quoteTo t k) ∧ Bld w.heap.size w.heap.size A wr ∧ Below w.heap.size w wr) (fun _ _ i _ => t.length - (intOf i).toNat)
  case atStart => exact ⟨0, [34], Nat.zero_le _, rfl, by simp [Hid, quoteTo], unhide HB3, unhide HL3⟩
  case round =>
    clear HB3 HL3 s3
    obtain ⟨k, A, hk, rfl, HA, hb, hl⟩ := hrel
    have HB := hide hb
    have HL := hide hl
    have s0 := hl.size
    have hAl : A.length ≤ 4398046511105 := by rw [unhide HA]; have := quoteTo_le t k; have := unhide HT; omega
    clear hb hl
    cases hx : t[k]? with
    | none =>
      have h1 := get_ge hx
      obtain rfl : k = t.length := by omega
      clear hx h1
      have HQ : Hid (quoteB t = A ++ [34]) := by show _ = _; rw [unhide HA]; unfold quoteB quoteTo; rw [List.take_length]; rfl
      go_wp2_with fail
      refine (writeByte_i 34 34 rfl (unhide HB) (by omega) s0).mono ?_
      rintro e w4 ⟨rfl, hb4, hl4⟩
      have HL4 := hide (Below.trans (unhide HL) hl4)
      have HS := hide (string_v _ _ _ _ hb4 (by simp))
      clear hb4 hl4
      go_wp2_with fail
      refine (unhide HS).mono ?_
      rintro e w5 ⟨rfl, hl5⟩
      have HL5 := hide (Below.trans (unhide HL4) hl5)
      clear hl5
      go_wp2_with fail
      go_ret
      exact ⟨by rw [unhide HQ]; rfl, Keeps.ofBelow (unhide HL5)⟩
    | some c =>
      have h1 := get_lt hx
      have q := str_at hx
      have HS := hide (quoteTo_snoc hx)
      clear hx
      by_cases hesc : c = 34 ∨ c = 92
      · have HC : Hid (quote1 c = [92, c]) := by show _ = _; unfold quote1; rw [if_pos hesc]
        have FIN : Hid (∀ w4 : World, Below w.heap.size w w4 → Bld w.heap.size w.heap.size (A ++ [92] ++ [c]) w4 → ∃ (k' : Nat) (A' : Txt), k' ≤ t.length ∧ Value.int .i64 ((k : Int) + 1) = .int .i64 k' ∧ Hid (A' = quoteTo t k') ∧ Bld w.heap.size w.heap.size A' w4 ∧ Below w.heap.size w w4) := fun _ hb hl => ⟨k + 1, _, by omega, by go_num, by show _ = _; rw [unhide HS, unhide HC, unhide HA]; simp, hl, hb⟩
        rcases hesc with rfl | rfl
        · go_wp2_with fail
          refine (writeByte_i 92 92 rfl (unhide HB) (by omega) s0).mono ?_
          rintro e w4 ⟨rfl, hb4, hl4⟩
          have HL4 := hide (Below.trans (unhide HL) hl4)
          have HB4 := hide hb4
          clear hb4 hl4
          go_wp2_with fail
          refine (writeByte_i 34 34 rfl (unhide HB4) (by simp; omega) (unhide HL4).size).mono ?_
          rintro e w5 ⟨rfl, hb5, hl5⟩
          have HL5 := hide (Below.trans (unhide HL4) hl5)
          have HB5 := hide hb5
          clear hb5 hl5
          go_wp2_with fail
          go_roundw
          case rel => exact (unhide FIN) _ (unhide HL5) (unhide HB5)
          case measure => simp [intOf]; omega
        · go_wp2_with fail
          refine (writeByte_i 92 92 rfl (unhide HB) (by omega) s0).mono ?_
          rintro e w4 ⟨rfl, hb4, hl4⟩
          have HL4 := hide (Below.trans (unhide HL) hl4)
          have HB4 := hide hb4
          clear hb4 hl4
          go_wp2_with fail
          refine (writeByte_i 92 92 rfl (unhide HB4) (by simp; omega) (unhide HL4).size).mono ?_
          rintro e w5 ⟨rfl, hb5, hl5⟩
          have HL5 := hide (Below.trans (unhide HL4) hl5)
          have HB5 := hide hb5
          clear hb5 hl5
          go_wp2_with fail
          go_roundw
          case rel => exact (unhide FIN) _ (unhide HL5) (unhide HB5)
          case measure => simp [intOf]; omega
      · have e1 : (c.toNat : Int) = num c := rfl
        have n34 : num c ≠ 34 := fun e => hesc (.inl (num_inj (a := c) (b := 34) e))
        have n92 : num c ≠ 92 := fun e => hesc (.inr (num_inj (a := c) (b := 92) e))
        have d34 : (num c == 34) = false := by simpa using n34
        have d92 : (num c == 92) = false := by simpa using n92
        have HP := hide (plain_v (num c) wr)
        by_cases hpl : 32 ≤ num c ∧ num c ≤ 126
        · have HC : Hid (quote1 c = [c]) := by
            show _ = _
            rw [quote1_num c _ _ rfl rfl, if_neg (by simp [n34, n92]), if_pos hpl]
          rw [decide_eq_true hpl.1, decide_eq_true hpl.2, Bool.and_true] at HP
          clear hesc hpl n34 n92
          go_wp2_with fail
          refine (unhide HP).mono ?_
          rintro e w3 ⟨rfl, rfl⟩
          go_wp2_with fail
          refine (writeByte_i c (num c) rfl (unhide HB) (by omega) s0).mono ?_
          rintro e w5 ⟨rfl, hb5, hl5⟩
          have HL5 := hide (Below.trans (unhide HL) hl5)
          have HB5 := hide hb5
          clear hb5 hl5
          go_wp2_with fail
          go_roundw
          case rel => exact ⟨k + 1, _, by omega, by go_num, by show _ = _; rw [unhide HS, unhide HC, unhide HA], unhide HB5, unhide HL5⟩
          case measure => simp [intOf]; omega
        · obtain ⟨n1, hn1⟩ : ∃ n1, n1 = c.toNat / 16 := ⟨_, rfl⟩
          obtain ⟨n2, hn2⟩ : ∃ n2, n2 = c.toNat % 16 := ⟨_, rfl⟩
          have hcl := c.toNat_lt
          have HC : Hid (quote1 c = [92, 120, hexD n1, hexD n2]) := by
            show _ = _
            rw [quote1_num c n1 n2 hn1 hn2, if_neg (by simp [n34, n92]), if_neg hpl]
          have hf : (decide (32 ≤ num c) && decide (num c ≤ 126)) = false := by simpa using hpl
          rw [hf] at HP
          have r1 : num c / 16 = (n1 : Int) := by unfold num; omega
          have r2 : bits .and .u8 (num c) 15 = (n2 : Int) := by rw [and15, hn2]
          have b1 : n1 < 16 := by omega
          have b2 : n2 < 16 := by omega
          have q1 : ∀ hk, (ByteArray.mk #[48, 49, 50, 51, 52, 53, 54, 55, 56, 57, 97, 98, 99, 100, 101, 102])[n1]'hk = hexD n1 := str_at (digs_at n1 b1)
          have q2 : ∀ hk, (ByteArray.mk #[48, 49, 50, 51, 52, 53, 54, 55, 56, 57, 97, 98, 99, 100, 101, 102])[n2]'hk = hexD n2 := str_at (digs_at n2 b2)
          have y1 : ((hexD n1).toNat : Int) = num (hexD n1) := rfl
          have y2 : ((hexD n2).toNat : Int) = num (hexD n2) := rfl
          clear hesc n34 n92 hpl hf hn1 hn2 hcl
          go_wp2_with fail
          refine (unhide HP).mono ?_
          rintro e w3 ⟨rfl, rfl⟩
          go_wp2_with fail
          refine (writeString_v _ _ _ [92, 120] _ (unhide HB) (by simp; omega) s0).mono ?_
          rintro e w4 ⟨rfl, hb4, hl4⟩
          have HL4 := hide (Below.trans (unhide HL) hl4)
          have HB4 := hide hb4
          clear hb4 hl4
          go_wp2_with fail
          refine (writeByte_i (hexD n1) (num (hexD n1)) rfl (unhide HB4) (by simp; omega) (unhide HL4).size).mono ?_
          rintro e w5 ⟨rfl, hb5, hl5⟩
          have HL5 := hide (Below.trans (unhide HL4) hl5)
          have HB5 := hide hb5
          clear hb5 hl5
          go_wp2_with fail
          refine (writeByte_i (hexD n2) (num (hexD n2)) rfl (unhide HB5) (by simp; omega) (unhide HL5).size).mono ?_
          rintro e w6 ⟨rfl, hb6, hl6⟩
          have HL6 := hide (Below.trans (unhide HL5) hl6)
          have HB6 := hide hb6
          clear hb6 hl6
          go_wp2_with fail
          go_roundw
          case rel => exact ⟨k + 1, _, by omega, by go_num, by show _ = _; rw [unhide HS, unhide HC, unhide HA]; simp, unhide HB6, unhide HL6⟩
          case measure => simp [intOf]; omega
end Go.Proofs.YtklkhegeeglfbaaGreatDoor
