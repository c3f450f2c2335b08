import Derived.Test.YtajklagdjokojaaGreatDoorPa
import Derived.Test.YtajklagdjokojaaGreatDoorJg
namespace Go.Proofs.YtajklagdjokojaaGreatDoor
open Go.RowKit Go.Maps

theorem writeByte_i {B b : Nat} {t : Txt} {w : World} (c : UInt8) (i : Int) (hi : num c = i) (h : Bld B b t w) (hlen : t.length ≤ 70368744177664) (hBw : B ≤ w.heap.size) :
    Calls Tryz.prog 122 #[.pointer (some ⟨b, 0, none⟩), .int .u8 i] w fun e w' => e = .returned .nilIface ∧ Bld B b (t ++ [c]) w' ∧ Below B w w' := by
  subst hi
  exact writeByte_v B b t c w h hlen hBw
theorem and15 (c : UInt8) : bits .and .u8 (num c) 15 = ((c.toNat % 16 : Nat) : Int) := by
  have h : ∀ n : Fin 256, bits .and .u8 ((n.val : Nat) : Int) 15 = ((n.val % 16 : Nat) : Int) := by decide +kernel
  exact h ⟨c.toNat, c.toNat_lt⟩

set_option maxRecDepth 100000 in
set_option maxHeartbeats 2000000 in
theorem quote_v (t : Txt) (w : World) (ht : t.length ≤ 1099511627776) :
    Calls Tryz.prog 88 #[str t] w fun e w' => e = .returned (str (quoteB t)) ∧ Keeps (fun _ => False) w w' := by
  have HT := hide ht
  have ht' : t.length ≤ 1099511627776 := ht
  obtain ⟨hbk, hA⟩ : (w.alloc (.cells #[.pointer none, .slice none 0 0] 132)).heap[w.heap.size]? = some (.cells #[.pointer none, .slice none 0 0] 132 (0, 0)) ∧ Below w.heap.size w (w.alloc (.cells #[.pointer none, .slice none 0 0] 132)) := ⟨heap_alloc_new w _, (Below.refl _ _).alloc (Nat.le_refl _) _⟩
  have HQ := hide (Tryz.Builder_Grow_fresh w.heap.size w.heap.size (t.length + 2) _ (Nat.le_refl _) hbk hA.size (by omega))
  have HA := hide hA
  have e2 : ((t.length + 2 : Nat) : Int) = (t.length : Int) + 2 := by omega
  rw [e2] at HQ
  clear ht hbk hA
  go_enter Tryz.func88, Tryz.ntmps88
  go_wp2_with fail
  refine (unhide HQ).mono ?_
  rintro e w2 ⟨rfl, hb2, hl2⟩
  have HL2 := hide (Below.trans (unhide HA) hl2)
  have s2 := (unhide HL2).size
  have HB2 : Hid (Bld w.heap.size w.heap.size [] w2) := hb2
  clear hb2 hl2 HQ HA
  go_wp2_with fail
  refine (writeByte_i 34 34 rfl (unhide HB2) (by simp) s2).mono ?_
  rintro e w3 ⟨rfl, hb3, hl3⟩
  have HL3 := hide (Below.trans (unhide HL2) hl3)
  have s3 := (unhide HL3).size
  have HB3 := hide hb3
  clear hb3 hl3 HB2 HL2 s2
  go_wp2_with fail
  go_loopw [4, 5, 13] (fun _ _ i wr => ∃ (k : Nat) (A : Txt), k ≤ t.length ∧ i = .int .i64 k ∧ Hid (A = quoteTo t k) ∧ Bld w.heap.size w.heap.size A wr ∧ Below w.heap.size w wr) (fun _ _ i _ => t.length - (intOf i).toNat)
  case atStart => exact ⟨0, [34], Nat.zero_le _, rfl, by simp [Hid, quoteTo], unhide HB3, unhide HL3⟩
  case round =>
    clear HB3 HL3 s3
    obtain ⟨k, A, hk, rfl, HA, hb, hl⟩ := hrel
    have HB := hide hb
    have HL := hide hl
    have s0 := hl.size
    have hAl : A.length ≤ 4398046511105 := by rw [unhide HA]; have := quoteTo_le t k; have := unhide HT; omega
    clear hb hl
    cases hx : t[k]? with
    | none =>
      have h1 := get_ge hx
      obtain rfl : k = t.length := by omega
      clear hx h1
      have HQ : Hid (quoteB t = A ++ [34]) := by show _ = _; rw [unhide HA]; unfold quoteB quoteTo; rw [List.take_length]; rfl
      go_wp2_with fail
      refine (writeByte_i 34 34 rfl (unhide HB) (by omega) s0).mono ?_
      rintro e w4 ⟨rfl, hb4, hl4⟩
      have HL4 := hide (Below.trans (unhide HL) hl4)
      have HS := hide (string_v _ _ _ _ hb4 (by simp))
      clear hb4 hl4
      go_wp2_with fail
      refine (unhide HS).mono ?_
      rintro e w5 ⟨rfl, hl5⟩
      have HL5 := hide (Below.trans (unhide HL4) hl5)
      clear hl5
      go_wp2_with fail
      go_ret
      exact ⟨by rw [unhide HQ]; rfl, Keeps.ofBelow (unhide HL5)⟩
    | some c =>
      have h1 := get_lt hx
      have q := str_at hx
      have HS := hide (quoteTo_snoc hx)
      clear hx
      by_cases hesc : c = 34 ∨ c = 92
      · have HC : Hid (quote1 c = [92, c]) := by show _ = _; unfold quote1; rw [if_pos hesc]
        have FIN : Hid (∀ w4 : World, Below w.heap.size w w4 → Bld w.heap.size w.heap.size (A ++ [92] ++ [c]) w4 → ∃ (k' : Nat) (A' : Txt), k' ≤ t.length ∧ Value.int .i64 ((k : Int) + 1) = .int .i64 k' ∧ Hid (A' = quoteTo t k') ∧ Bld w.heap.size w.heap.size A' w4 ∧ Below w.heap.size w w4) := fun _ hb hl => ⟨k + 1, _, by omega, by go_num, by show _ = _; rw [unhide HS, unhide HC, unhide HA]; simp, hl, hb⟩
        rcases hesc with rfl | rfl
        · go_wp2_with fail
          refine (writeByte_i 92 92 rfl (unhide HB) (by omega) s0).mono ?_
          rintro e w4 ⟨rfl, hb4, hl4⟩
          have HL4 := hide (Below.trans (unhide HL) hl4)
          have HB4 := hide hb4
          clear hb4 hl4
          go_wp2_with fail
          refine (writeByte_i 34 34 rfl (unhide HB4) (by simp; omega) (unhide HL4).size).mono ?_
          rintro e w5 ⟨rfl, hb5, hl5⟩
          have HL5 := hide (Below.trans (unhide HL4) hl5)
          have HB5 := hide hb5
          clear hb5 hl5
          go_wp2_with fail
          go_roundw
          case rel => exact (unhide FIN) _ (unhide HL5) (unhide HB5)
          case measure => simp [intOf]; omega
        · go_wp2_with fail
          refine (writeByte_i 92 92 rfl (unhide HB) (by omega) s0).mono ?_
          rintro e w4 ⟨rfl, hb4, hl4⟩
          have HL4 := hide (Below.trans (unhide HL) hl4)
          have HB4 := hide hb4
          clear hb4 hl4
          go_wp2_with fail
          refine (writeByte_i 92 92 rfl (unhide HB4) (by simp; omega) (unhide HL4).size).mono ?_
          rintro e w5 ⟨rfl, hb5, hl5⟩
          have HL5 := hide (Below.trans (unhide HL4) hl5)
          have HB5 := hide hb5
          clear hb5 hl5
          go_wp2_with fail
          go_roundw
          case rel => exact (unhide FIN) _ (unhide HL5) (unhide HB5)
          case measure => simp [intOf]; omega
      · have e1 : (c.toNat : Int) = num c := rfl
        have n34 : num c ≠ 34 := fun e => hesc (.inl (num_inj (a := c) (b := 34) e))
        have n92 : num c ≠ 92 := fun e => hesc (.inr (num_inj (a := c) (b := 92) e))
        have d34 : (num c == 34) = false := by simpa using n34
        have d92 : (num c == 92) = false := by simpa using n92
        have HP := hide (plain_v (num c) wr)
        by_cases hpl : 32 ≤ num c ∧ num c ≤ 126
        · have HC : Hid (quote1 c = [c]) := by
            show _ = _
            rw [quote1_num c _ _ rfl rfl, if_neg (by simp [n34, n92]), if_pos hpl]
          rw [decide_eq_true hpl.1, decide_eq_true hpl.2, Bool.and_true] at HP
          clear hesc hpl n34 n92
          go_wp2_with fail
          refine (unhide HP).mono ?_
          rintro e w3 ⟨rfl, rfl⟩
          go_wp2_with fail
          refine (writeByte_i c (num c) rfl (unhide HB) (by omega) s0).mono ?_
          rintro e w5 ⟨rfl, hb5, hl5⟩
          have HL5 := hide (Below.trans (unhide HL) hl5)
          have HB5 := hide hb5
          clear hb5 hl5
          go_wp2_with fail
          go_roundw
          case rel => exact ⟨k + 1, _, by omega, by go_num, by show _ = _; rw [unhide HS, unhide HC, unhide HA], unhide HB5, unhide HL5⟩
          case measure => simp [intOf]; omega
        · obtain ⟨n1, hn1⟩ : ∃ n1, n1 = c.toNat / 16 := ⟨_, rfl⟩
          obtain ⟨n2, hn2⟩ : ∃ n2, n2 = c.toNat % 16 := ⟨_, rfl⟩
          have hcl := c.toNat_lt
          have HC : Hid (quote1 c = [92, 120, hexD n1, hexD n2]) := by
            show _ = _
            rw [quote1_num c n1 n2 hn1 hn2, if_neg (by simp [n34, n92]), if_neg hpl]
          have hf : (decide (32 ≤ num c) && decide (num c ≤ 126)) = false := by simpa using hpl
          rw [hf] at HP
          have r1 : num c / 16 = (n1 : Int) := by unfold num; omega
          have r2 : bits .and .u8 (num c) 15 = (n2 : Int) := by rw [and15, hn2]
          have b1 : n1 < 16 := by omega
          have b2 : n2 < 16 := by omega
          have q1 : ∀ hk, (ByteArray.mk #[48, 49, 50, 51, 52, 53, 54, 55, 56, 57, 97, 98, 99, 100, 101, 102])[n1]'hk = hexD n1 := str_at (digs_at n1 b1)
          have q2 : ∀ hk, (ByteArray.mk #[48, 49, 50, 51, 52, 53, 54, 55, 56, 57, 97, 98, 99, 100, 101, 102])[n2]'hk = hexD n2 := str_at (digs_at n2 b2)
          have y1 : ((hexD n1).toNat : Int) = num (hexD n1) := rfl
          have y2 : ((hexD n2).toNat : Int) = num (hexD n2) := rfl
          clear hesc n34 n92 hpl hf hn1 hn2 hcl
          go_wp2_with fail
          refine (unhide HP).mono ?_
          rintro e w3 ⟨rfl, rfl⟩
          go_wp2_with fail
          refine (writeString_v _ _ _ [92, 120] _ (unhide HB) (by simp; omega) s0).mono ?_
          rintro e w4 ⟨rfl, hb4, hl4⟩
          have HL4 := hide (Below.trans (unhide HL) hl4)
          have HB4 := hide hb4
          clear hb4 hl4
          go_wp2_with fail
          refine (writeByte_i (hexD n1) (num (hexD n1)) rfl (unhide HB4) (by simp; omega) (unhide HL4).size).mono ?_
          rintro e w5 ⟨rfl, hb5, hl5⟩
          have HL5 := hide (Below.trans (unhide HL4) hl5)
          have HB5 := hide hb5
          clear hb5 hl5
          go_wp2_with fail
          refine (writeByte_i (hexD n2) (num (hexD n2)) rfl (unhide HB5) (by simp; omega) (unhide HL5).size).mono ?_
          rintro e w6 ⟨rfl, hb6, hl6⟩
          have HL6 := hide (Below.trans (unhide HL5) hl6)
          have HB6 := hide hb6
          clear hb6 hl6
          go_wp2_with fail
          go_roundw
          case rel => exact ⟨k + 1, _, by omega, by go_num, by show _ = _; rw [unhide HS, unhide HC, unhide HA]; simp, unhide HB6, unhide HL6⟩
          case measure => simp [intOf]; omega
end Go.Proofs.YtajklagdjokojaaGreatDoor
namespace Go.Proofs.YtajklagdjokojaaGreatDoor
open Go.RowKit Go.Maps

/-- What digits tell. -/
def val (l : Txt) : Int := l.foldl (fun a c => a * 10 + num c - 48) 0
theorem val_snoc (l : Txt) (c : UInt8) : val (l ++ [c]) = val l * 10 + num c - 48 := by simp [val]
theorem val_decN (k : Nat) : ∀ u, u ≤ k → val (decN u) = u := by
  induction k with
  | zero => intro u h; obtain rfl : u = 0 := by omega
            simp [decN_zero, val]
  | succ k ih =>
    intro u h
    by_cases h0 : u = 0
    · subst h0; simp [decN_zero, val]
    · rw [decN_pos (by omega), val_snoc, digit_num, ih (u / 10) (by omega)]
      omega
theorem decN_ge (k : Nat) : ∀ u, u ≤ k → ∀ c ∈ decN u, 48 ≤ num c := by
  induction k with
  | zero => intro u h; obtain rfl : u = 0 := by omega
            simp [decN_zero]
  | succ k ih =>
    intro u h c hc
    by_cases h0 : u = 0
    · subst h0; simp [decN_zero] at hc
    · rw [decN_pos (by omega), List.mem_append] at hc
      rcases hc with hc | hc
      · exact ih (u / 10) (by omega) c hc
      · simp only [List.mem_singleton] at hc
        rw [hc, digit_num]
        omega

def neg (t : Txt) : Bool := decide (t[0]? = some 45)
/-- What is read of the first k. -/
def pre (t : Txt) (k : Nat) : Txt := if neg t then (t.take k).drop 1 else t.take k
def readN (t : Txt) : Int := if neg t then wrap64 (-wrap64 (val (t.drop 1))) else wrap64 (val t)
def numberB (t : Txt) : Int × Bool := if 20 < t.length then (0, false) else (readN t, decide (decimal (readN t) = t))

theorem wrap64_range (x : Int) : -9223372036854775808 ≤ wrap64 x ∧ wrap64 x ≤ 9223372036854775807 := by unfold wrap64; omega
theorem readN_range (t : Txt) : -9223372036854775808 ≤ readN t ∧ readN t ≤ 9223372036854775807 := by
  unfold readN
  split <;> exact wrap64_range _
theorem readN_decimal (n : Int) (h0 : -9223372036854775808 ≤ n) (h1 : n ≤ 9223372036854775807) : readN (decimal n) = n := by
  by_cases hz : n = 0
  · subst hz; decide +kernel
  unfold decimal
  rw [if_neg hz]
  by_cases hn : n < 0
  · rw [if_pos hn]
    unfold readN
    rw [if_pos (by simp [neg])]
    rw [List.drop_one, List.tail_cons, val_decN _ _ (Nat.le_refl _)]
    unfold wrap64
    omega
  · rw [if_neg hn]
    unfold readN
    rw [if_neg, val_decN _ _ (Nat.le_refl _)]
    · unfold wrap64; omega
    · simp only [neg, decide_eq_true_eq]
      intro e
      have := decN_ge _ _ (Nat.le_refl _) 45 (List.mem_of_getElem? e)
      simp [num] at this
theorem decimal_length (n : Int) (h0 : -9223372036854775808 ≤ n) (h1 : n ≤ 9223372036854775807) : (decimal n).length ≤ 20 := by
  unfold decimal
  have := decN_20 n.natAbs (by omega)
  split
  · simp
  · split
    · simp; omega
    · omega
/-- What is taken is written so, and what is written so is taken. -/
theorem numberB_ok (t : Txt) (h : (numberB t).2 = true) : decimal (numberB t).1 = t ∧ -9223372036854775808 ≤ (numberB t).1 ∧ (numberB t).1 ≤ 9223372036854775807 := by
  unfold numberB at *
  split
  · simp_all
  · rename_i hl
    rw [if_neg hl] at h
    exact ⟨of_decide_eq_true h, readN_range t⟩
theorem numberB_decimal (n : Int) (h0 : -9223372036854775808 ≤ n) (h1 : n ≤ 9223372036854775807) : numberB (decimal n) = (n, true) := by
  unfold numberB
  rw [if_neg (by have := decimal_length n h0 h1; omega), readN_decimal n h0 h1]
  simp

theorem pre_zero (t : Txt) : pre t 0 = [] := by simp [pre]
theorem pre_neg {t : Txt} (h : neg t = true) : pre t 1 = [] := by
  unfold pre
  rw [if_pos h]
  apply List.drop_eq_nil_of_le
  simp; omega
theorem pre_snoc {t : Txt} {k : Nat} {c : UInt8} (h : t[k]? = some c) (hk : neg t = false ∨ 0 < k) : pre t (k + 1) = pre t k ++ [c] := by
  unfold pre
  rw [take_snoc _ _ _ h]
  split
  · rename_i hn
    rw [List.drop_append_of_le_length]
    have := get_lt h
    rcases hk with hk | hk
    · simp [hn] at hk
    · simp; omega
  · rfl
theorem pre_all (t : Txt) : pre t t.length = if neg t then t.drop 1 else t := by unfold pre; rw [List.take_length]
theorem wrap64_step (v c : Int) : wrap64 (wrap64 (wrap64 (wrap64 v * 10) + c) - 48) = wrap64 (v * 10 + c - 48) := by unfold wrap64; omega

theorem ret_ib {k : IntKind} {a b : Int} {p q : Bool} (h : a = b) (h2 : p = q) : Ending.returned (.tuple #[.int k a, .bool p]) = .returned (.tuple #[.int k b, .bool q]) := by rw [h, h2]

end Go.Proofs.YtajklagdjokojaaGreatDoor
