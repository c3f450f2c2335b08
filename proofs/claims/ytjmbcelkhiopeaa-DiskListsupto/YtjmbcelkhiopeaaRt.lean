import Derived.Test.YtjmbcelkhiopeaaRs
namespace Go.Proofs.Ytjmbcelkhiopeaa
open Go.RowKit Go.Maps
attribute [local go_sem ↓] Go.wp_at_zero Go.wp_at_succ

theorem Trio.slot_own {X : Nat → Prop} {w : World} {V B N : Nat} {st : Nat → Slot} (t : Trio w X V B N st) {i k : Nat} (h : slotOwn (st i) k) : k < w.heap.size ∧ B ≤ k := by
  obtain ⟨S, R, hs, h⟩ := h
  have d := t.duo i S R hs
  refine ⟨t.foot_lt hs (h.imp Or.inl Or.inl), ?_⟩
  rcases h with h | h
  · exact d.p.own_lo k h
  · exact d.r.foot_lo (Or.inl h)

/-- The bytes that were copied and those that were handed in are the same, behind a call at one place. -/
theorem same_bytes' {w w2 W : World} {B : Nat} {o : OpA} {v' : Value} {b' : Nat} {F : Nat → Prop} (hO : OpAt w B o) (hB : B ≤ w.heap.size) (hkW : Keeps (fun k => B ≤ k) w W) (hrow : w2.ownsRow b' 5 1 v' o.bytes.length (bs o.bytes)) (hF : ∀ k, F k → k < b') (hk2 : Keeps F w2 W) :
    Calls Try.prog 28 #[v', o.bv] W fun e w' => e = .returned (.bool true) ∧ ∃ n, w' = W.drewN n := by
  have h1 := (row_reads (ownsRow_kept hrow hk2 (fun b hb e => by have := (hrow.lt b hb).1; have := hF b e; omega))).1
  have h2 := (hO.kept hB hkW).bytes
  refine (eqBytes_any W v' o.bv o.bytes o.bytes h1 h2 (by have := hO.blen; unfold maxLen; omega)).mono ?_
  rintro e w' ⟨rfl, h⟩
  exact ⟨by simp, h⟩

set_option maxRecDepth 100000 in
set_option maxHeartbeats 2000000 in
theorem acts_any {X : Nat → Prop} (w : World) (V B N : Nat) (st : Nat → Slot) (t : Trio w X V B N st) (hB : B ≤ w.heap.size) (hN : N ≤ 2147483646) (o : OpA) (hO : OpAt w B o) (ha : o.a ≤ 9223372036854775807) :
    Calls Try.prog 58 #[.pointer (some ⟨V, 0, none⟩), .agg o.cells] w fun e w' => e = .returned (.bool true) ∧ ∃ st', Trio w' X V B (N + 1) st' ∧ Keeps (fun k => k = V ∨ ∃ i, slotOwn (st i) k) w w' := by
  obtain ⟨wh, kd, a, b, bv, kv, bytes, keep⟩ := o
  obtain ⟨bo, bc, hbv⟩ := hO.bytes.form
  obtain ⟨ko, kc, hkv⟩ := hO.keep.form
  simp only at hbv hkv ha
  subst hbv hkv
  simp only [OpA.cells]
  obtain ⟨i, hi, hi3⟩ := mod3 wh
  have HT := hide t
  have HO := hide hO
  obtain ⟨w1, hw1⟩ : ∃ w1, w1 = w.alloc (.cells #[.int .i64 wh, .int .i64 kd, .int .i64 a, .int .i64 b, .slice bo bytes.length bc, .slice ko keep.length kc] 81) := ⟨_, rfl⟩
  have hb1 : w1.heap[w.heap.size]? = some (.cells #[.int .i64 wh, .int .i64 kd, .int .i64 a, .int .i64 b, .slice bo bytes.length bc, .slice ko keep.length kc] 81 (0, 0)) := by rw [hw1]; exact heap_alloc_new w _
  have hk1 : Keeps (fun _ => False) w w1 := by rw [hw1]; exact (Keeps.refl _ _).alloc _
  have hO1 := hO.keepF hB hk1
  have t1 := t.keep hk1
  have HCP := hide (OpAt.copy (w := w1.drew.drew) (hO1.keepF (Nat.le_trans hB hk1.size) (Keeps.refl _ _).drew.drew) (Nat.le_trans hB hk1.size))
  simp only at HCP
  have c0 := cell_of_blk hb1 0
  have c1 := cell_of_blk hb1 1
  have c2 := cell_of_blk hb1 2
  have c4 := cell_of_blk hb1 4
  simp at c0 c1 c2 c4
  obtain ⟨pv, rv⟩ := slot_cells t1 i hi3
  obtain ⟨pp, hpp⟩ : ∃ pp, slotP (st i) = .pointer pp := ⟨_, rfl⟩
  obtain ⟨rp, hrp⟩ : ∃ rp, slotR (st i) = .pointer rp := ⟨_, rfl⟩
  rw [hpp] at pv
  rw [hrp] at rv
  have hi0 : (0 : Int) ≤ (i : Int) := by omega
  have hi3' : (i : Int) < 3 := by omega
  have HB1 := hide hb1
  have HW1 := hide hw1
  have HK1 := hide hk1
  have HT1 := hide t1
  have HO1 := hide hO1
  have HPP := hide hpp
  have HRP := hide hrp
  have hlw := lt_of_block hb1
  have hwho := who_any wh
  rw [hi] at hwho
  have HWH := hide hwho
  clear t hO hb1 hw1 hk1 hO1 t1 hwho hi hpp hrp
  go_enter Try.func58, Try.ntmps58
  go_wp2_with fail
  rw [← unhide HW1]
  go_region_held3 (fun w' => w'.cell? ⟨w.heap.size, 0, none⟩ = some (.int .i64 wh) ∧ w'.cell? ⟨V, i, none⟩ = some (.pointer pp))
    (go_keep)
    (first | (go_at_call 45; refine (unhide HWH _).mono ?_; rintro e wa ⟨rfl, rfl⟩))
  go_wp2_with fail
  go_region_held3 (fun w' => w'.cell? ⟨w.heap.size, 0, none⟩ = some (.int .i64 wh) ∧ w'.cell? ⟨V, 3 + i, none⟩ = some (.pointer rp))
    (go_keep)
    (first | (go_at_call 45; refine (unhide HWH _).mono ?_; rintro e wa ⟨rfl, rfl⟩))
  by_cases h5 : kd = 5
  · subst h5
    go_wp2_with fail
    refine (unhide HCP).mono ?_
    rintro e w2 ⟨v', rfl, hrow, hk2'⟩
    obtain ⟨vo, vc, rfl⟩ : ∃ vo vc, v' = .slice vo bytes.length vc := by
      rcases hrow.2 with ⟨hv, hn⟩ | ⟨g, cap, cur, hv, _⟩
      · exact ⟨none, 0, by rw [hv, hn]⟩
      · exact ⟨_, _, hv⟩
    have hk2 := (Keeps.refl (fun _ => False) w1).drew.drew.trans hk2'
    have hrow' : w2.ownsRow w1.heap.size 5 1 (.slice vo bytes.length vc) bytes.length (bs bytes) := hrow
    have t2 := (unhide HT1).keep hk2
    have hO2 := (unhide HO1).keepF (Nat.le_trans hB (unhide HK1).size) hk2
    have hz1 := (unhide HK1).size
    have hz2 := hk2.size
    have hB2 : B ≤ w2.heap.size := by omega
    obtain ⟨r, hpair⟩ := pair_write t2 hN hB2 i a vo bo vc bc bytes (row_reads hrow').1 (fun b off e => (hrow'.lt b (by rw [e]; rfl)).2)
      (fun w' hk => (hO2.kept hB2 (hk.mono (fun k _ h => (t2.slot_own h).2))).bytes) (fun b off n c e h => Nat.lt_of_lt_of_le (hO2.lt b off n c e h) hB2)
    unfold PairCalls at hpair
    rw [unhide HPP, unhide HRP] at hpair
    have HPC := hide hpair
    have hlw2 : w.heap.size < w2.heap.size := by omega
    have d2 := (hk2.cell (o := 2) hlw id).trans c2
    have d4 := (hk2.cell (o := 4) hlw id).trans c4
    have hno : ¬ slotOwn (st i) w.heap.size := fun h => by have := ((unhide HT).slot_own h).1; omega
    have HOWN : Hid (∀ k, slotOwn (st i) k → k < w1.heap.size ∧ B ≤ k) := fun k h => ⟨Nat.lt_of_lt_of_le ((unhide HT).slot_own h).1 hz1, ((unhide HT).slot_own h).2⟩
    have HROW := hide hrow'
    have HK2 := hide hk2
    have HO2 := hide hO2
    clear hrow hrow' hk2 hk2' t2 hO2 hpair HCP
    go_wp2_with fail
    refine (unhide HPC).mono ?_
    rintro e w3 ⟨rfl, hk3, hc3⟩
    have e2 := (hk3.cell (o := 2) hlw2 hno).trans d2
    have e4 := (hk3.cell (o := 4) hlw2 hno).trans d4
    have HC3 := hide hc3
    clear hc3 hk3 HPC
    go_wp2_with fail
    refine (unhide HC3).mono ?_
    rintro e w4 ⟨rfl, ⟨st', t4⟩, hk4⟩
    have g4 := (hk4.cell (o := 4) hlw2 hno).trans d4
    have hkB : Keeps (fun k => B ≤ k) w2 w4 := hk4.mono (fun k _ h => (unhide HOWN k h).2)
    have HE := hide (same_bytes' (unhide HO2) hB2 hkB (unhide HROW) (fun k h => (unhide HOWN k h).1) hk4)
    have HT4 := hide t4
    have HKB := hide ((((unhide HK1).trans (unhide HK2)).mono (fun _ _ f => f.elim)).trans (hk4.mono (fun k _ h => Or.inr ⟨i, h⟩)) : Keeps (fun k => k = V ∨ ∃ i, slotOwn (st i) k) w w4)
    clear t4 hk4 hkB HC3
    simp only at HE
    go_wp2_with fail
    refine (unhide HE).mono ?_
    rintro e w'' ⟨rfl, n, rfl⟩
    go_wp2
    go_ret
    exact ⟨rfl, _, (unhide HT4).keep (keeps_drewN _ _), (unhide HKB).trans ((keeps_drewN _ _).mono (fun _ _ f => f.elim))⟩
  · have h5' : (kd == 5) = false := beq_eq_false_iff_ne.2 h5
    clear h5 HCP
    have t2 := (unhide HT1).keep (Keeps.refl _ w1).drew.drew
    have hno : ¬ slotOwn (st i) w.heap.size := fun h => by have := ((unhide HT).slot_own h).1; omega
    by_cases h6 : kd = 6
    · subst h6
      obtain ⟨r, hpair⟩ := pair_flush t2 hN i
      unfold PairCalls at hpair
      rw [unhide HPP, unhide HRP] at hpair
      have HPC := hide hpair
      clear hpair t2
      go_wp2_with fail
      refine (unhide HPC).mono ?_
      rintro e w3 ⟨rfl, hk3, hc3⟩
      have HC3 := hide hc3
      clear hc3 hk3 HPC
      go_wp2_with fail
      refine (unhide HC3).mono ?_
      rintro e w4 ⟨rfl, ⟨st', t4⟩, hk4⟩
      have HT4 := hide t4
      have HKB := hide (((unhide HK1).mono (fun _ _ f => f.elim)).trans ((Keeps.refl _ w1).drew.drew.trans (hk4.mono (fun k _ h => Or.inr ⟨i, h⟩))) : Keeps (fun k => k = V ∨ ∃ i, slotOwn (st i) k) w w4)
      clear t4 hk4 HC3
      go_wp2
      go_ret
      exact ⟨rfl, _, unhide HT4, unhide HKB⟩
    · have h6' : (kd == 6) = false := beq_eq_false_iff_ne.2 h6
      clear h6
      obtain ⟨r, hpair⟩ := pair_arm t2 i a ha
      unfold PairCalls at hpair
      rw [unhide HPP, unhide HRP] at hpair
      have HPC := hide hpair
      clear hpair t2
      go_wp2_with fail
      refine (unhide HPC).mono ?_
      rintro e w3 ⟨rfl, hk3, hc3⟩
      have e2 := (hk3.cell (o := 2) hlw hno).trans c2
      have HC3 := hide hc3
      clear hc3 hk3 HPC
      go_wp2_with fail
      refine (unhide HC3).mono ?_
      rintro e w4 ⟨rfl, ⟨st', t4⟩, hk4⟩
      have HT4 := hide t4
      have HKB := hide (((unhide HK1).mono (fun _ _ f => f.elim)).trans ((Keeps.refl _ w1).drew.drew.trans (hk4.mono (fun k _ h => Or.inr ⟨i, h⟩))) : Keeps (fun k => k = V ∨ ∃ i, slotOwn (st i) k) w w4)
      clear t4 hk4 HC3
      go_wp2
      go_ret
      exact ⟨rfl, _, unhide HT4, unhide HKB⟩

end Go.Proofs.Ytjmbcelkhiopeaa
