import Derived.Test.YtdkihkgmldnpmabBh
namespace Go.Proofs.Ytdkihkgmldnpmab
open Go.RowKit Go.Maps

set_option maxRecDepth 100000 in
set_option maxHeartbeats 4000000 in
theorem listed_asks (w : World) (V B : Nat) (st : Nat → Slot) (b : Book) (h : LI w V B st b) (hB : B ≤ w.heap.size) (hn : b.n ≤ 8589934592) (o : OpA) (hO : OpAt w B o) (hkd : o.kind ≠ 2) :
    Calls Try.prog 5 #[.pointer (some ⟨V, 0, none⟩), .pointer (some ⟨b.K, 0, none⟩), .agg o.cells] w fun e w' => e = .returned (.bool true) ∧ ∃ st' b', LI w' V B st' b' ∧ b'.K = b.K ∧ b'.n ≤ b.n + 1 ∧ Keeps (fun k => B ≤ k) w w' := by
  obtain ⟨wh, kd, a, bv, bytes⟩ := o
  obtain ⟨bo, bc, hbv⟩ := hO.bits.form
  simp only [bs_length] at hbv hkd
  subst hbv
  simp only [OpA.cells]
  have h2' : (kd == 2) = false := beq_eq_false_iff_ne.2 hkd
  obtain ⟨i, hi, hi3⟩ := mod3 wh
  obtain ⟨w1, hw1⟩ : ∃ w1, w1 = w.alloc (.cells #[.int .i64 wh, .int .i64 kd, .int .i64 a, .slice bo bytes.length bc] 39) := ⟨_, rfl⟩
  have hb1 : w1.heap[w.heap.size]? = some (.cells #[.int .i64 wh, .int .i64 kd, .int .i64 a, .slice bo bytes.length bc] 39 (0, 0)) := by rw [hw1]; exact heap_alloc_new w _
  have hk1 : Keeps (fun _ => False) w w1 := by rw [hw1]; exact (Keeps.refl _ _).alloc _
  have h1 := h.keep hk1
  have c0 := cell_of_blk hb1 0
  have c1 := cell_of_blk hb1 1
  have c2 := cell_of_blk hb1 2
  have c3 := cell_of_blk hb1 3
  simp at c0 c1 c2 c3
  obtain ⟨pv, rv⟩ := slot_cells h1.t i hi3
  obtain ⟨pp, hpp⟩ : ∃ pp, slotP (st i) = .pointer pp := ⟨_, rfl⟩
  obtain ⟨rp, hrp⟩ : ∃ rp, slotR (st i) = .pointer rp := ⟨_, rfl⟩
  rw [hpp] at pv
  rw [hrp] at rv
  have hi0 : (0 : Int) ≤ (i : Int) := by omega
  have hi3' : (i : Int) < 3 := by omega
  have hVlt := lt_of_block h1.t.blk
  have hO1 : OpAt w1 B ⟨wh, kd, a, .slice bo bytes.length bc, bytes⟩ := hO.kept hk1 (fun _ f => f.elim)
  have hB1 : B ≤ w1.heap.size := Nat.le_trans hB hk1.size
  have HST := hide (step_any w1 V B st h1.t hB1 _ hO1)
  simp only [OpA.cells] at HST
  have HU := hide (look_used' h1.t i)
  have HBI := hide (look_bits' h1.t i)
  rw [hpp, hrp] at HU HBI
  have HW1 := hide hw1
  have HK1 := hide hk1
  have HH1 := hide h1
  have hwho := who_any wh w1
  rw [hi] at hwho
  have HWH := hide hwho
  have HLO : Hid (∀ k, b.own k → B ≤ k) := fun k hk => (h.k.own_at hk).1
  have HSL : Hid (∀ k, (k = V ∨ ∃ i, slotOwn (st i) k) → B ≤ k) := by
    rintro k (rfl | ⟨j, hj⟩)
    · exact h.t.lo
    · exact (h.t.own_lo hj).1
  clear h hO hb1 hw1 hk1 h1 hwho hi hpp hrp hO1 hkd
  go_enter Try.func5, Try.ntmps5
  go_wp2_with fail
  rw [← unhide HW1]
  refine (unhide HWH).mono ?_; rintro e w1 ⟨rfl, rfl⟩
  by_cases h8 : kd = 8
  · subst h8
    obtain ⟨l, hl, hp⟩ := unhide HU
    have HP := hide hp
    clear hp
    go_wp2_with fail
    refine (unhide HP).mono ?_
    rintro e w3 ⟨ao, cap, rfl, hk3, hc3⟩
    have rv3 := (hk3.cell (o := 3 + i) hVlt id).trans rv
    have HC3 := hide hc3
    clear hc3 hk3 HP
    go_wp2_with fail
    refine (unhide HC3).mono ?_
    rintro e w4 ⟨v2, rfl, hrow, hc2, hk4⟩
    have HE := hide (eqInts_any w4 _ v2 l l (cells_row hrow (is_length _)) hc2 (by unfold maxLen; omega))
    rw [decide_eq_true rfl] at HE
    have HROW := hide hrow
    have HK4 := hide hk4
    clear hrow hc2 hk4 HC3
    go_wp2_with fail
    refine (unhide HE).mono ?_
    rintro e w5 ⟨rfl, q, rfl⟩
    have hk5 : Keeps (fun _ => False) w1 (w4.drewN q) := (unhide HK4).drewN q
    have h5 := (unhide HH1).keep hk5
    have hrow5 : (w4.drewN q).ownsRow w1.heap.size 3 1 (.slice ao l.length cap) l.length (is l) := unhide HROW
    have hfr : ∀ k, (Value.slice ao l.length cap).ownBlock = some k → w1.heap.size ≤ k := fun k hk => (hrow5.lt k hk).1
    have HM := hide (ints_any (w4.drewN q) B b h5.k (Nat.le_trans hB1 hk5.size) ao l.length cap l rfl (ownsRow_lower hrow5 hB1) (fun k hk ha => by have h6 := hfr k hk; have h7 := ((unhide HH1).k.all_at ha).2; omega) (by omega) hn)
    have HFR : Hid (∀ k, (Value.slice ao l.length cap).ownBlock = some k → k ≠ V ∧ ∀ i s T, st i = some (s, T) → ¬ foot s T k) := (unhide HH1).fresh hfr
    have HBF : Hid (∀ k, (Value.slice ao l.length cap).ownBlock = some k → B ≤ k) := fun k hk => Nat.le_trans hB1 (hfr k hk)
    have H5 := hide h5
    have HK5 := hide ((unhide HK1).trans hk5)
    clear hk5 h5 hrow5 hfr HE
    generalize w4.drewN q = w6 at *
    go_wp2_with fail
    refine (unhide HM).mono ?_
    rintro e w7 ⟨rfl, b', hb', hbK, hbn, hk7, hall⟩
    have H7 := hide ((unhide H5).mark hb' hk7 hall (unhide HFR))
    have HK7 := hide ((unhide HK5).any.trans (hk7.mono (fun k _ e => e.elim (unhide HLO k) (unhide HBF k))))
    clear hb' hk7 hall HM
    go_wp2
    go_ret
    exact ⟨rfl, st, b', unhide H7, hbK, by omega, unhide HK7⟩
  · have h8' : (kd == 8) = false := beq_eq_false_iff_ne.2 h8
    clear h8
    by_cases h10 : kd = 10
    · subst h10
      obtain ⟨l, hl, hp⟩ := unhide HBI
      have HP := hide hp
      clear hp
      go_wp2_with fail
      refine (unhide HP).mono ?_
      rintro e w3 ⟨ao, cap, rfl, hk3, hc3⟩
      have rv3 := (hk3.cell (o := 3 + i) hVlt id).trans rv
      have HC3 := hide hc3
      clear hc3 hk3 HP
      go_wp2_with fail
      refine (unhide HC3).mono ?_
      rintro e w4 ⟨v2, rfl, hrow, hc2, hk4⟩
      have HE := hide (eqBytes_any w4 _ v2 l l (cells_row hrow (bs_length _)) hc2 (by unfold maxLen; omega))
      rw [decide_eq_true rfl] at HE
      have HROW := hide hrow
      have HK4 := hide hk4
      clear hrow hc2 hk4 HC3
      go_wp2_with fail
      refine (unhide HE).mono ?_
      rintro e w5 ⟨rfl, q, rfl⟩
      have hk5 : Keeps (fun _ => False) w1 (w4.drewN q) := (unhide HK4).drewN q
      have h5 := (unhide HH1).keep hk5
      have hrow5 : (w4.drewN q).ownsRow w1.heap.size 5 1 (.slice ao l.length cap) l.length (bs l) := unhide HROW
      have hfr : ∀ k, (Value.slice ao l.length cap).ownBlock = some k → w1.heap.size ≤ k := fun k hk => (hrow5.lt k hk).1
      have HM := hide (bytes_any (w4.drewN q) B b h5.k (Nat.le_trans hB1 hk5.size) ao l.length cap l rfl (ownsRow_lower hrow5 hB1) (fun k hk ha => by have h6 := hfr k hk; have h7 := ((unhide HH1).k.all_at ha).2; omega) (by omega) hn)
      have HFR : Hid (∀ k, (Value.slice ao l.length cap).ownBlock = some k → k ≠ V ∧ ∀ i s T, st i = some (s, T) → ¬ foot s T k) := (unhide HH1).fresh hfr
      have HBF : Hid (∀ k, (Value.slice ao l.length cap).ownBlock = some k → B ≤ k) := fun k hk => Nat.le_trans hB1 (hfr k hk)
      have H5 := hide h5
      have HK5 := hide ((unhide HK1).trans hk5)
      clear hk5 h5 hrow5 hfr HE
      generalize w4.drewN q = w6 at *
      go_wp2_with fail
      refine (unhide HM).mono ?_
      rintro e w7 ⟨rfl, b', hb', hbK, hbn, hk7, hall⟩
      have H7 := hide ((unhide H5).mark hb' hk7 hall (unhide HFR))
      have HK7 := hide ((unhide HK5).any.trans (hk7.mono (fun k _ e => e.elim (unhide HLO k) (unhide HBF k))))
      clear hb' hk7 hall HM
      go_wp2
      go_ret
      exact ⟨rfl, st, b', unhide H7, hbK, by omega, unhide HK7⟩
    · have h10' : (kd == 10) = false := beq_eq_false_iff_ne.2 h10
      clear h10
      go_wp2_with fail
      refine (unhide HST).mono ?_
      rintro e w3 ⟨rfl, st', t3, hk3, hg3⟩
      have H3 := hide ((unhide HH1).step t3 hk3 hg3)
      have HK3 := hide ((unhide HK1).any.trans (hk3.mono (fun k _ e => unhide HSL k e)))
      clear t3 hk3 hg3
      go_wp2
      go_ret
      exact ⟨rfl, st', b, unhide H3, rfl, by omega, unhide HK3⟩

end Go.Proofs.Ytdkihkgmldnpmab
