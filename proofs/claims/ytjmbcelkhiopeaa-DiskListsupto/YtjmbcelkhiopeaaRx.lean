import Derived.Test.YtjmbcelkhiopeaaRw
namespace Go.Proofs.Ytjmbcelkhiopeaa
open Go.RowKit Go.Maps
attribute [local go_sem ↓] Go.wp_at_zero Go.wp_at_succ

theorem survives_any {X : Nat → Prop} (w : World) (V B N : Nat) (st : Nat → Slot) (t : Trio w X V B N st) (hV : B ≤ V) (hB : B ≤ w.heap.size) (o : OpA) (hO : OpAt w B o) (hN : N ≤ 4294967295) :
    Calls Try.prog 57 #[.pointer (some ⟨V, 0, none⟩), .agg o.cells] w fun e w' => e = .returned (.bool true) ∧ ∃ st', Trio w' X V B N st' ∧ Keeps (fun k => k = V) w w' := by
  obtain ⟨i, hi, hi3⟩ := mod3 o.who
  obtain ⟨j, hj, hj3⟩ := mod3 o.b
  cases hs : st i with
  | none => exact survives_none w V B N st t hV hB o hO i j hi hj hi3 hj3 hs
  | some d => exact survives_some w V B N st t hV hB o hO i j hi hj hi3 hj3 d.1 d.2 hs hN

set_option maxRecDepth 100000 in
set_option maxHeartbeats 2000000 in
theorem step_any {X : Nat → Prop} (w : World) (V B N : Nat) (st : Nat → Slot) (t : Trio w X V B N st) (hV : B ≤ V) (hB : B ≤ w.heap.size) (hN : N ≤ 2147483646) (o : OpA) (hO : OpAt w B o) (ha : o.a ≤ 9223372036854775807) :
    Calls Try.prog 34 #[.pointer (some ⟨V, 0, none⟩), .agg o.cells] w fun e w' => e = .returned (.bool true) ∧ ∃ st', Trio w' X V B (N + 1) st' ∧ Keeps (fun k => k = V ∨ ∃ i, slotOwn (st i) k) w w' := by
  obtain ⟨w1, hw1⟩ : ∃ w1, w1 = w.alloc (.cells o.cells 81) := ⟨_, rfl⟩
  have hb1 : w1.heap[w.heap.size]? = some (.cells o.cells 81 (0, 0)) := by rw [hw1]; exact heap_alloc_new w _
  have hk1 : Keeps (fun _ => False) w w1 := by rw [hw1]; exact (Keeps.refl _ _).alloc _
  have hO1 := hO.keepF hB hk1
  have t1 := t.keep hk1
  have hB1 : B ≤ w1.heap.size := Nat.le_trans hB hk1.size
  obtain ⟨wh, kd, a, b, bv, kv, bytes, keep⟩ := o
  obtain ⟨bo, bc, hbv⟩ := hO.bytes.form
  obtain ⟨ko, kc, hkv⟩ := hO.keep.form
  simp only at hbv hkv ha
  subst hbv hkv
  simp only [OpA.cells] at hw1 hb1 ⊢
  have c0 := cell_of_blk hb1 0
  have c1 := cell_of_blk hb1 1
  have c2 := cell_of_blk hb1 2
  have c3 := cell_of_blk hb1 3
  have c4 := cell_of_blk hb1 4
  have c5 := cell_of_blk hb1 5
  simp at c0 c1 c2 c3 c4 c5
  have mono : ∀ (W : World) (s : Nat → Slot), Trio W X V B N s → Trio W X V B (N + 1) s := fun _ _ h => ⟨h.blk, fun i S R e => (h.duo i S R e).mono (by omega), h.free, h.apart, h.av, h.xlt⟩
  have HM := hide mono
  have HW1 := hide hw1
  have HK1 := hide hk1
  have HT1 := hide t1
  have HO1 := hide hO1
  have HT := hide t
  have hlw := lt_of_block hb1
  clear t hO hb1 hw1 hk1 hO1 t1 mono
  by_cases h1 : kd = 1
  · subst h1
    have HC := hide (makes_new w1 V B N st (unhide HT1) hV hB1 _ (unhide HO1) rfl)
    simp only [OpA.cells] at HC
    go_enter Try.func34, Try.ntmps34
    go_wp2_with fail
    rw [← unhide HW1]
    refine (unhide HC).mono ?_
    rintro e w2 ⟨rfl, st', t2, hk2⟩
    have HT2 := hide t2
    have HK2 := hide hk2
    clear t2 hk2 HC
    go_wp2
    go_ret
    exact ⟨rfl, st', unhide HM _ _ (unhide HT2), ((unhide HK1).mono (fun _ _ f => f.elim)).trans ((unhide HK2).mono (fun _ _ e => Or.inl e))⟩
  · have h1' : (kd == 1) = false := beq_eq_false_iff_ne.2 h1
    by_cases h2 : kd = 2
    · subst h2
      have HC := hide (makes_image w1 V B N st (unhide HT1) hV hB1 _ (unhide HO1) rfl)
      simp only [OpA.cells] at HC
      go_enter Try.func34, Try.ntmps34
      go_wp2_with fail
      rw [← unhide HW1]
      refine (unhide HC).mono ?_
      rintro e w2 ⟨rfl, st', t2, hk2⟩
      have HT2 := hide t2
      have HK2 := hide hk2
      clear t2 hk2 HC
      go_wp2
      go_ret
      exact ⟨rfl, st', unhide HM _ _ (unhide HT2), ((unhide HK1).mono (fun _ _ f => f.elim)).trans ((unhide HK2).mono (fun _ _ e => Or.inl e))⟩
    · have h2' : (kd == 2) = false := beq_eq_false_iff_ne.2 h2
      by_cases h3 : kd = 3
      · subst h3
        have HC := hide (survives_any w1 V B N st (unhide HT1) hV hB1 _ (unhide HO1) (by omega))
        simp only [OpA.cells] at HC
        go_enter Try.func34, Try.ntmps34
        go_wp2_with fail
        rw [← unhide HW1]
        refine (unhide HC).mono ?_
        rintro e w2 ⟨rfl, st', t2, hk2⟩
        have HT2 := hide t2
        have HK2 := hide hk2
        clear t2 hk2 HC
        go_wp2
        go_ret
        exact ⟨rfl, st', unhide HM _ _ (unhide HT2), ((unhide HK1).mono (fun _ _ f => f.elim)).trans ((unhide HK2).mono (fun _ _ e => Or.inl e))⟩
      · have h3' : (kd == 3) = false := beq_eq_false_iff_ne.2 h3
        by_cases h4 : kd = 4
        · subst h4
          obtain ⟨i, hi, hi3⟩ := mod3 wh
          obtain ⟨pv, rv⟩ := slot_cells (unhide HT1) i hi3
          obtain ⟨pp, hpp⟩ : ∃ pp, slotP (st i) = .pointer pp := ⟨_, rfl⟩
          obtain ⟨rp, hrp⟩ : ∃ rp, slotR (st i) = .pointer rp := ⟨_, rfl⟩
          rw [hpp] at pv
          rw [hrp] at rv
          have hi0 : (0 : Int) ≤ (i : Int) := by omega
          have hi3' : (i : Int) < 3 := by omega
          have hwho := who_any wh
          rw [hi] at hwho
          have HWH := hide hwho
          have hVlt := lt_of_block (unhide HT1).blk
          obtain ⟨r, hrc⟩ := pair_read ((unhide HT1).keep (Keeps.refl _ w1).drew) hN i a
          unfold ReadCalls at hrc
          rw [hpp, hrp] at hrc
          have HRC := hide hrc
          have hno : ¬ slotOwn (st i) w.heap.size := fun h => by have := ((unhide HT).slot_own h).1; omega
          have hnV : ¬ slotOwn (st i) V := fun ⟨S, R, hs, h⟩ => (unhide HT).free i S R hs V (h.imp Or.inl Or.inl) rfl
          clear hwho hi hpp hrp hrc
          go_enter Try.func34, Try.ntmps34
          go_wp2_with fail
          rw [← unhide HW1]
          go_region_held3 (fun w' => w'.cell? ⟨w.heap.size, 0, none⟩ = some (.int .i64 wh) ∧ w'.cell? ⟨V, i, none⟩ = some (.pointer pp) ∧ w'.cell? ⟨w.heap.size, 2, none⟩ = some (.int .i64 a))
            (go_keep)
            (first
              | (go_at_call 45; refine (unhide HWH _).mono ?_; rintro e wa ⟨rfl, rfl⟩)
              | (go_at_call 14; refine (unhide HRC).mono ?_; rintro e w3 ⟨vo, vn, vc, rfl, hk3, hc3⟩; have d0 := (hk3.cell (o := 0) hlw hno).trans c0; have dv := (hk3.cell (o := i) hVlt hnV).trans pv; have d2 := (hk3.cell (o := 2) hlw hno).trans c2))
          have e0 := (hk3.cell (o := 0) hlw hno).trans c0
          have e2 := (hk3.cell (o := 2) hlw hno).trans c2
          have ev := (hk3.cell (o := 3 + i) hVlt hnV).trans rv
          have hlw3 : w.heap.size < w3.heap.size := Nat.lt_of_lt_of_le hlw hk3.size
          have hVlt3 : V < w3.heap.size := Nat.lt_of_lt_of_le hVlt hk3.size
          have HC3 := hide (hc3 w3.drew (Keeps.refl _ _).drew)
          clear hc3 hk3 d0 dv d2 HRC
          go_wp2_with fail
          go_region_held3 (fun w' => w'.cell? ⟨w.heap.size, 0, none⟩ = some (.int .i64 wh) ∧ w'.cell? ⟨V, 3 + i, none⟩ = some (.pointer rp) ∧ w'.cell? ⟨w.heap.size, 2, none⟩ = some (.int .i64 a))
            (go_keep)
            (first
              | (go_at_call 45; refine (unhide HWH _).mono ?_; rintro e wa ⟨rfl, rfl⟩)
              | (go_at_call 52; refine (unhide HC3).mono ?_; rintro e w4 ⟨v2, n2, c2', rfl, hk4, ht4, hq4⟩; have d0 := (hk4.cell (o := 0) hlw hno).trans c0; have dv := (hk4.cell (o := 3 + i) hVlt hnV).trans rv; have d2 := (hk4.cell (o := 2) hlw hno).trans c2))
          obtain ⟨st', t4⟩ := ht4
          have HT4 := hide t4
          have HQ4 := hide hq4
          have HKB := hide (((unhide HK1).mono (fun _ _ f => f.elim)).trans ((Keeps.refl _ w1).drew.trans (hk4.mono (fun k _ h => Or.inr ⟨i, h⟩))) : Keeps (fun k => k = V ∨ ∃ i, slotOwn (st i) k) w w4)
          clear t4 hq4 hk4 d0 dv d2 HC3
          go_wp2_with fail
          refine (unhide HQ4).mono ?_
          rintro e w5 ⟨rfl, n, rfl⟩
          go_wp2
          go_ret
          exact ⟨rfl, st', (unhide HT4).keep (keeps_drewN _ _), (unhide HKB).trans ((keeps_drewN _ _).mono (fun _ _ f => f.elim))⟩
        · have h4' : (kd == 4) = false := beq_eq_false_iff_ne.2 h4
          by_cases h5 : kd = 5
          · subst h5
            have HC := hide (acts_any w1 V B N st (unhide HT1) hB1 hN _ (unhide HO1) ha)
            simp only [OpA.cells] at HC
            go_enter Try.func34, Try.ntmps34
            go_wp2_with fail
            rw [← unhide HW1]
            refine (unhide HC).mono ?_
            rintro e w2 ⟨rfl, st', t2, hk2⟩
            have HT2 := hide t2
            have HK2 := hide hk2
            clear t2 hk2 HC
            go_wp2
            go_ret
            exact ⟨rfl, st', unhide HT2, ((unhide HK1).mono (fun _ _ f => f.elim)).trans (unhide HK2)⟩
          · have h5' : (kd == 5) = false := beq_eq_false_iff_ne.2 h5
            by_cases h6 : kd = 6
            · subst h6
              have HC := hide (acts_any w1 V B N st (unhide HT1) hB1 hN _ (unhide HO1) ha)
              simp only [OpA.cells] at HC
              go_enter Try.func34, Try.ntmps34
              go_wp2_with fail
              rw [← unhide HW1]
              refine (unhide HC).mono ?_
              rintro e w2 ⟨rfl, st', t2, hk2⟩
              have HT2 := hide t2
              have HK2 := hide hk2
              clear t2 hk2 HC
              go_wp2
              go_ret
              exact ⟨rfl, st', unhide HT2, ((unhide HK1).mono (fun _ _ f => f.elim)).trans (unhide HK2)⟩
            · have h6' : (kd == 6) = false := beq_eq_false_iff_ne.2 h6
              by_cases h7 : kd = 7
              · subst h7
                have HC := hide (acts_any w1 V B N st (unhide HT1) hB1 hN _ (unhide HO1) ha)
                simp only [OpA.cells] at HC
                go_enter Try.func34, Try.ntmps34
                go_wp2_with fail
                rw [← unhide HW1]
                refine (unhide HC).mono ?_
                rintro e w2 ⟨rfl, st', t2, hk2⟩
                have HT2 := hide t2
                have HK2 := hide hk2
                clear t2 hk2 HC
                go_wp2
                go_ret
                exact ⟨rfl, st', unhide HT2, ((unhide HK1).mono (fun _ _ f => f.elim)).trans (unhide HK2)⟩
              · have h7' : (kd == 7) = false := beq_eq_false_iff_ne.2 h7
                by_cases h8 : kd = 8
                · subst h8
                  have HC := hide (looks_any w1 V B N st (unhide HT1) hB1 (by omega) _ (unhide HO1))
                  simp only [OpA.cells] at HC
                  go_enter Try.func34, Try.ntmps34
                  go_wp2_with fail
                  rw [← unhide HW1]
                  refine (unhide HC).mono ?_
                  rintro e w2 ⟨rfl, st', t2, hk2⟩
                  have HT2 := hide t2
                  have HK2 := hide hk2
                  clear t2 hk2 HC
                  go_wp2
                  go_ret
                  exact ⟨rfl, st', unhide HM _ _ (unhide HT2), ((unhide HK1).mono (fun _ _ f => f.elim)).trans (unhide HK2)⟩
                · have h8' : (kd == 8) = false := beq_eq_false_iff_ne.2 h8
                  by_cases h9 : kd = 9
                  · subst h9
                    have HC := hide (looks_any w1 V B N st (unhide HT1) hB1 (by omega) _ (unhide HO1))
                    simp only [OpA.cells] at HC
                    go_enter Try.func34, Try.ntmps34
                    go_wp2_with fail
                    rw [← unhide HW1]
                    refine (unhide HC).mono ?_
                    rintro e w2 ⟨rfl, st', t2, hk2⟩
                    have HT2 := hide t2
                    have HK2 := hide hk2
                    clear t2 hk2 HC
                    go_wp2
                    go_ret
                    exact ⟨rfl, st', unhide HM _ _ (unhide HT2), ((unhide HK1).mono (fun _ _ f => f.elim)).trans (unhide HK2)⟩
                  · have h9' : (kd == 9) = false := beq_eq_false_iff_ne.2 h9
                    by_cases h10 : kd = 10
                    · subst h10
                      have HC := hide (looks_any w1 V B N st (unhide HT1) hB1 (by omega) _ (unhide HO1))
                      simp only [OpA.cells] at HC
                      go_enter Try.func34, Try.ntmps34
                      go_wp2_with fail
                      rw [← unhide HW1]
                      refine (unhide HC).mono ?_
                      rintro e w2 ⟨rfl, st', t2, hk2⟩
                      have HT2 := hide t2
                      have HK2 := hide hk2
                      clear t2 hk2 HC
                      go_wp2
                      go_ret
                      exact ⟨rfl, st', unhide HM _ _ (unhide HT2), ((unhide HK1).mono (fun _ _ f => f.elim)).trans (unhide HK2)⟩
                    · have h10' : (kd == 10) = false := beq_eq_false_iff_ne.2 h10
                      by_cases h11 : kd = 11
                      · subst h11
                        have HC := hide (looks_any w1 V B N st (unhide HT1) hB1 (by omega) _ (unhide HO1))
                        simp only [OpA.cells] at HC
                        go_enter Try.func34, Try.ntmps34
                        go_wp2_with fail
                        rw [← unhide HW1]
                        refine (unhide HC).mono ?_
                        rintro e w2 ⟨rfl, st', t2, hk2⟩
                        have HT2 := hide t2
                        have HK2 := hide hk2
                        clear t2 hk2 HC
                        go_wp2
                        go_ret
                        exact ⟨rfl, st', unhide HM _ _ (unhide HT2), ((unhide HK1).mono (fun _ _ f => f.elim)).trans (unhide HK2)⟩
                      · have h11' : (kd == 11) = false := beq_eq_false_iff_ne.2 h11
                        by_cases h12 : kd = 12
                        · subst h12
                          have HC := hide (looks_any w1 V B N st (unhide HT1) hB1 (by omega) _ (unhide HO1))
                          simp only [OpA.cells] at HC
                          go_enter Try.func34, Try.ntmps34
                          go_wp2_with fail
                          rw [← unhide HW1]
                          refine (unhide HC).mono ?_
                          rintro e w2 ⟨rfl, st', t2, hk2⟩
                          have HT2 := hide t2
                          have HK2 := hide hk2
                          clear t2 hk2 HC
                          go_wp2
                          go_ret
                          exact ⟨rfl, st', unhide HM _ _ (unhide HT2), ((unhide HK1).mono (fun _ _ f => f.elim)).trans (unhide HK2)⟩
                        · have h12' : (kd == 12) = false := beq_eq_false_iff_ne.2 h12
                          go_enter Try.func34, Try.ntmps34
                          go_wp2
                          go_ret
                          rw [← unhide HW1]
                          exact ⟨rfl, st, unhide HM _ _ (unhide HT1), (unhide HK1).mono (fun _ _ f => f.elim)⟩

end Go.Proofs.Ytjmbcelkhiopeaa
