import Derived.Test.YtdkihkgmldnpmabZc
namespace Go.Proofs.Ytdkihkgmldnpmab
open Go.RowKit Go.Maps

set_option maxRecDepth 100000 in
set_option maxHeartbeats 2000000 in
theorem makes_load (w : World) (V B : Nat) (st : Nat → Slot) (t : Trio w V B st) (hB : B ≤ w.heap.size) (o : OpA) (hO : OpAt w B o) (hkd : o.kind = 2) :
    Calls Try.prog 35 #[.pointer (some ⟨V, 0, none⟩), .agg o.cells] w fun e w' => e = .returned (.bool true) ∧ ∃ st', Trio w' V B st' ∧ Keeps (fun k => k = V) w w' ∧ Grows w st st' := by
  obtain ⟨wh, kd, a, bv, bytes⟩ := o
  simp only at hkd
  subst hkd
  obtain ⟨bo, bc, hbv⟩ := hO.bits.form
  simp only [bs_length] at hbv
  subst hbv
  simp only [OpA.cells]
  obtain ⟨i, hi, hi3⟩ := mod3 wh
  obtain ⟨w1, hw1⟩ : ∃ w1, w1 = w.alloc (.cells #[.int .i64 wh, .int .i64 2, .int .i64 a, .slice bo bytes.length bc] 39) := ⟨_, rfl⟩
  have hb1 : w1.heap[w.heap.size]? = some (.cells #[.int .i64 wh, .int .i64 2, .int .i64 a, .slice bo bytes.length bc] 39 (0, 0)) := by rw [hw1]; exact heap_alloc_new w _
  have hk1 : Keeps (fun _ => False) w w1 := by rw [hw1]; exact (Keeps.refl _ _).alloc _
  have t1 := t.keep hk1
  have hC1 : Cells w1 (.slice bo bytes.length bc) (bs bytes) := hO.bits.keepF hk1
  have HCP := hide (copyBytes_any w1 _ bytes hC1 hO.len)
  have HRG := hide hO.rng
  have HLN := hide hO.len
  have hwho := who_any wh w1
  rw [hi] at hwho
  have HWH := hide hwho
  have c0 := cell_of_blk hb1 0
  have c1 := cell_of_blk hb1 1
  have c3 := cell_of_blk hb1 3
  simp at c0 c1 c3
  have hi0 : (0 : Int) ≤ (i : Int) := by omega
  have hi3' : (i : Int) < 3 := by omega
  have HB1 := hide hb1
  have HW1 := hide hw1
  have HK1 := hide hk1
  have HT1 := hide t1
  have HC1 := hide hC1
  clear t hO hb1 hw1 hk1 t1 hwho hi hC1
  go_enter Try.func35, Try.ntmps35
  go_wp2_with fail
  rw [← unhide HW1]
  refine (unhide HWH).mono ?_; rintro e w1 ⟨rfl, rfl⟩
  go_wp2_with fail
  refine (unhide HCP).mono ?_
  rintro e w2 ⟨v, rfl, hrow, hk2⟩
  have hCv := cells_row hrow (bs_length _)
  have hC2 := (unhide HC1).keepF hk2
  obtain ⟨ev, hmade⟩ := made_load w2 B (Nat.le_trans (Nat.le_trans hB (unhide HK1).size) hk2.size) a v _ bytes (unhide HRG) hCv hC2
  have HM := hide hmade
  have hb2 := (hk2.block _ (lt_of_block (unhide HB1)) id).trans (unhide HB1)
  have d2 := cell_of_blk hb2 2
  have d3 := cell_of_blk hb2 3
  simp at d2 d3
  have HB2 := hide hb2
  have HCV := hide hCv
  have HC2 := hide hC2
  have HT2 := hide ((unhide HT1).keep hk2)
  have HK2 := hide ((unhide HK1).trans hk2)
  clear hrow hk2 hCv hC2 hmade hb2 HCP HC1 c0 c1 c3
  go_wp2_with fail
  refine (unhide HM).mono ?_
  rintro e w3 ⟨pp, rfl, hk3, hc3⟩
  have HC3 := hide hc3
  have f2 := (hk3.cell (o := 2) (lt_of_block (unhide HB2)) id).trans d2
  have f3 := (hk3.cell (o := 3) (lt_of_block (unhide HB2)) id).trans d3
  clear hc3 hk3
  go_wp2_with fail
  refine (unhide HC3).mono ?_
  rintro e w4 ⟨rp, rfl, s, hsp, hsr, hfr⟩
  have g3 := (hfr.1.cell (o := 3) (lt_of_block (unhide HB2)) id).trans d3
  have HE := hide (eqBytes_any w4 _ _ bytes bytes ((unhide HCV).keepF hfr.1) ((unhide HC2).keepF hfr.1) (by have := unhide HLN; unfold maxLen; omega))
  rw [decide_eq_true rfl] at HE
  have HFR := hide hfr
  have HSP := hide hsp
  have HSR := hide hsr
  clear hfr hsp hsr HC3 HM d2 d3 f2 f3
  go_wp2_with fail
  refine (unhide HE).mono ?_
  rintro e w5 ⟨rfl, q, rfl⟩
  have hfr5 : Fresh w2 (w4.drewN q) B s := ⟨(unhide HFR).1.drewN q, fun x y e => ⟨((unhide HFR).2 x y e).1.keep (keeps_drewN w4 q) (fun _ _ => id), ((unhide HFR).2 x y e).2⟩⟩
  have hst := (unhide HT2).store i hi3 s hfr5.1 hfr5.2
  have HS := hide hst.1
  have HSK := hide ((unhide HK2).any.trans hst.2)
  have HGR := hide (grows_put (st := st) (i := i) (unhide HK2).size (fun x y e => (hfr5.2 x y e).2))
  have hTV := (unhide HT2).keep hfr5.1
  obtain ⟨pv, rv⟩ := slot_cells hTV i hi3
  have fv : ∀ j, (w4.drewN q).frozen? ⟨V, j, none⟩ = false := frozen_of_blk hTV.blk
  have hsp := unhide HSP
  have hsr := unhide HSR
  clear hst hTV hfr5 HE HFR g3 HSP HSR
  generalize w4.drewN q = w6 at *
  rcases s with _ | ⟨sa, sb⟩
  all_goals
    simp only [slotP, slotR, Option.map_none, Option.map_some] at hsp hsr HS HSK
    simp only [Value.pointer.injEq] at hsp hsr
    subst hsp hsr
    go_wp2
    go_ret
    exact ⟨ret_bool (by first | rfl | simp), _, unhide HS, unhide HSK, unhide HGR⟩

set_option maxRecDepth 100000 in
set_option maxHeartbeats 4000000 in
theorem step_any (w : World) (V B : Nat) (st : Nat → Slot) (t : Trio w V B st) (hB : B ≤ w.heap.size) (o : OpA) (hO : OpAt w B o) :
    Calls Try.prog 20 #[.pointer (some ⟨V, 0, none⟩), .agg o.cells] w fun e w' => e = .returned (.bool true) ∧ ∃ st', Trio w' V B st' ∧ Keeps (fun k => k = V ∨ ∃ i, slotOwn (st i) k) w w' ∧ Grows w st st' := by
  obtain ⟨wh, kd, a, bv, bytes⟩ := o
  obtain ⟨bo, bc, hbv⟩ := hO.bits.form
  simp only [bs_length] at hbv
  subst hbv
  simp only [OpA.cells]
  obtain ⟨i, hi, hi3⟩ := mod3 wh
  obtain ⟨w1, hw1⟩ : ∃ w1, w1 = w.alloc (.cells #[.int .i64 wh, .int .i64 kd, .int .i64 a, .slice bo bytes.length bc] 39) := ⟨_, rfl⟩
  have hb1 : w1.heap[w.heap.size]? = some (.cells #[.int .i64 wh, .int .i64 kd, .int .i64 a, .slice bo bytes.length bc] 39 (0, 0)) := by rw [hw1]; exact heap_alloc_new w _
  have hk1 : Keeps (fun _ => False) w w1 := by rw [hw1]; exact (Keeps.refl _ _).alloc _
  have t1 := t.keep hk1
  have c0 := cell_of_blk hb1 0
  have c1 := cell_of_blk hb1 1
  have c2 := cell_of_blk hb1 2
  have c3 := cell_of_blk hb1 3
  simp at c0 c1 c2 c3
  obtain ⟨pv, rv⟩ := slot_cells t1 i hi3
  obtain ⟨pp, hpp⟩ : ∃ pp, slotP (st i) = .pointer pp := ⟨_, rfl⟩
  obtain ⟨rp, hrp⟩ : ∃ rp, slotR (st i) = .pointer rp := ⟨_, rfl⟩
  rw [hpp] at pv
  rw [hrp] at rv
  have hi0 : (0 : Int) ≤ (i : Int) := by omega
  have hi3' : (i : Int) < 3 := by omega
  have HW1 := hide hw1
  have HK1 := hide hk1
  have HT1 := hide t1
  have HPP := hide hpp
  have HRP := hide hrp
  have HB1 := hide hb1
  have hO2 : OpAt w1.drew.drew B ⟨wh, kd, a, .slice bo bytes.length bc, bytes⟩ := hO.kept (hk1.trans (Keeps.refl _ w1).drew.drew) (fun _ f => f.elim)
  have HO2 := hide hO2
  have hwho := who_any wh
  rw [hi] at hwho
  have HWH := hide hwho
  have hno : ¬ ∃ j, slotOwn (st j) w.heap.size := by
    rintro ⟨j, h⟩
    have := (t.own_lo h).2
    omega
  have HNO := hide hno
  clear t hO hb1 hw1 hk1 t1 hwho hi hpp hrp hO2 hno
  go_enter Try.func20, Try.ntmps20
  go_wp2_with fail
  rw [← unhide HW1]
  go_region_held3 (fun w' => w'.cell? ⟨w.heap.size, 0, none⟩ = some (.int .i64 wh) ∧ w'.cell? ⟨V, i, none⟩ = some (.pointer pp))
    (go_keep)
    (first | (go_at_call 8; refine (unhide HWH _).mono ?_; rintro e wa ⟨rfl, rfl⟩))
  go_wp2_with fail
  go_region_held3 (fun w' => w'.cell? ⟨w.heap.size, 0, none⟩ = some (.int .i64 wh) ∧ w'.cell? ⟨V, 3 + i, none⟩ = some (.pointer rp))
    (go_keep)
    (first | (go_at_call 8; refine (unhide HWH _).mono ?_; rintro e wa ⟨rfl, rfl⟩))
  have t2 := (unhide HT1).keep (Keeps.refl _ w1).drew.drew
  have HK2 := hide ((unhide HK1).trans (Keeps.refl _ w1).drew.drew)
  have hB2 : B ≤ w1.drew.drew.heap.size := Nat.le_trans hB (unhide HK2).size
  have HT2 := hide t2
  have HB2 := hide hB2
  clear t2 hB2
  by_cases h1 : kd = 1
  · subst h1
    have HM := hide (makes_new w1.drew.drew V B st (unhide HT2) (unhide HB2) _ (unhide HO2) rfl)
    simp only [OpA.cells] at HM
    go_wp2_with fail
    refine (unhide HM).mono ?_
    rintro e w3 ⟨rfl, st', t3, hk3, hg3⟩
    have HT3 := hide t3
    have HK3 := hide hk3
    have HG3 := hide hg3
    clear t3 hk3 hg3
    go_wp2
    go_ret
    exact ⟨rfl, st', unhide HT3, (unhide HK2).any.trans ((unhide HK3).mono (fun _ _ e => Or.inl e)), fun j k h => (unhide HG3 j k h).imp id (Nat.le_trans (unhide HK2).size)⟩
  · have h1' : (kd == 1) = false := beq_eq_false_iff_ne.2 h1
    clear h1
    by_cases h2 : kd = 2
    · subst h2
      have HM := hide (makes_load w1.drew.drew V B st (unhide HT2) (unhide HB2) _ (unhide HO2) rfl)
      simp only [OpA.cells] at HM
      go_wp2_with fail
      refine (unhide HM).mono ?_
      rintro e w3 ⟨rfl, st', t3, hk3, hg3⟩
      have HT3 := hide t3
      have HK3 := hide hk3
      have HG3 := hide hg3
      clear t3 hk3 hg3
      go_wp2
      go_ret
      exact ⟨rfl, st', unhide HT3, (unhide HK2).any.trans ((unhide HK3).mono (fun _ _ e => Or.inl e)), fun j k h => (unhide HG3 j k h).imp id (Nat.le_trans (unhide HK2).size)⟩
    · have h2' : (kd == 2) = false := beq_eq_false_iff_ne.2 h2
      clear h2
      by_cases h3 : kd = 3
      · subst h3
        obtain ⟨x, y, hp⟩ := both_take (unhide HT2) i
        unfold Both at hp
        rw [unhide HPP, unhide HRP] at hp
        have HP := hide hp
        clear hp
        go_wp2_with fail
        refine (unhide HP).mono ?_
        rintro e w3 ⟨rfl, -, hc3⟩
        have HC3 := hide hc3
        clear hc3 HP
        go_wp2_with fail
        refine (unhide HC3).mono ?_
        rintro e w4 ⟨rfl, st', t4, hk4, hg4⟩
        have HT4 := hide t4
        have HK4 := hide hk4
        have HG4 := hide hg4
        clear t4 hk4 hg4 HC3
        go_wp2
        go_ret
        exact ⟨ret_bool (by first | rfl | simp), st', unhide HT4, (unhide HK2).any.trans ((unhide HK4).mono (fun _ _ e => Or.inr e)), fun j k h => (unhide HG4 j k h).imp id (Nat.le_trans (unhide HK2).size)⟩
      · have h3' : (kd == 3) = false := beq_eq_false_iff_ne.2 h3
        clear h3
        by_cases h4 : kd = 4
        · subst h4
          obtain ⟨x, hp⟩ := both_give (unhide HT2) i a
          unfold Both at hp
          rw [unhide HPP, unhide HRP] at hp
          have HP := hide hp
          clear hp
          go_wp2_with fail
          refine (unhide HP).mono ?_
          rintro e w3 ⟨rfl, hkx, hc3⟩
          have g2 : w3.cell? ⟨w.heap.size, 2, none⟩ = some (.int .i64 a) := (hkx.cell (o := 2) (lt_of_block (unhide HB1)) (unhide HNO)).trans c2
          clear hkx
          have HC3 := hide hc3
          clear hc3 HP
          go_wp2_with fail
          refine (unhide HC3).mono ?_
          rintro e w4 ⟨rfl, st', t4, hk4, hg4⟩
          have HT4 := hide t4
          have HK4 := hide hk4
          have HG4 := hide hg4
          clear t4 hk4 hg4 HC3
          go_wp2
          go_ret
          exact ⟨ret_bool (by first | rfl | simp), st', unhide HT4, (unhide HK2).any.trans ((unhide HK4).mono (fun _ _ e => Or.inr e)), fun j k h => (unhide HG4 j k h).imp id (Nat.le_trans (unhide HK2).size)⟩
        · have h4' : (kd == 4) = false := beq_eq_false_iff_ne.2 h4
          clear h4
          by_cases h5 : kd = 5
          · subst h5
            have hp := both_mark (unhide HT2) i
            unfold Both at hp
            rw [unhide HPP, unhide HRP] at hp
            have HP := hide hp
            clear hp
            go_wp2_with fail
            refine (unhide HP).mono ?_
            rintro e w3 ⟨rfl, -, hc3⟩
            have HC3 := hide hc3
            clear hc3 HP
            go_wp2_with fail
            refine (unhide HC3).mono ?_
            rintro e w4 ⟨rfl, st', t4, hk4, hg4⟩
            have HT4 := hide t4
            have HK4 := hide hk4
            have HG4 := hide hg4
            clear t4 hk4 hg4 HC3
            go_wp2
            go_ret
            exact ⟨rfl, st', unhide HT4, (unhide HK2).any.trans ((unhide HK4).mono (fun _ _ e => Or.inr e)), fun j k h => (unhide HG4 j k h).imp id (Nat.le_trans (unhide HK2).size)⟩
          · have h5' : (kd == 5) = false := beq_eq_false_iff_ne.2 h5
            clear h5
            by_cases h6 : kd = 6
            · subst h6
              have hp := both_undo (unhide HT2) i
              unfold Both at hp
              rw [unhide HPP, unhide HRP] at hp
              have HP := hide hp
              clear hp
              go_wp2_with fail
              refine (unhide HP).mono ?_
              rintro e w3 ⟨rfl, -, hc3⟩
              have HC3 := hide hc3
              clear hc3 HP
              go_wp2_with fail
              refine (unhide HC3).mono ?_
              rintro e w4 ⟨rfl, st', t4, hk4, hg4⟩
              have HT4 := hide t4
              have HK4 := hide hk4
              have HG4 := hide hg4
              clear t4 hk4 hg4 HC3
              go_wp2
              go_ret
              exact ⟨rfl, st', unhide HT4, (unhide HK2).any.trans ((unhide HK4).mono (fun _ _ e => Or.inr e)), fun j k h => (unhide HG4 j k h).imp id (Nat.le_trans (unhide HK2).size)⟩
            · have h6' : (kd == 6) = false := beq_eq_false_iff_ne.2 h6
              clear h6
              by_cases h7 : kd = 7
              · subst h7
                have hp := both_settle (unhide HT2) i
                unfold Both at hp
                rw [unhide HPP, unhide HRP] at hp
                have HP := hide hp
                clear hp
                go_wp2_with fail
                refine (unhide HP).mono ?_
                rintro e w3 ⟨rfl, -, hc3⟩
                have HC3 := hide hc3
                clear hc3 HP
                go_wp2_with fail
                refine (unhide HC3).mono ?_
                rintro e w4 ⟨rfl, st', t4, hk4, hg4⟩
                have HT4 := hide t4
                have HK4 := hide hk4
                have HG4 := hide hg4
                clear t4 hk4 hg4 HC3
                go_wp2
                go_ret
                exact ⟨rfl, st', unhide HT4, (unhide HK2).any.trans ((unhide HK4).mono (fun _ _ e => Or.inr e)), fun j k h => (unhide HG4 j k h).imp id (Nat.le_trans (unhide HK2).size)⟩
              · have h7' : (kd == 7) = false := beq_eq_false_iff_ne.2 h7
                clear h7
                have HM := hide (asks_any w1.drew.drew V B st (unhide HT2) _ (unhide HO2))
                simp only [OpA.cells] at HM
                by_cases hq : kd = 8 ∨ kd = 9 ∨ kd = 10
                · rcases hq with rfl | rfl | rfl
                  all_goals
                    go_wp2_with fail
                    refine (unhide HM).mono ?_
                    rintro e w3 ⟨rfl, t3, hk3⟩
                    have HT3 := hide t3
                    have HK3 := hide hk3
                    clear t3 hk3
                    go_wp2
                    go_ret
                    exact ⟨rfl, st, unhide HT3, ((unhide HK2).trans (unhide HK3)).any, Grows.refl _ _⟩
                · have h8' : (kd == 8) = false := beq_eq_false_iff_ne.2 (by omega)
                  have h9' : (kd == 9) = false := beq_eq_false_iff_ne.2 (by omega)
                  have h10' : (kd == 10) = false := beq_eq_false_iff_ne.2 (by omega)
                  clear hq HM
                  go_wp2
                  go_ret
                  exact ⟨rfl, st, unhide HT2, (unhide HK2).any, Grows.refl _ _⟩

end Go.Proofs.Ytdkihkgmldnpmab
