import Derived.Test.YtonodcmbbgpjjaaDoorPg
namespace Go.Proofs.YtonodcmbbgpjjaaDoor
open Go.RowKit Go.Maps
set_option maxRecDepth 100000 in
set_option maxHeartbeats 8000000 in
theorem joins_4 (S : List FieldA) (sv u v bv : Value) (l b : List ValA) (hh : Bool) (vals : List ValA) (w : World) (hE : Env w) (hS : FldsAt w sv S) (hl : ValsAt w v l) (hI : InR l) (hB : ValsAt w bv b) (hIb : InR b) (hr : ValsAt w u vals) (hlen : l.length + b.length ≤ 4398046511104) (h1 : (runO S l hh vals).e = 0) (h2 : (runO S b (runO S l hh vals).here (runO S l hh vals).vals).e = 0) (h3 : (verifyA S (l ++ b)).2.2 = 0) :
    Calls Tryd.prog 6 #[.agg #[sv], v, bv, .agg #[.bool hh, u]] w fun e w' => e = .returned (.bool true) ∧ Keeps (fun _ => False) w w' := by
  obtain ⟨hO3, hT3⟩ := joins_pure h1 h2 h3
  have hD1 : (traceO S l hh vals).length ≤ 96 := trace_len h1
  have hD2 : (traceO S b (runO S l hh vals).here (runO S l hh vals).vals).length ≤ 96 := trace_len h2
  have hPL := trace_places h2
  have hs1 := steps_len h1
  have hs2 := steps_len h2
  obtain ⟨E1, H1, vs1, st1, dp1, HO1⟩ : ∃ a b c d e, Hid (runO S l hh vals = ⟨a, b, c, d, e⟩) := ⟨_, _, _, _, _, rfl⟩
  obtain ⟨E2, H2, vs2, st2, dp2, HO2⟩ : ∃ a b' c d e, Hid (runO S b H1 vs1 = ⟨a, b', c, d, e⟩) := ⟨_, _, _, _, _, rfl⟩
  obtain ⟨E3, H3, vs3, st3, dp3, HO3⟩ : ∃ a b' c d e, Hid (runO S (l ++ b) hh vals = ⟨a, b', c, d, e⟩) := ⟨_, _, _, _, _, rfl⟩
  obtain ⟨d3, at3, V3, HV3⟩ : ∃ a b' c, Hid (verifyA S (l ++ b) = (a, b', c)) := ⟨_, _, _, rfl⟩
  have hIL : InR (l ++ b) := fun i hi => (List.mem_append.1 hi).elim (hI i) (hIb i)
  have hLL : (l ++ b).length = l.length + b.length := List.length_append
  obtain ⟨L, hL⟩ : ∃ L, l ++ b = L := ⟨_, rfl⟩
  rw [hL] at HO3 HV3 hIL hLL
  have HLL := hide hLL
  rw [hL] at hO3 hT3
  rw [unhide HO1] at h1 h2 hO3 hT3 hD2 hPL hs1 hs2
  simp only at h1 h2 hO3 hT3 hD2 hPL hs1 hs2
  rw [unhide HO2] at h2 hO3 hs2
  simp only at h2 hO3 hs2
  subst h1
  subst h2
  rw [unhide HO3] at hO3
  simp only [OutA.mk.injEq] at hO3
  obtain ⟨rfl, rfl, rfl, hst3, hdp3⟩ := hO3
  have bst : ((st3 : Int) == (st1 : Int) + (st2 : Int)) = true := by rw [beq_iff_eq]; omega
  have HDP := hide hdp3
  obtain ⟨D1, HD1⟩ : ∃ D, Hid (traceO S l hh vals = D) := ⟨_, rfl⟩
  obtain ⟨D2, HD2⟩ : ∃ D, Hid (traceO S b H1 vs1 = D) := ⟨_, rfl⟩
  obtain ⟨D3, HD3⟩ : ∃ D, Hid (traceO S L hh vals = D) := ⟨_, rfl⟩
  have hv2l : vs3.length ≤ maxLen := by have := runO_len S L hh vals; rw [unhide HO3] at this; unfold maxLen; simp only at this; omega
  rw [unhide HD1, unhide HD2, unhide HD3] at hT3
  rw [unhide HD1] at hD1
  rw [unhide HD2] at hD2
  have HT3 := hide hT3
  have HPL : Hid (∀ y ∈ D2, y.1 ≤ 96) := fun y hy => hPL y (by rw [unhide HD2]; exact hy)
  have hDl : D3.length = D1.length + D2.length := by rw [hT3, List.length_append, shift_length]
  have HDL := hide hDl
  have b3 : ((D3.length : Int) != (D1.length : Int) + (D2.length : Int)) = false := by rw [bne_eq_false_iff_eq]; omega
  have hla : l.length ≤ 4398046511104 := by omega
  clear hst3 hdp3 hT3 hDl h3
  obtain ⟨so, sc, rfl⟩ := RowAt.form hS
  obtain ⟨uo, uc, rfl⟩ := RowAt.form hr
  obtain ⟨vo, vc, rfl⟩ := RowAt.form hl
  obtain ⟨bo, bc, rfl⟩ := RowAt.form hB
  have hB0 := hB
  obtain ⟨Wb, hWb, hkb, hbs, s0, r0, r1⟩ := two_boxes w (.slice so S.length sc) (.slice uo vals.length uc) hh
  have hb0 : w.heap.size < Wb.heap.size := by omega
  have hWb' := hWb.symm
  have HB := hide hkb
  have HS := hide (hS.keepF hkb)
  have HL := hide (hl.keepF hkb)
  have HU := hide (hr.keepF hkb)
  have HE := hide (hE.keepF hkb)
  have HK0 := hide (Keeps.refl (fun _ => False) Wb)
  have HQ := hide (works_v Wb (unhide HE))
  have HBB := hide (hB0.keepF hkb)
  clear hE hS hl hr hkb hWb hB hB0 hLL
  go_enter Tryd.func6, Tryd.ntmps6
  go_wp2_with fail
  refine (unhide HQ).mono ?_
  rintro e w1 ⟨rfl, hk⟩
  have HK1 := hide hk
  clear hk HQ hWb'
  have s1 := ((unhide HK1).cell (o := 0) hb0 id).trans s0
  have r10 := ((unhide HK1).cell (o := 0) hbs id).trans r0
  have r11 := ((unhide HK1).cell (o := 1) hbs id).trans r1
  have q1 : w.heap.size < w1.heap.size := Nat.lt_of_lt_of_le hb0 (unhide HK1).size
  have p1 : w.heap.size + 1 < w1.heap.size := Nat.lt_of_lt_of_le hbs (unhide HK1).size
  have HQ := hide (run_u S _ _ (.slice vo l.length vc) l hh vals w1 ((unhide HE).keepF (unhide HK1)) ((unhide HS).keepF (unhide HK1)) ((unhide HL).keepF (unhide HK1)) hI ((unhide HU).keepF (unhide HK1)))
  rw [unhide HO1] at HQ
  simp only at HQ
  go_wp2_with fail
  refine (unhide HQ).mono ?_
  rintro e w2 ⟨xo, xc, rfl, hv2, hk⟩
  have HK2 := hide ((unhide HK1).trans hk)
  clear hk HQ s1 r10 r11
  have s2 := ((unhide HK2).cell (o := 0) hb0 id).trans s0
  have r20 := ((unhide HK2).cell (o := 0) hbs id).trans r0
  have r21 := ((unhide HK2).cell (o := 1) hbs id).trans r1
  have q2 : w.heap.size < w2.heap.size := Nat.lt_of_lt_of_le hb0 (unhide HK2).size
  have p2 : w.heap.size + 1 < w2.heap.size := Nat.lt_of_lt_of_le hbs (unhide HK2).size
  have k2a := kAlloc w2 (.cells #[.bool H1, .slice xo vs1.length xc, .int .i64 (st1 : Int), .int .i64 (dp1 : Int)] 34)
  have HX2 := hide (outB_new w2 H1 (.slice xo vs1.length xc) (st1 : Int) (dp1 : Int))
  have HK2a := hide ((unhide HK2).trans k2a)
  have HV2 := hide (hv2.keepF k2a)
  have HQ := hide (run_u S _ _ (.slice bo b.length bc) b H1 vs1 _ ((unhide HE).keepF (unhide HK2a)) ((unhide HS).keepF (unhide HK2a)) ((unhide HBB).keepF (unhide HK2a)) hIb (unhide HV2))
  rw [unhide HO2] at HQ
  simp only at HQ
  clear hv2 k2a
  go_wp2_with fail
  refine (unhide HQ).mono ?_
  rintro e w3 ⟨yo, yc, rfl, hv3, hk⟩
  have HK3 := hide ((unhide HK2a).trans hk)
  have k3a := kAlloc w3 (.cells #[.bool H3, .slice yo vs3.length yc, .int .i64 (st2 : Int), .int .i64 (dp2 : Int)] 34)
  have HX3 := hide (((unhide HX2).keep hk).keep k3a)
  have HY3 := hide (outB_new w3 H3 (.slice yo vs3.length yc) (st2 : Int) (dp2 : Int))
  have HVX3 := hide (((unhide HV2).keepF hk).keepF k3a)
  have HVY3 := hide (hv3.keepF k3a)
  have HK3a := hide ((unhide HK3).trans k3a)
  clear hk HQ s2 r20 r21 HX2 HV2 HK2a hv3 k3a
  have s3 := ((unhide HK3).cell (o := 0) hb0 id).trans s0
  have r30 := ((unhide HK3).cell (o := 0) hbs id).trans r0
  have r31 := ((unhide HK3).cell (o := 1) hbs id).trans r1
  have q3 : w.heap.size < w3.heap.size := Nat.lt_of_lt_of_le hb0 (unhide HK3).size
  have p3 : w.heap.size + 1 < w3.heap.size := Nat.lt_of_lt_of_le hbs (unhide HK3).size
  have HQ := hide (behind20_v _ (.slice vo l.length vc) (.slice bo b.length bc) l b ((unhide HL).keepF (unhide HK3a)) ((unhide HBB).keepF (unhide HK3a)) hlen)
  rw [hL] at HQ
  go_wp2_with fail
  refine (unhide HQ).mono ?_
  rintro e w4 ⟨lv, rfl, how, hk⟩
  rw [← unhide HLL] at how
  have hlv : ValsAt w4 lv L := rowAt_own how
  obtain ⟨lo, lc, rfl⟩ := RowAt.form hlv
  have HLV4 := hide hlv
  have HK4 := hide ((unhide HK3a).trans hk)
  have HX4 := hide ((unhide HX3).keep hk)
  have HY4 := hide ((unhide HY3).keep hk)
  have HVX4 := hide ((unhide HVX3).keepF hk)
  have HVY4 := hide ((unhide HVY3).keepF hk)
  clear hk HQ how hlv s3 r30 r31 HX3 HY3 HVX3 HVY3 HK3a
  have s4 := ((unhide HK4).cell (o := 0) hb0 id).trans s0
  have r40 := ((unhide HK4).cell (o := 0) hbs id).trans r0
  have r41 := ((unhide HK4).cell (o := 1) hbs id).trans r1
  have q4 : w.heap.size < w4.heap.size := Nat.lt_of_lt_of_le hb0 (unhide HK4).size
  have p4 : w.heap.size + 1 < w4.heap.size := Nat.lt_of_lt_of_le hbs (unhide HK4).size
  have HQ := hide (run_u S _ _ (.slice lo L.length lc) L hh vals w4 ((unhide HE).keepF (unhide HK4)) ((unhide HS).keepF (unhide HK4)) (unhide HLV4) hIL ((unhide HU).keepF (unhide HK4)))
  rw [unhide HO3] at HQ
  simp only at HQ
  go_wp2_with fail
  refine (unhide HQ).mono ?_
  rintro e w5 ⟨zo, zc, rfl, hv5, hk⟩
  have HK5 := hide ((unhide HK4).trans hk)
  have k5a := kAlloc w5 (.cells #[.bool H3, .slice zo vs3.length zc, .int .i64 (st3 : Int), .int .i64 (dp3 : Int)] 34)
  have HX5 := hide (((unhide HX4).keep hk).keep k5a)
  have HY5 := hide (((unhide HY4).keep hk).keep k5a)
  have HZ5 := hide (outB_new w5 H3 (.slice zo vs3.length zc) (st3 : Int) (dp3 : Int))
  have HVX5 := hide (((unhide HVX4).keepF hk).keepF k5a)
  have HVY5 := hide (((unhide HVY4).keepF hk).keepF k5a)
  have HVZ5 := hide (hv5.keepF k5a)
  have HLV5 := hide (((unhide HLV4).keepF hk).keepF k5a)
  have HK5a := hide ((unhide HK5).trans k5a)
  clear hk HQ s4 r40 r41 HX4 HY4 HVX4 HVY4 HLV4 hv5 k5a
  have s5 := ((unhide HK5).cell (o := 0) hb0 id).trans s0
  have r50 := ((unhide HK5).cell (o := 0) hbs id).trans r0
  have r51 := ((unhide HK5).cell (o := 1) hbs id).trans r1
  have q5 : w.heap.size < w5.heap.size := Nat.lt_of_lt_of_le hb0 (unhide HK5).size
  have p5 : w.heap.size + 1 < w5.heap.size := Nat.lt_of_lt_of_le hbs (unhide HK5).size
  have HQ := hide (verify_v S so sc L (.slice lo L.length lc) _ ((unhide HE).keepF (unhide HK5a)).ops ((unhide HE).keepF (unhide HK5a)).types ((unhide HS).keepF (unhide HK5a)) (unhide HLV5) hIL)
  rw [unhide HV3] at HQ
  simp only at HQ
  go_wp2_with fail
  refine (unhide HQ).mono ?_
  rintro e w6 ⟨rfl, hk⟩
  have HK6 := hide ((unhide HK5a).trans hk)
  have HX6 := hide ((unhide HX5).keep hk)
  have HY6 := hide ((unhide HY5).keep hk)
  have HZ6 := hide ((unhide HZ5).keep hk)
  have HVX6 := hide ((unhide HVX5).keepF hk)
  have HVY6 := hide ((unhide HVY5).keepF hk)
  have HVZ6 := hide ((unhide HVZ5).keepF hk)
  have HLV6 := hide ((unhide HLV5).keepF hk)
  clear hk HQ s5 r50 r51 HX5 HY5 HZ5 HVX5 HVY5 HVZ5 HLV5 HK5a
  have s6 := ((unhide HK6).cell (o := 0) hb0 id).trans s0
  have r60 := ((unhide HK6).cell (o := 0) hbs id).trans r0
  have r61 := ((unhide HK6).cell (o := 1) hbs id).trans r1
  have q6 : w.heap.size < w6.heap.size := Nat.lt_of_lt_of_le hb0 (unhide HK6).size
  have p6 : w.heap.size + 1 < w6.heap.size := Nat.lt_of_lt_of_le hbs (unhide HK6).size
  have HQ := hide (trace_u S _ _ (.slice vo l.length vc) l hh vals w6 ((unhide HE).keepF (unhide HK6)) ((unhide HS).keepF (unhide HK6)) ((unhide HL).keepF (unhide HK6)) hI ((unhide HU).keepF (unhide HK6)))
  rw [unhide HO1, unhide HD1] at HQ
  simp only at HQ
  go_wp2_with fail
  refine (unhide HQ).mono ?_
  rintro e w7 ⟨to, tc, rfl, ht7, hk⟩
  have HK7 := hide ((unhide HK6).trans hk)
  have HX7 := hide ((unhide HX6).keep hk)
  have HY7 := hide ((unhide HY6).keep hk)
  have HZ7 := hide ((unhide HZ6).keep hk)
  have HVX7 := hide ((unhide HVX6).keepF hk)
  have HVY7 := hide ((unhide HVY6).keepF hk)
  have HVZ7 := hide ((unhide HVZ6).keepF hk)
  have HLV7 := hide ((unhide HLV6).keepF hk)
  have HT7 := hide ht7
  clear hk HQ s6 r60 r61 ht7 HX6 HY6 HZ6 HVX6 HVY6 HVZ6 HLV6
  have s7 := ((unhide HK7).cell (o := 0) hb0 id).trans s0
  have r70 := ((unhide HK7).cell (o := 0) hbs id).trans r0
  have r71 := ((unhide HK7).cell (o := 1) hbs id).trans r1
  have q7 : w.heap.size < w7.heap.size := Nat.lt_of_lt_of_le hb0 (unhide HK7).size
  have p7 : w.heap.size + 1 < w7.heap.size := Nat.lt_of_lt_of_le hbs (unhide HK7).size
  obtain ⟨xl, x0, x1, x2, x3⟩ := unhide HX7
  have HQ := hide (trace_u S _ _ (.slice bo b.length bc) b H1 vs1 w7 ((unhide HE).keepF (unhide HK7)) ((unhide HS).keepF (unhide HK7)) ((unhide HBB).keepF (unhide HK7)) hIb (unhide HVX7))
  rw [unhide HO2, unhide HD2] at HQ
  simp only at HQ
  go_wp2_with fail
  refine (unhide HQ).mono ?_
  rintro e w8 ⟨uo2, uc2, rfl, ht8, hk⟩
  have HK8 := hide ((unhide HK7).trans hk)
  have HX8 := hide ((unhide HX7).keep hk)
  have HY8 := hide ((unhide HY7).keep hk)
  have HZ8 := hide ((unhide HZ7).keep hk)
  have HVY8 := hide ((unhide HVY7).keepF hk)
  have HVZ8 := hide ((unhide HVZ7).keepF hk)
  have HLV8 := hide ((unhide HLV7).keepF hk)
  have HT8 := hide (RowAt.keepF (unhide HT7) hk)
  have HU8 := hide ht8
  clear hk HQ s7 r70 r71 ht8 HX7 HY7 HZ7 HVX7 HVY7 HVZ7 HLV7 HT7 xl x0 x1 x2 x3
  have s8 := ((unhide HK8).cell (o := 0) hb0 id).trans s0
  have r80 := ((unhide HK8).cell (o := 0) hbs id).trans r0
  have r81 := ((unhide HK8).cell (o := 1) hbs id).trans r1
  have q8 : w.heap.size < w8.heap.size := Nat.lt_of_lt_of_le hb0 (unhide HK8).size
  have p8 : w.heap.size + 1 < w8.heap.size := Nat.lt_of_lt_of_le hbs (unhide HK8).size
  have HQ := hide (trace_u S _ _ (.slice lo L.length lc) L hh vals w8 ((unhide HE).keepF (unhide HK8)) ((unhide HS).keepF (unhide HK8)) (unhide HLV8) hIL ((unhide HU).keepF (unhide HK8)))
  rw [unhide HO3, unhide HD3] at HQ
  simp only at HQ
  go_wp2_with fail
  refine (unhide HQ).mono ?_
  rintro e w9 ⟨qo, qc, rfl, ht9, hk⟩
  have HK9 := hide ((unhide HK8).trans hk)
  have HX9 := hide ((unhide HX8).keep hk)
  have HY9 := hide ((unhide HY8).keep hk)
  have HZ9 := hide ((unhide HZ8).keep hk)
  have HVY9 := hide ((unhide HVY8).keepF hk)
  have HVZ9 := hide ((unhide HVZ8).keepF hk)
  have HT9 := hide (RowAt.keepF (unhide HT8) hk)
  have HU9 := hide (RowAt.keepF (unhide HU8) hk)
  have HW9 := hide ht9
  clear hk HQ s8 r80 r81 ht9 HX8 HY8 HZ8 HVY8 HVZ8 HLV8 HT8 HU8
  go_wp2_with fail
  clear q1 q2 q3 q4 q5 q6 q7 q8 p1 p2 p3 p4 p5 p6 p7 p8 hbs hb0 s0 r0 r1 HK0 HK1 HK2 HK3 HK4 HK5 HK6 HK7 HK8 HS HL HU HE HBB HO1 HO2 HO3 HD1 HD2 HD3 HLL HV3 hI hIb hIL hL hPL hlen
  go_loopw [23] (fun i wr => ∃ k : Nat, k ≤ D3.length ∧ i = .int .i64 k ∧ Keeps (fun _ => False) w9 wr) (fun i _ => D3.length - (intOf i).toNat)
  case atStart => exact ⟨0, Nat.zero_le _, rfl, Keeps.refl _ _⟩
  case round =>
  obtain ⟨k, hk, rfl, hkp⟩ := hrel
  have HKP := hide hkp
  by_cases hlt : k < D3.length
  · have hd3 := unhide HDL
    obtain ⟨qb, qf, qcc, qe, hql, hqc⟩ := StepsAt.cells (unhide HW9) (by omega)
    simp at qe
    obtain ⟨rfl, rfl⟩ := qe
    have i1 : (k : Int) < (D3.length : Int) := by omega
    have i0 : (0 : Int) ≤ (k : Int) := by omega
    by_cases hk1 : k < D1.length
    · obtain ⟨tb, tf, tcc, te, htl, htc⟩ := StepsAt.cells (unhide HT9) (by omega)
      simp at te
      obtain ⟨rfl, rfl⟩ := te
      obtain ⟨z, hz⟩ : ∃ z, D1[k]? = some z := ⟨_, List.getElem?_eq_getElem hk1⟩
      have hz3 : D3[k]? = some z := by rw [unhide HT3, List.getElem?_append_left hk1]; exact hz
      have c0 := (hkp.cell hql id).trans (hqc k z hz3).1
      have c1 := (hkp.cell hql id).trans (hqc k z hz3).2
      have e0 := (hkp.cell htl id).trans (htc k z hz).1
      have e1 := (hkp.cell htl id).trans (htc k z hz).2
      generalize typT z.2 = TT at *
      generalize z.1 = zn at *
      have j1 : decide ((k : Int) < (D1.length : Int)) = true := decide_eq_true (by omega)
      have j2 : decide ((D1.length : Int) ≤ (k : Int)) = false := decide_eq_false (by omega)
      have j3 : (k : Int) < (D1.length : Int) := by omega
      have j4 : decide (D1.length ≤ k) = false := decide_eq_false (by omega)
      have j5 : decide (k < D1.length) = true := decide_eq_true (by omega)
      clear hqc htc hz hz3 hd3 hkp
      go_wp2_with fail
      go_quiet (fail)
      have KD := keeps_drewN wr nq
      have KD2 := hide ((unhide HKP).trans KD)
      clear c0 c1 e0 e1 KD
      generalize wr.drewN nq = wq at *
      go_wp2_with fail
      go_quiet (fail)
      have KD := keeps_drewN wq nq
      go_wp2_with fail
      go_roundw
      case rel => exact ⟨k + 1, by omega, by go_num, (unhide KD2).trans KD⟩
      case measure => simp [intOf]; omega
    · obtain ⟨j, hj⟩ : ∃ j, j = k - D1.length := ⟨_, rfl⟩
      obtain ⟨ub, uf, ucc, ue, hul, huc⟩ := StepsAt.cells (unhide HU9) (by omega)
      simp at ue
      obtain ⟨rfl, rfl⟩ := ue
      obtain ⟨y, hy⟩ : ∃ y, D2[j]? = some y := ⟨_, List.getElem?_eq_getElem (by omega)⟩
      have hy3 : D3[k]? = some (l.length + y.1, y.2) := by rw [unhide HT3]; exact shift_at (by omega) (by rw [← hj]; exact hy)
      have c0 := (hkp.cell hql id).trans (hqc k _ hy3).1
      have c1 := (hkp.cell hql id).trans (hqc k _ hy3).2
      have e0 := (hkp.cell hul id).trans (huc j y hy).1
      have e1 := (hkp.cell hul id).trans (huc j y hy).2
      have hy96 : y.1 ≤ 96 := (unhide HPL) y (List.mem_of_getElem? hy)
      have hk192 : k ≤ 192 := by omega
      simp only at c0 c1
      generalize typT y.2 = TT at *
      generalize y.1 = yn at *
      obtain ⟨N, hN⟩ : ∃ N, N = l.length + yn := ⟨_, rfl⟩
      rw [← hN] at c0
      have j1 : decide ((k : Int) < (D1.length : Int)) = false := decide_eq_false (by omega)
      have j2 : decide ((D1.length : Int) ≤ (k : Int)) = true := decide_eq_true (by omega)
      have j3 : ¬ (k : Int) < (D1.length : Int) := by omega
      have j4 : decide (D1.length ≤ k) = true := decide_eq_true (by omega)
      have j5 : decide (k < D1.length) = false := decide_eq_false (by omega)
      have j6 : IntKind.i64.wrap ((k : Int) - (D1.length : Int)) = (j : Int) := by rw [i64_keep (by omega) (by omega)]; omega
      have j7 : (j : Int) < (D2.length : Int) := by omega
      have j8 : (0 : Int) ≤ (j : Int) := by omega
      have j9 : ((N : Int) != IntKind.i64.wrap ((yn : Int) + (l.length : Int))) = false := by rw [i64_keep (by omega) (by omega), bne_eq_false_iff_eq]; omega
      clear hqc huc hy hy3 hd3 hkp hj hN
      go_wp2_with fail
      go_quiet (fail)
      have KD := keeps_drewN wr nq
      have KD2 := hide ((unhide HKP).trans KD)
      have lq : qb < wr.heap.size := Nat.lt_of_lt_of_le hql (unhide HKP).size
      have lu : ub < wr.heap.size := Nat.lt_of_lt_of_le hul (unhide HKP).size
      replace c0 := (KD.cell lq id).trans c0
      replace c1 := (KD.cell lq id).trans c1
      replace e0 := (KD.cell lu id).trans e0
      replace e1 := (KD.cell lu id).trans e1
      clear KD lq lu
      generalize wr.drewN nq = wq at *
      go_wp2_with fail
      go_quiet (fail)
      have KD := keeps_drewN wq nq
      go_wp2_with fail
      go_roundw
      case rel => exact ⟨k + 1, by omega, by go_num, (unhide KD2).trans KD⟩
      case measure => simp [intOf]; omega
  · have i1 : ¬ (k : Int) < (D3.length : Int) := by omega
    have HYZ := hide ((unhide HY9).keep hkp)
    have HZZ := hide ((unhide HZ9).keep hkp)
    have HXZ := hide ((unhide HX9).keep hkp)
    obtain ⟨yl, y0, y1, y2, y3⟩ := unhide HYZ
    obtain ⟨zl, z0, z1, z2, z3⟩ := unhide HZZ
    obtain ⟨xl, x0, x1, x2, x3⟩ := unhide HXZ
    have HQ := hide (eqRow_v wr H3 H3 _ _ vs3 vs3 ((unhide HVZ9).keepF hkp) ((unhide HVY9).keepF hkp) hv2l)
    rw [decide_eq_true (show H3 = H3 from rfl), decide_eq_true (show vs3 = vs3 from rfl)] at HQ
    simp only [Bool.and_true] at HQ
    clear hkp
    go_wp2_with fail
    refine (unhide HQ).mono ?_
    rintro e wz ⟨rfl, hk9⟩
    replace y2 := (hk9.cell (o := 2) yl id).trans y2
    replace y3 := (hk9.cell (o := 3) yl id).trans y3
    replace z2 := (hk9.cell (o := 2) zl id).trans z2
    replace z3 := (hk9.cell (o := 3) zl id).trans z3
    replace x2 := (hk9.cell (o := 2) xl id).trans x2
    replace x3 := (hk9.cell (o := 3) xl id).trans x3
    have HKZ := hide ((unhide HK9).trans ((unhide HKP).trans hk9))
    clear hk9 HQ y0 y1 z0 z1 x0 x1
    rcases Nat.lt_or_ge dp1 dp2 with hmx | hmx
    · have hd : dp3 = dp2 := by have := unhide HDP; omega
      subst hd
      have m1 : (dp1 : Int) < (dp3 : Int) := by omega
      have m2 : (dp1 : Int) ≤ (dp3 : Int) := by omega
      have m3 : ¬ (dp3 : Int) ≤ (dp1 : Int) := by omega
      clear HDP
      go_wp2_with fail
      all_goals (go_ret; exact ⟨ret_bool (by first | simp | (exfalso; omega)), (unhide HB).trans (unhide HKZ)⟩)
    · have hd : dp3 = dp1 := by have := unhide HDP; omega
      subst hd
      have m1 : (dp2 : Int) ≤ (dp3 : Int) := by omega
      have m3 : ¬ (dp3 : Int) < (dp2 : Int) := by omega
      clear HDP
      go_wp2_with fail
      all_goals (go_ret; exact ⟨ret_bool (by first | simp | (exfalso; omega)), (unhide HB).trans (unhide HKZ)⟩)
end Go.Proofs.YtonodcmbbgpjjaaDoor
