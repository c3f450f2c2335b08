import Derived.Test.YtonodcmbbgpjjaaDoorPg
namespace Go.Proofs.YtonodcmbbgpjjaaDoor
open Go.RowKit Go.Maps
set_option maxRecDepth 100000 in
set_option maxHeartbeats 8000000 in
theorem joins_1 (S : List FieldA) (sv u v bv : Value) (l b : List ValA) (hh : Bool) (vals : List ValA) (w : World) (hE : Env w) (hS : FldsAt w sv S) (hl : ValsAt w v l) (hI : InR l) (hB : ValsAt w bv b) (hIb : InR b) (hr : ValsAt w u vals) (hlen : l.length + b.length ≤ 4398046511104) (h1 : (runO S l hh vals).e ≠ 0) :
    Calls Tryd.prog 6 #[.agg #[sv], v, bv, .agg #[.bool hh, u]] w fun e w' => e = .returned (.bool true) ∧ Keeps (fun _ => False) w w' := by
  obtain ⟨E1, H1, vs1, st1, dp1, HO1⟩ : ∃ a b c d e, Hid (runO S l hh vals = ⟨a, b, c, d, e⟩) := ⟨_, _, _, _, _, rfl⟩
  obtain ⟨E2, H2, vs2, st2, dp2, HO2⟩ : ∃ a b' c d e, Hid (runO S b H1 vs1 = ⟨a, b', c, d, e⟩) := ⟨_, _, _, _, _, rfl⟩
  obtain ⟨E3, H3, vs3, st3, dp3, HO3⟩ : ∃ a b' c d e, Hid (runO S (l ++ b) hh vals = ⟨a, b', c, d, e⟩) := ⟨_, _, _, _, _, rfl⟩
  obtain ⟨d3, at3, V3, HV3⟩ : ∃ a b' c, Hid (verifyA S (l ++ b) = (a, b', c)) := ⟨_, _, _, rfl⟩
  have hIL : InR (l ++ b) := fun i hi => (List.mem_append.1 hi).elim (hI i) (hIb i)
  have hLL : (l ++ b).length = l.length + b.length := List.length_append
  obtain ⟨L, hL⟩ : ∃ L, l ++ b = L := ⟨_, rfl⟩
  rw [hL] at HO3 HV3 hIL hLL
  have HLL := hide hLL
  rw [unhide HO1] at h1
  simp only at h1
  have be : (E1 != 0) = true := by rw [bne_iff_ne]; exact h1
  clear h1
  obtain ⟨so, sc, rfl⟩ := RowAt.form hS
  obtain ⟨uo, uc, rfl⟩ := RowAt.form hr
  obtain ⟨vo, vc, rfl⟩ := RowAt.form hl
  obtain ⟨bo, bc, rfl⟩ := RowAt.form hB
  have hB0 := hB
  obtain ⟨Wb, hWb, hkb, hbs, s0, r0, r1⟩ := two_boxes w (.slice so S.length sc) (.slice uo vals.length uc) hh
  have hb0 : w.heap.size < Wb.heap.size := by omega
  have hWb' := hWb.symm
  have HB := hide hkb
  have HS := hide (hS.keepF hkb)
  have HL := hide (hl.keepF hkb)
  have HU := hide (hr.keepF hkb)
  have HE := hide (hE.keepF hkb)
  have HK0 := hide (Keeps.refl (fun _ => False) Wb)
  have HQ := hide (works_v Wb (unhide HE))
  have HBB := hide (hB0.keepF hkb)
  clear hE hS hl hr hkb hWb hB hB0 hLL
  go_enter Tryd.func6, Tryd.ntmps6
  go_wp2_with fail
  refine (unhide HQ).mono ?_
  rintro e w1 ⟨rfl, hk⟩
  have HK1 := hide hk
  clear hk HQ hWb'
  have s1 := ((unhide HK1).cell (o := 0) hb0 id).trans s0
  have r10 := ((unhide HK1).cell (o := 0) hbs id).trans r0
  have r11 := ((unhide HK1).cell (o := 1) hbs id).trans r1
  have q1 : w.heap.size < w1.heap.size := Nat.lt_of_lt_of_le hb0 (unhide HK1).size
  have p1 : w.heap.size + 1 < w1.heap.size := Nat.lt_of_lt_of_le hbs (unhide HK1).size
  have HQ := hide (run_u S _ _ (.slice vo l.length vc) l hh vals w1 ((unhide HE).keepF (unhide HK1)) ((unhide HS).keepF (unhide HK1)) ((unhide HL).keepF (unhide HK1)) hI ((unhide HU).keepF (unhide HK1)))
  rw [unhide HO1] at HQ
  simp only at HQ
  go_wp2_with fail
  refine (unhide HQ).mono ?_
  rintro e w2 ⟨xo, xc, rfl, hv2, hk⟩
  have HK2 := hide ((unhide HK1).trans hk)
  clear hk HQ s1 r10 r11
  have s2 := ((unhide HK2).cell (o := 0) hb0 id).trans s0
  have r20 := ((unhide HK2).cell (o := 0) hbs id).trans r0
  have r21 := ((unhide HK2).cell (o := 1) hbs id).trans r1
  have q2 : w.heap.size < w2.heap.size := Nat.lt_of_lt_of_le hb0 (unhide HK2).size
  have p2 : w.heap.size + 1 < w2.heap.size := Nat.lt_of_lt_of_le hbs (unhide HK2).size
  have k2a := kAlloc w2 (.cells #[.bool H1, .slice xo vs1.length xc, .int .i64 (st1 : Int), .int .i64 (dp1 : Int)] 34)
  have HX2 := hide (outB_new w2 H1 (.slice xo vs1.length xc) (st1 : Int) (dp1 : Int))
  have HK2a := hide ((unhide HK2).trans k2a)
  have HV2 := hide (hv2.keepF k2a)
  have HQ := hide (run_u S _ _ (.slice bo b.length bc) b H1 vs1 _ ((unhide HE).keepF (unhide HK2a)) ((unhide HS).keepF (unhide HK2a)) ((unhide HBB).keepF (unhide HK2a)) hIb (unhide HV2))
  rw [unhide HO2] at HQ
  simp only at HQ
  clear hv2 k2a
  go_wp2_with fail
  refine (unhide HQ).mono ?_
  rintro e w3 ⟨yo, yc, rfl, hv3, hk⟩
  have HK3 := hide ((unhide HK2a).trans hk)
  have k3a := kAlloc w3 (.cells #[.bool H2, .slice yo vs2.length yc, .int .i64 (st2 : Int), .int .i64 (dp2 : Int)] 34)
  have HX3 := hide (((unhide HX2).keep hk).keep k3a)
  have HY3 := hide (outB_new w3 H2 (.slice yo vs2.length yc) (st2 : Int) (dp2 : Int))
  have HVX3 := hide (((unhide HV2).keepF hk).keepF k3a)
  have HVY3 := hide (hv3.keepF k3a)
  have HK3a := hide ((unhide HK3).trans k3a)
  clear hk HQ s2 r20 r21 HX2 HV2 HK2a hv3 k3a
  have s3 := ((unhide HK3).cell (o := 0) hb0 id).trans s0
  have r30 := ((unhide HK3).cell (o := 0) hbs id).trans r0
  have r31 := ((unhide HK3).cell (o := 1) hbs id).trans r1
  have q3 : w.heap.size < w3.heap.size := Nat.lt_of_lt_of_le hb0 (unhide HK3).size
  have p3 : w.heap.size + 1 < w3.heap.size := Nat.lt_of_lt_of_le hbs (unhide HK3).size
  have HQ := hide (behind20_v _ (.slice vo l.length vc) (.slice bo b.length bc) l b ((unhide HL).keepF (unhide HK3a)) ((unhide HBB).keepF (unhide HK3a)) hlen)
  rw [hL] at HQ
  go_wp2_with fail
  refine (unhide HQ).mono ?_
  rintro e w4 ⟨lv, rfl, how, hk⟩
  rw [← unhide HLL] at how
  have hlv : ValsAt w4 lv L := rowAt_own how
  obtain ⟨lo, lc, rfl⟩ := RowAt.form hlv
  have HLV4 := hide hlv
  have HK4 := hide ((unhide HK3a).trans hk)
  have HX4 := hide ((unhide HX3).keep hk)
  have HY4 := hide ((unhide HY3).keep hk)
  have HVX4 := hide ((unhide HVX3).keepF hk)
  have HVY4 := hide ((unhide HVY3).keepF hk)
  clear hk HQ how hlv s3 r30 r31 HX3 HY3 HVX3 HVY3 HK3a
  have s4 := ((unhide HK4).cell (o := 0) hb0 id).trans s0
  have r40 := ((unhide HK4).cell (o := 0) hbs id).trans r0
  have r41 := ((unhide HK4).cell (o := 1) hbs id).trans r1
  have q4 : w.heap.size < w4.heap.size := Nat.lt_of_lt_of_le hb0 (unhide HK4).size
  have p4 : w.heap.size + 1 < w4.heap.size := Nat.lt_of_lt_of_le hbs (unhide HK4).size
  have HQ := hide (run_u S _ _ (.slice lo L.length lc) L hh vals w4 ((unhide HE).keepF (unhide HK4)) ((unhide HS).keepF (unhide HK4)) (unhide HLV4) hIL ((unhide HU).keepF (unhide HK4)))
  rw [unhide HO3] at HQ
  simp only at HQ
  go_wp2_with fail
  refine (unhide HQ).mono ?_
  rintro e w5 ⟨zo, zc, rfl, hv5, hk⟩
  have HK5 := hide ((unhide HK4).trans hk)
  have k5a := kAlloc w5 (.cells #[.bool H3, .slice zo vs3.length zc, .int .i64 (st3 : Int), .int .i64 (dp3 : Int)] 34)
  have HX5 := hide (((unhide HX4).keep hk).keep k5a)
  have HY5 := hide (((unhide HY4).keep hk).keep k5a)
  have HZ5 := hide (outB_new w5 H3 (.slice zo vs3.length zc) (st3 : Int) (dp3 : Int))
  have HVX5 := hide (((unhide HVX4).keepF hk).keepF k5a)
  have HVY5 := hide (((unhide HVY4).keepF hk).keepF k5a)
  have HVZ5 := hide (hv5.keepF k5a)
  have HLV5 := hide (((unhide HLV4).keepF hk).keepF k5a)
  have HK5a := hide ((unhide HK5).trans k5a)
  clear hk HQ s4 r40 r41 HX4 HY4 HVX4 HVY4 HLV4 hv5 k5a
  have s5 := ((unhide HK5).cell (o := 0) hb0 id).trans s0
  have r50 := ((unhide HK5).cell (o := 0) hbs id).trans r0
  have r51 := ((unhide HK5).cell (o := 1) hbs id).trans r1
  have q5 : w.heap.size < w5.heap.size := Nat.lt_of_lt_of_le hb0 (unhide HK5).size
  have p5 : w.heap.size + 1 < w5.heap.size := Nat.lt_of_lt_of_le hbs (unhide HK5).size
  have HQ := hide (verify_v S so sc L (.slice lo L.length lc) _ ((unhide HE).keepF (unhide HK5a)).ops ((unhide HE).keepF (unhide HK5a)).types ((unhide HS).keepF (unhide HK5a)) (unhide HLV5) hIL)
  rw [unhide HV3] at HQ
  simp only at HQ
  go_wp2_with fail
  refine (unhide HQ).mono ?_
  rintro e w6 ⟨rfl, hk⟩
  have HK6 := hide ((unhide HK5a).trans hk)
  have HX6 := hide ((unhide HX5).keep hk)
  have HY6 := hide ((unhide HY5).keep hk)
  have HZ6 := hide ((unhide HZ5).keep hk)
  have HVX6 := hide ((unhide HVX5).keepF hk)
  have HVY6 := hide ((unhide HVY5).keepF hk)
  have HVZ6 := hide ((unhide HVZ5).keepF hk)
  have HLV6 := hide ((unhide HLV5).keepF hk)
  clear hk HQ s5 r50 r51 HX5 HY5 HZ5 HVX5 HVY5 HVZ5 HLV5 HK5a
  have s6 := ((unhide HK6).cell (o := 0) hb0 id).trans s0
  have r60 := ((unhide HK6).cell (o := 0) hbs id).trans r0
  have r61 := ((unhide HK6).cell (o := 1) hbs id).trans r1
  have q6 : w.heap.size < w6.heap.size := Nat.lt_of_lt_of_le hb0 (unhide HK6).size
  have p6 : w.heap.size + 1 < w6.heap.size := Nat.lt_of_lt_of_le hbs (unhide HK6).size
  go_wp2_with fail
  go_ret
  exact ⟨rfl, (unhide HB).trans (unhide HK6)⟩
set_option maxRecDepth 100000 in
set_option maxHeartbeats 8000000 in
theorem joins_2 (S : List FieldA) (sv u v bv : Value) (l b : List ValA) (hh : Bool) (vals : List ValA) (w : World) (hE : Env w) (hS : FldsAt w sv S) (hl : ValsAt w v l) (hI : InR l) (hB : ValsAt w bv b) (hIb : InR b) (hr : ValsAt w u vals) (hlen : l.length + b.length ≤ 4398046511104) (h1 : (runO S l hh vals).e = 0) (h2 : (runO S b (runO S l hh vals).here (runO S l hh vals).vals).e ≠ 0) :
    Calls Tryd.prog 6 #[.agg #[sv], v, bv, .agg #[.bool hh, u]] w fun e w' => e = .returned (.bool true) ∧ Keeps (fun _ => False) w w' := by
  obtain ⟨E1, H1, vs1, st1, dp1, HO1⟩ : ∃ a b c d e, Hid (runO S l hh vals = ⟨a, b, c, d, e⟩) := ⟨_, _, _, _, _, rfl⟩
  obtain ⟨E2, H2, vs2, st2, dp2, HO2⟩ : ∃ a b' c d e, Hid (runO S b H1 vs1 = ⟨a, b', c, d, e⟩) := ⟨_, _, _, _, _, rfl⟩
  obtain ⟨E3, H3, vs3, st3, dp3, HO3⟩ : ∃ a b' c d e, Hid (runO S (l ++ b) hh vals = ⟨a, b', c, d, e⟩) := ⟨_, _, _, _, _, rfl⟩
  obtain ⟨d3, at3, V3, HV3⟩ : ∃ a b' c, Hid (verifyA S (l ++ b) = (a, b', c)) := ⟨_, _, _, rfl⟩
  have hIL : InR (l ++ b) := fun i hi => (List.mem_append.1 hi).elim (hI i) (hIb i)
  have hLL : (l ++ b).length = l.length + b.length := List.length_append
  obtain ⟨L, hL⟩ : ∃ L, l ++ b = L := ⟨_, rfl⟩
  rw [hL] at HO3 HV3 hIL hLL
  have HLL := hide hLL
  rw [unhide HO1] at h1 h2
  simp only at h1 h2
  rw [unhide HO2] at h2
  simp only at h2
  subst h1
  have be : (E2 != 0) = true := by rw [bne_iff_ne]; exact h2
  clear h2
  obtain ⟨so, sc, rfl⟩ := RowAt.form hS
  obtain ⟨uo, uc, rfl⟩ := RowAt.form hr
  obtain ⟨vo, vc, rfl⟩ := RowAt.form hl
  obtain ⟨bo, bc, rfl⟩ := RowAt.form hB
  have hB0 := hB
  obtain ⟨Wb, hWb, hkb, hbs, s0, r0, r1⟩ := two_boxes w (.slice so S.length sc) (.slice uo vals.length uc) hh
  have hb0 : w.heap.size < Wb.heap.size := by omega
  have hWb' := hWb.symm
  have HB := hide hkb
  have HS := hide (hS.keepF hkb)
  have HL := hide (hl.keepF hkb)
  have HU := hide (hr.keepF hkb)
  have HE := hide (hE.keepF hkb)
  have HK0 := hide (Keeps.refl (fun _ => False) Wb)
  have HQ := hide (works_v Wb (unhide HE))
  have HBB := hide (hB0.keepF hkb)
  clear hE hS hl hr hkb hWb hB hB0 hLL
  go_enter Tryd.func6, Tryd.ntmps6
  go_wp2_with fail
  refine (unhide HQ).mono ?_
  rintro e w1 ⟨rfl, hk⟩
  have HK1 := hide hk
  clear hk HQ hWb'
  have s1 := ((unhide HK1).cell (o := 0) hb0 id).trans s0
  have r10 := ((unhide HK1).cell (o := 0) hbs id).trans r0
  have r11 := ((unhide HK1).cell (o := 1) hbs id).trans r1
  have q1 : w.heap.size < w1.heap.size := Nat.lt_of_lt_of_le hb0 (unhide HK1).size
  have p1 : w.heap.size + 1 < w1.heap.size := Nat.lt_of_lt_of_le hbs (unhide HK1).size
  have HQ := hide (run_u S _ _ (.slice vo l.length vc) l hh vals w1 ((unhide HE).keepF (unhide HK1)) ((unhide HS).keepF (unhide HK1)) ((unhide HL).keepF (unhide HK1)) hI ((unhide HU).keepF (unhide HK1)))
  rw [unhide HO1] at HQ
  simp only at HQ
  go_wp2_with fail
  refine (unhide HQ).mono ?_
  rintro e w2 ⟨xo, xc, rfl, hv2, hk⟩
  have HK2 := hide ((unhide HK1).trans hk)
  clear hk HQ s1 r10 r11
  have s2 := ((unhide HK2).cell (o := 0) hb0 id).trans s0
  have r20 := ((unhide HK2).cell (o := 0) hbs id).trans r0
  have r21 := ((unhide HK2).cell (o := 1) hbs id).trans r1
  have q2 : w.heap.size < w2.heap.size := Nat.lt_of_lt_of_le hb0 (unhide HK2).size
  have p2 : w.heap.size + 1 < w2.heap.size := Nat.lt_of_lt_of_le hbs (unhide HK2).size
  have k2a := kAlloc w2 (.cells #[.bool H1, .slice xo vs1.length xc, .int .i64 (st1 : Int), .int .i64 (dp1 : Int)] 34)
  have HX2 := hide (outB_new w2 H1 (.slice xo vs1.length xc) (st1 : Int) (dp1 : Int))
  have HK2a := hide ((unhide HK2).trans k2a)
  have HV2 := hide (hv2.keepF k2a)
  have HQ := hide (run_u S _ _ (.slice bo b.length bc) b H1 vs1 _ ((unhide HE).keepF (unhide HK2a)) ((unhide HS).keepF (unhide HK2a)) ((unhide HBB).keepF (unhide HK2a)) hIb (unhide HV2))
  rw [unhide HO2] at HQ
  simp only at HQ
  clear hv2 k2a
  go_wp2_with fail
  refine (unhide HQ).mono ?_
  rintro e w3 ⟨yo, yc, rfl, hv3, hk⟩
  have HK3 := hide ((unhide HK2a).trans hk)
  have k3a := kAlloc w3 (.cells #[.bool H2, .slice yo vs2.length yc, .int .i64 (st2 : Int), .int .i64 (dp2 : Int)] 34)
  have HX3 := hide (((unhide HX2).keep hk).keep k3a)
  have HY3 := hide (outB_new w3 H2 (.slice yo vs2.length yc) (st2 : Int) (dp2 : Int))
  have HVX3 := hide (((unhide HV2).keepF hk).keepF k3a)
  have HVY3 := hide (hv3.keepF k3a)
  have HK3a := hide ((unhide HK3).trans k3a)
  clear hk HQ s2 r20 r21 HX2 HV2 HK2a hv3 k3a
  have s3 := ((unhide HK3).cell (o := 0) hb0 id).trans s0
  have r30 := ((unhide HK3).cell (o := 0) hbs id).trans r0
  have r31 := ((unhide HK3).cell (o := 1) hbs id).trans r1
  have q3 : w.heap.size < w3.heap.size := Nat.lt_of_lt_of_le hb0 (unhide HK3).size
  have p3 : w.heap.size + 1 < w3.heap.size := Nat.lt_of_lt_of_le hbs (unhide HK3).size
  have HQ := hide (behind20_v _ (.slice vo l.length vc) (.slice bo b.length bc) l b ((unhide HL).keepF (unhide HK3a)) ((unhide HBB).keepF (unhide HK3a)) hlen)
  rw [hL] at HQ
  go_wp2_with fail
  refine (unhide HQ).mono ?_
  rintro e w4 ⟨lv, rfl, how, hk⟩
  rw [← unhide HLL] at how
  have hlv : ValsAt w4 lv L := rowAt_own how
  obtain ⟨lo, lc, rfl⟩ := RowAt.form hlv
  have HLV4 := hide hlv
  have HK4 := hide ((unhide HK3a).trans hk)
  have HX4 := hide ((unhide HX3).keep hk)
  have HY4 := hide ((unhide HY3).keep hk)
  have HVX4 := hide ((unhide HVX3).keepF hk)
  have HVY4 := hide ((unhide HVY3).keepF hk)
  clear hk HQ how hlv s3 r30 r31 HX3 HY3 HVX3 HVY3 HK3a
  have s4 := ((unhide HK4).cell (o := 0) hb0 id).trans s0
  have r40 := ((unhide HK4).cell (o := 0) hbs id).trans r0
  have r41 := ((unhide HK4).cell (o := 1) hbs id).trans r1
  have q4 : w.heap.size < w4.heap.size := Nat.lt_of_lt_of_le hb0 (unhide HK4).size
  have p4 : w.heap.size + 1 < w4.heap.size := Nat.lt_of_lt_of_le hbs (unhide HK4).size
  have HQ := hide (run_u S _ _ (.slice lo L.length lc) L hh vals w4 ((unhide HE).keepF (unhide HK4)) ((unhide HS).keepF (unhide HK4)) (unhide HLV4) hIL ((unhide HU).keepF (unhide HK4)))
  rw [unhide HO3] at HQ
  simp only at HQ
  go_wp2_with fail
  refine (unhide HQ).mono ?_
  rintro e w5 ⟨zo, zc, rfl, hv5, hk⟩
  have HK5 := hide ((unhide HK4).trans hk)
  have k5a := kAlloc w5 (.cells #[.bool H3, .slice zo vs3.length zc, .int .i64 (st3 : Int), .int .i64 (dp3 : Int)] 34)
  have HX5 := hide (((unhide HX4).keep hk).keep k5a)
  have HY5 := hide (((unhide HY4).keep hk).keep k5a)
  have HZ5 := hide (outB_new w5 H3 (.slice zo vs3.length zc) (st3 : Int) (dp3 : Int))
  have HVX5 := hide (((unhide HVX4).keepF hk).keepF k5a)
  have HVY5 := hide (((unhide HVY4).keepF hk).keepF k5a)
  have HVZ5 := hide (hv5.keepF k5a)
  have HLV5 := hide (((unhide HLV4).keepF hk).keepF k5a)
  have HK5a := hide ((unhide HK5).trans k5a)
  clear hk HQ s4 r40 r41 HX4 HY4 HVX4 HVY4 HLV4 hv5 k5a
  have s5 := ((unhide HK5).cell (o := 0) hb0 id).trans s0
  have r50 := ((unhide HK5).cell (o := 0) hbs id).trans r0
  have r51 := ((unhide HK5).cell (o := 1) hbs id).trans r1
  have q5 : w.heap.size < w5.heap.size := Nat.lt_of_lt_of_le hb0 (unhide HK5).size
  have p5 : w.heap.size + 1 < w5.heap.size := Nat.lt_of_lt_of_le hbs (unhide HK5).size
  have HQ := hide (verify_v S so sc L (.slice lo L.length lc) _ ((unhide HE).keepF (unhide HK5a)).ops ((unhide HE).keepF (unhide HK5a)).types ((unhide HS).keepF (unhide HK5a)) (unhide HLV5) hIL)
  rw [unhide HV3] at HQ
  simp only at HQ
  go_wp2_with fail
  refine (unhide HQ).mono ?_
  rintro e w6 ⟨rfl, hk⟩
  have HK6 := hide ((unhide HK5a).trans hk)
  have HX6 := hide ((unhide HX5).keep hk)
  have HY6 := hide ((unhide HY5).keep hk)
  have HZ6 := hide ((unhide HZ5).keep hk)
  have HVX6 := hide ((unhide HVX5).keepF hk)
  have HVY6 := hide ((unhide HVY5).keepF hk)
  have HVZ6 := hide ((unhide HVZ5).keepF hk)
  have HLV6 := hide ((unhide HLV5).keepF hk)
  clear hk HQ s5 r50 r51 HX5 HY5 HZ5 HVX5 HVY5 HVZ5 HLV5 HK5a
  have s6 := ((unhide HK6).cell (o := 0) hb0 id).trans s0
  have r60 := ((unhide HK6).cell (o := 0) hbs id).trans r0
  have r61 := ((unhide HK6).cell (o := 1) hbs id).trans r1
  have q6 : w.heap.size < w6.heap.size := Nat.lt_of_lt_of_le hb0 (unhide HK6).size
  have p6 : w.heap.size + 1 < w6.heap.size := Nat.lt_of_lt_of_le hbs (unhide HK6).size
  go_wp2_with fail
  go_ret
  exact ⟨rfl, (unhide HB).trans (unhide HK6)⟩
set_option maxRecDepth 100000 in
set_option maxHeartbeats 8000000 in
theorem joins_3 (S : List FieldA) (sv u v bv : Value) (l b : List ValA) (hh : Bool) (vals : List ValA) (w : World) (hE : Env w) (hS : FldsAt w sv S) (hl : ValsAt w v l) (hI : InR l) (hB : ValsAt w bv b) (hIb : InR b) (hr : ValsAt w u vals) (hlen : l.length + b.length ≤ 4398046511104) (h1 : (runO S l hh vals).e = 0) (h2 : (runO S b (runO S l hh vals).here (runO S l hh vals).vals).e = 0) (h3 : (verifyA S (l ++ b)).2.2 ≠ 0) :
    Calls Tryd.prog 6 #[.agg #[sv], v, bv, .agg #[.bool hh, u]] w fun e w' => e = .returned (.bool true) ∧ Keeps (fun _ => False) w w' := by
  have h110 : (verifyA S (l ++ b)).2.2 = 110 := (both_err (runO_ok h1).1 (runO_ok h2).1).resolve_left h3
  have hO3 : runO S (l ++ b) hh vals = ⟨110, false, [], 0, 0⟩ := by unfold runO outO; rw [h110, if_pos (by decide)]
  obtain ⟨E1, H1, vs1, st1, dp1, HO1⟩ : ∃ a b c d e, Hid (runO S l hh vals = ⟨a, b, c, d, e⟩) := ⟨_, _, _, _, _, rfl⟩
  obtain ⟨E2, H2, vs2, st2, dp2, HO2⟩ : ∃ a b' c d e, Hid (runO S b H1 vs1 = ⟨a, b', c, d, e⟩) := ⟨_, _, _, _, _, rfl⟩
  obtain ⟨E3, H3, vs3, st3, dp3, HO3⟩ : ∃ a b' c d e, Hid (runO S (l ++ b) hh vals = ⟨a, b', c, d, e⟩) := ⟨_, _, _, _, _, rfl⟩
  obtain ⟨d3, at3, V3, HV3⟩ : ∃ a b' c, Hid (verifyA S (l ++ b) = (a, b', c)) := ⟨_, _, _, rfl⟩
  have hIL : InR (l ++ b) := fun i hi => (List.mem_append.1 hi).elim (hI i) (hIb i)
  have hLL : (l ++ b).length = l.length + b.length := List.length_append
  obtain ⟨L, hL⟩ : ∃ L, l ++ b = L := ⟨_, rfl⟩
  rw [hL] at HO3 HV3 hIL hLL
  have HLL := hide hLL
  rw [hL] at hO3 h110
  rw [unhide HO1] at h1 h2
  simp only at h1 h2
  rw [unhide HO2] at h2
  simp only at h2
  subst h1
  subst h2
  rw [unhide HO3] at hO3
  rw [unhide HV3] at h110
  simp only [OutA.mk.injEq] at hO3 h110
  obtain ⟨rfl, rfl, rfl, rfl, rfl⟩ := hO3
  subst h110
  clear h3
  obtain ⟨so, sc, rfl⟩ := RowAt.form hS
  obtain ⟨uo, uc, rfl⟩ := RowAt.form hr
  obtain ⟨vo, vc, rfl⟩ := RowAt.form hl
  obtain ⟨bo, bc, rfl⟩ := RowAt.form hB
  have hB0 := hB
  obtain ⟨Wb, hWb, hkb, hbs, s0, r0, r1⟩ := two_boxes w (.slice so S.length sc) (.slice uo vals.length uc) hh
  have hb0 : w.heap.size < Wb.heap.size := by omega
  have hWb' := hWb.symm
  have HB := hide hkb
  have HS := hide (hS.keepF hkb)
  have HL := hide (hl.keepF hkb)
  have HU := hide (hr.keepF hkb)
  have HE := hide (hE.keepF hkb)
  have HK0 := hide (Keeps.refl (fun _ => False) Wb)
  have HQ := hide (works_v Wb (unhide HE))
  have HBB := hide (hB0.keepF hkb)
  clear hE hS hl hr hkb hWb hB hB0 hLL
  go_enter Tryd.func6, Tryd.ntmps6
  go_wp2_with fail
  refine (unhide HQ).mono ?_
  rintro e w1 ⟨rfl, hk⟩
  have HK1 := hide hk
  clear hk HQ hWb'
  have s1 := ((unhide HK1).cell (o := 0) hb0 id).trans s0
  have r10 := ((unhide HK1).cell (o := 0) hbs id).trans r0
  have r11 := ((unhide HK1).cell (o := 1) hbs id).trans r1
  have q1 : w.heap.size < w1.heap.size := Nat.lt_of_lt_of_le hb0 (unhide HK1).size
  have p1 : w.heap.size + 1 < w1.heap.size := Nat.lt_of_lt_of_le hbs (unhide HK1).size
  have HQ := hide (run_u S _ _ (.slice vo l.length vc) l hh vals w1 ((unhide HE).keepF (unhide HK1)) ((unhide HS).keepF (unhide HK1)) ((unhide HL).keepF (unhide HK1)) hI ((unhide HU).keepF (unhide HK1)))
  rw [unhide HO1] at HQ
  simp only at HQ
  go_wp2_with fail
  refine (unhide HQ).mono ?_
  rintro e w2 ⟨xo, xc, rfl, hv2, hk⟩
  have HK2 := hide ((unhide HK1).trans hk)
  clear hk HQ s1 r10 r11
  have s2 := ((unhide HK2).cell (o := 0) hb0 id).trans s0
  have r20 := ((unhide HK2).cell (o := 0) hbs id).trans r0
  have r21 := ((unhide HK2).cell (o := 1) hbs id).trans r1
  have q2 : w.heap.size < w2.heap.size := Nat.lt_of_lt_of_le hb0 (unhide HK2).size
  have p2 : w.heap.size + 1 < w2.heap.size := Nat.lt_of_lt_of_le hbs (unhide HK2).size
  have k2a := kAlloc w2 (.cells #[.bool H1, .slice xo vs1.length xc, .int .i64 (st1 : Int), .int .i64 (dp1 : Int)] 34)
  have HX2 := hide (outB_new w2 H1 (.slice xo vs1.length xc) (st1 : Int) (dp1 : Int))
  have HK2a := hide ((unhide HK2).trans k2a)
  have HV2 := hide (hv2.keepF k2a)
  have HQ := hide (run_u S _ _ (.slice bo b.length bc) b H1 vs1 _ ((unhide HE).keepF (unhide HK2a)) ((unhide HS).keepF (unhide HK2a)) ((unhide HBB).keepF (unhide HK2a)) hIb (unhide HV2))
  rw [unhide HO2] at HQ
  simp only at HQ
  clear hv2 k2a
  go_wp2_with fail
  refine (unhide HQ).mono ?_
  rintro e w3 ⟨yo, yc, rfl, hv3, hk⟩
  have HK3 := hide ((unhide HK2a).trans hk)
  have k3a := kAlloc w3 (.cells #[.bool H2, .slice yo vs2.length yc, .int .i64 (st2 : Int), .int .i64 (dp2 : Int)] 34)
  have HX3 := hide (((unhide HX2).keep hk).keep k3a)
  have HY3 := hide (outB_new w3 H2 (.slice yo vs2.length yc) (st2 : Int) (dp2 : Int))
  have HVX3 := hide (((unhide HV2).keepF hk).keepF k3a)
  have HVY3 := hide (hv3.keepF k3a)
  have HK3a := hide ((unhide HK3).trans k3a)
  clear hk HQ s2 r20 r21 HX2 HV2 HK2a hv3 k3a
  have s3 := ((unhide HK3).cell (o := 0) hb0 id).trans s0
  have r30 := ((unhide HK3).cell (o := 0) hbs id).trans r0
  have r31 := ((unhide HK3).cell (o := 1) hbs id).trans r1
  have q3 : w.heap.size < w3.heap.size := Nat.lt_of_lt_of_le hb0 (unhide HK3).size
  have p3 : w.heap.size + 1 < w3.heap.size := Nat.lt_of_lt_of_le hbs (unhide HK3).size
  have HQ := hide (behind20_v _ (.slice vo l.length vc) (.slice bo b.length bc) l b ((unhide HL).keepF (unhide HK3a)) ((unhide HBB).keepF (unhide HK3a)) hlen)
  rw [hL] at HQ
  go_wp2_with fail
  refine (unhide HQ).mono ?_
  rintro e w4 ⟨lv, rfl, how, hk⟩
  rw [← unhide HLL] at how
  have hlv : ValsAt w4 lv L := rowAt_own how
  obtain ⟨lo, lc, rfl⟩ := RowAt.form hlv
  have HLV4 := hide hlv
  have HK4 := hide ((unhide HK3a).trans hk)
  have HX4 := hide ((unhide HX3).keep hk)
  have HY4 := hide ((unhide HY3).keep hk)
  have HVX4 := hide ((unhide HVX3).keepF hk)
  have HVY4 := hide ((unhide HVY3).keepF hk)
  clear hk HQ how hlv s3 r30 r31 HX3 HY3 HVX3 HVY3 HK3a
  have s4 := ((unhide HK4).cell (o := 0) hb0 id).trans s0
  have r40 := ((unhide HK4).cell (o := 0) hbs id).trans r0
  have r41 := ((unhide HK4).cell (o := 1) hbs id).trans r1
  have q4 : w.heap.size < w4.heap.size := Nat.lt_of_lt_of_le hb0 (unhide HK4).size
  have p4 : w.heap.size + 1 < w4.heap.size := Nat.lt_of_lt_of_le hbs (unhide HK4).size
  have HQ := hide (run_u S _ _ (.slice lo L.length lc) L hh vals w4 ((unhide HE).keepF (unhide HK4)) ((unhide HS).keepF (unhide HK4)) (unhide HLV4) hIL ((unhide HU).keepF (unhide HK4)))
  rw [unhide HO3] at HQ
  simp only at HQ
  go_wp2_with fail
  refine (unhide HQ).mono ?_
  rintro e w5 ⟨zo, zc, rfl, hv5, hk⟩
  have HK5 := hide ((unhide HK4).trans hk)
  have k5a := kAlloc w5 (.cells #[.bool false, .slice zo ([] : List ValA).length zc, .int .i64 ((0 : Nat) : Int), .int .i64 ((0 : Nat) : Int)] 34)
  have HX5 := hide (((unhide HX4).keep hk).keep k5a)
  have HY5 := hide (((unhide HY4).keep hk).keep k5a)
  have HZ5 := hide (outB_new w5 false (.slice zo ([] : List ValA).length zc) ((0 : Nat) : Int) ((0 : Nat) : Int))
  have HVX5 := hide (((unhide HVX4).keepF hk).keepF k5a)
  have HVY5 := hide (((unhide HVY4).keepF hk).keepF k5a)
  have HVZ5 := hide (hv5.keepF k5a)
  have HLV5 := hide (((unhide HLV4).keepF hk).keepF k5a)
  have HK5a := hide ((unhide HK5).trans k5a)
  clear hk HQ s4 r40 r41 HX4 HY4 HVX4 HVY4 HLV4 hv5 k5a
  have s5 := ((unhide HK5).cell (o := 0) hb0 id).trans s0
  have r50 := ((unhide HK5).cell (o := 0) hbs id).trans r0
  have r51 := ((unhide HK5).cell (o := 1) hbs id).trans r1
  have q5 : w.heap.size < w5.heap.size := Nat.lt_of_lt_of_le hb0 (unhide HK5).size
  have p5 : w.heap.size + 1 < w5.heap.size := Nat.lt_of_lt_of_le hbs (unhide HK5).size
  have HQ := hide (verify_v S so sc L (.slice lo L.length lc) _ ((unhide HE).keepF (unhide HK5a)).ops ((unhide HE).keepF (unhide HK5a)).types ((unhide HS).keepF (unhide HK5a)) (unhide HLV5) hIL)
  rw [unhide HV3] at HQ
  simp only at HQ
  go_wp2_with fail
  refine (unhide HQ).mono ?_
  rintro e w6 ⟨rfl, hk⟩
  have HK6 := hide ((unhide HK5a).trans hk)
  have HX6 := hide ((unhide HX5).keep hk)
  have HY6 := hide ((unhide HY5).keep hk)
  have HZ6 := hide ((unhide HZ5).keep hk)
  have HVX6 := hide ((unhide HVX5).keepF hk)
  have HVY6 := hide ((unhide HVY5).keepF hk)
  have HVZ6 := hide ((unhide HVZ5).keepF hk)
  have HLV6 := hide ((unhide HLV5).keepF hk)
  clear hk HQ s5 r50 r51 HX5 HY5 HZ5 HVX5 HVY5 HVZ5 HLV5 HK5a
  have s6 := ((unhide HK6).cell (o := 0) hb0 id).trans s0
  have r60 := ((unhide HK6).cell (o := 0) hbs id).trans r0
  have r61 := ((unhide HK6).cell (o := 1) hbs id).trans r1
  have q6 : w.heap.size < w6.heap.size := Nat.lt_of_lt_of_le hb0 (unhide HK6).size
  have p6 : w.heap.size + 1 < w6.heap.size := Nat.lt_of_lt_of_le hbs (unhide HK6).size
  simp only [List.length_nil] at *
  go_wp2_with fail
  go_ret
  exact ⟨rfl, (unhide HB).trans (unhide HK6)⟩
end Go.Proofs.YtonodcmbbgpjjaaDoor
