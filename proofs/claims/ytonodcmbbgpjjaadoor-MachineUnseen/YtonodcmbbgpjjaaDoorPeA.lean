import Derived.Test.YtonodcmbbgpjjaaDoorPe
namespace Go.Proofs.YtonodcmbbgpjjaaDoor
open Go.RowKit Go.Maps
set_option maxRecDepth 100000 in
set_option maxHeartbeats 8000000 in
theorem exec_Aa (S : List FieldA) (sv u v bv : Value) (l : List ValA) (t : Txt) (hh : Bool) (vals : List ValA) (w : World) (hE : Env w) (hS : FldsAt w sv S) (hl : ValsAt w v l) (hI : InR l) (hbt : BytesAt w bv t) (hr : ValsAt w u vals) (h1 : (runO S l hh vals).e = 0) (hs : errS S = 60) :
    Calls Tryd.prog 4 #[.agg #[sv], v, bv, .agg #[.bool hh, u]] w fun e w' => e = .returned (.bool true) ∧ Keeps (fun _ => False) w w' := by
  obtain ⟨E1, H1, vs1, st1, dp1, HO⟩ : ∃ a b c d e, Hid (runO S l hh vals = ⟨a, b, c, d, e⟩) := ⟨_, _, _, _, _, rfl⟩
  obtain ⟨cb, fE, HEC⟩ : ∃ a b, Hid (encC l = (a, b)) := ⟨_, _, rfl⟩
  obtain ⟨js, hE_, HDC⟩ : ∃ a b, Hid (decC t = (a, b)) := ⟨_, _, rfl⟩
  obtain ⟨lE, H4, vs4, st4, dp4, HX4⟩ : ∃ a b c d e, Hid (runO S js hh vals = ⟨a, b, c, d, e⟩) := ⟨_, _, _, _, _, rfl⟩
  have hv4l : vs4.length ≤ maxLen := by have := runO_len S js hh vals; rw [unhide HX4] at this; unfold maxLen; simp only at this; omega
  have hv1l : vs1.length ≤ maxLen := by have := runO_len S l hh vals; rw [unhide HO] at this; unfold maxLen; simp only at this; omega
  have HJI : Hid (InR js) := by have := dec_inR t; rw [unhide HDC] at this; exact this
  obtain ⟨hf, hx2⟩ := exec_enc hI h1
  rw [unhide HO] at h1 hx2
  rw [unhide HEC] at hf hx2
  simp only at h1 hf hx2
  subst h1
  subst hf
  have HX2 : Hid (execO S cb hh vals = ⟨0, H1, vs1, st1, dp1⟩) := hx2
  clear hx2
  have hx3 : execO S t hh vals = ⟨60, false, [], 0, 0⟩ := by
    have hdE : decE S t = ([], 60) := by unfold decE; rw [hs, if_pos (by decide)]
    unfold execO
    rw [hdE, if_pos (show (([], 60) : List ValA × Int).2 ≠ 0 by decide)]
  have HX3 : Hid (execO S t hh vals = ⟨60, false, [], 0, 0⟩) := hx3
  have HSS : Hid (errS S = 60) := hs
  clear hx3 hs
  obtain ⟨bo, bc, rfl⟩ := RowAt.form hbt
  have hbt0 := hbt
  obtain ⟨so, sc, rfl⟩ := RowAt.form hS
  obtain ⟨uo, uc, rfl⟩ := RowAt.form hr
  obtain ⟨vo, vc, rfl⟩ := RowAt.form hl
  obtain ⟨Wb, hWb, hkb, hbs, s0, r0, r1⟩ := two_boxes w (.slice so S.length sc) (.slice uo vals.length uc) hh
  have hb0 : w.heap.size < Wb.heap.size := by omega
  have hWb' := hWb.symm
  have HB := hide hkb
  have HS := hide (hS.keepF hkb)
  have HL := hide (hl.keepF hkb)
  have HU := hide (hr.keepF hkb)
  have HE := hide (hE.keepF hkb)
  have HK0 := hide (Keeps.refl (fun _ => False) Wb)
  have HQ := hide (works_v Wb (unhide HE))
  have HBT := hide (hbt0.keepF hkb)
  clear hE hS hl hr hkb hWb hbt hbt0
  go_enter Tryd.func4, Tryd.ntmps4
  go_wp2_with fail
  refine (unhide HQ).mono ?_
  rintro e w1 ⟨rfl, hk⟩
  have HK1 := hide hk
  clear hk HQ hWb'
  have s1 := ((unhide HK1).cell (o := 0) hb0 id).trans s0
  have r10 := ((unhide HK1).cell (o := 0) hbs id).trans r0
  have r11 := ((unhide HK1).cell (o := 1) hbs id).trans r1
  have q1 : w.heap.size < w1.heap.size := Nat.lt_of_lt_of_le hb0 (unhide HK1).size
  have p1 : w.heap.size + 1 < w1.heap.size := Nat.lt_of_lt_of_le hbs (unhide HK1).size
  have HQ := hide (run_u S _ _ (.slice vo l.length vc) l hh vals w1 ((unhide HE).keepF (unhide HK1)) ((unhide HS).keepF (unhide HK1)) ((unhide HL).keepF (unhide HK1)) hI ((unhide HU).keepF (unhide HK1)))
  rw [unhide HO] at HQ
  simp only at HQ
  go_wp2_with fail
  refine (unhide HQ).mono ?_
  rintro e w2 ⟨ro, rc, rfl, hv2, hk⟩
  have HK2 := hide ((unhide HK1).trans hk)
  clear hk HQ s1 r10 r11
  have s2 := ((unhide HK2).cell (o := 0) hb0 id).trans s0
  have r20 := ((unhide HK2).cell (o := 0) hbs id).trans r0
  have r21 := ((unhide HK2).cell (o := 1) hbs id).trans r1
  have q2 : w.heap.size < w2.heap.size := Nat.lt_of_lt_of_le hb0 (unhide HK2).size
  have p2 : w.heap.size + 1 < w2.heap.size := Nat.lt_of_lt_of_le hbs (unhide HK2).size
  have HO2 := hide (outB_new w2 H1 (.slice ro vs1.length rc) (st1 : Int) (dp1 : Int))
  have HK2a := hide ((unhide HK2).alloc (.cells #[.bool H1, .slice ro vs1.length rc, .int .i64 (st1 : Int), .int .i64 (dp1 : Int)] 34))
  have HV2 := hide (hv2.keepF (kAlloc w2 (.cells #[.bool H1, .slice ro vs1.length rc, .int .i64 (st1 : Int), .int .i64 (dp1 : Int)] 34)))
  have HQ := hide (encode_v l (.slice vo l.length vc) _ ((unhide HE).keepF (unhide HK2a)).ops ((unhide HE).keepF (unhide HK2a)).types ((unhide HL).keepF (unhide HK2a)) hI)
  rw [unhide HEC] at HQ
  simp only at HQ
  clear hv2
  go_wp2_with fail
  refine (unhide HQ).mono ?_
  rintro e w3 ⟨cv, rfl, hcv, hk⟩
  have hcv' : BytesAt w3 cv cb := rowAt_own hcv
  obtain ⟨co, cc, rfl⟩ := RowAt.form hcv'
  have HCV := hide hcv'
  have HK3 := hide ((unhide HK2a).trans hk)
  have HO3 := hide ((unhide HO2).keep hk)
  have HV3 := hide ((unhide HV2).keepF hk)
  clear hk HQ hcv hcv' s2 r20 r21 HO2 HV2 HK2a
  have s3 := ((unhide HK3).cell (o := 0) hb0 id).trans s0
  have r30 := ((unhide HK3).cell (o := 0) hbs id).trans r0
  have r31 := ((unhide HK3).cell (o := 1) hbs id).trans r1
  have q3 : w.heap.size < w3.heap.size := Nat.lt_of_lt_of_le hb0 (unhide HK3).size
  have p3 : w.heap.size + 1 < w3.heap.size := Nat.lt_of_lt_of_le hbs (unhide HK3).size
  have HQ := hide (exec_u S _ _ _ cb hh vals w3 ((unhide HE).keepF (unhide HK3)) ((unhide HS).keepF (unhide HK3)) (unhide HCV) ((unhide HU).keepF (unhide HK3)))
  rw [unhide HX2] at HQ
  simp only at HQ
  go_wp2_with fail
  refine (unhide HQ).mono ?_
  rintro e w4 ⟨qo, qc, rfl, hv4, hk⟩
  have k4a := kAlloc w4 (.cells #[.bool H1, .slice qo vs1.length qc] 28)
  have HO4 := hide (((unhide HO3).keep hk).keep k4a)
  have HR4 := hide (rowB_new w4 H1 (.slice qo vs1.length qc))
  have HV4 := hide (((unhide HV3).keepF hk).keepF k4a)
  have HW4 := hide (hv4.keepF k4a)
  have HK4 := hide ((unhide HK3).trans hk)
  have HK4a := hide (((unhide HK3).trans hk).trans k4a)
  have m4 := ((unhide HO3).keep hk)
  obtain ⟨ol, o0, o1, o2, o3⟩ := m4
  clear hk HQ k4a hv4 s3 r30 r31 HO3 HV3 HCV
  have s4 := ((unhide HK4).cell (o := 0) hb0 id).trans s0
  have r40 := ((unhide HK4).cell (o := 0) hbs id).trans r0
  have r41 := ((unhide HK4).cell (o := 1) hbs id).trans r1
  have q4 : w.heap.size < w4.heap.size := Nat.lt_of_lt_of_le hb0 (unhide HK4).size
  have p4 : w.heap.size + 1 < w4.heap.size := Nat.lt_of_lt_of_le hbs (unhide HK4).size
  have HQ := hide (eqRow_v _ H1 H1 _ _ vs1 vs1 (unhide HV4) (unhide HW4) hv1l)
  rw [decide_eq_true (show H1 = H1 from rfl), decide_eq_true (show vs1 = vs1 from rfl)] at HQ
  simp only [Bool.and_true] at HQ
  go_wp2_with fail
  refine (unhide HQ).mono ?_
  rintro e w5 ⟨rfl, hk⟩
  have HK5 := hide ((unhide HK4a).trans hk)
  clear hk HQ s4 r40 r41 o0 o1 o2 o3 HO4 HV4 HR4 HW4
  have s5 := ((unhide HK5).cell (o := 0) hb0 id).trans s0
  have r50 := ((unhide HK5).cell (o := 0) hbs id).trans r0
  have r51 := ((unhide HK5).cell (o := 1) hbs id).trans r1
  have q5 : w.heap.size < w5.heap.size := Nat.lt_of_lt_of_le hb0 (unhide HK5).size
  have p5 : w.heap.size + 1 < w5.heap.size := Nat.lt_of_lt_of_le hbs (unhide HK5).size
  have HQ := hide (decode_c t (.slice bo t.length bc) w5 ((unhide HE).keepF (unhide HK5)).ops ((unhide HE).keepF (unhide HK5)).types ((unhide HBT).keepF (unhide HK5)))
  rw [unhide HDC] at HQ
  simp only at HQ
  go_wp2_with fail
  refine (unhide HQ).mono ?_
  rintro e w6 ⟨jv, rfl, hjv, hk⟩
  have hjv' : ValsAt w6 jv js := rowAt_own hjv
  obtain ⟨jo, jc, rfl⟩ := RowAt.form hjv'
  have HJV := hide hjv'
  have HK6 := hide ((unhide HK5).trans hk)
  clear hk HQ hjv hjv' s5 r50 r51
  have s6 := ((unhide HK6).cell (o := 0) hb0 id).trans s0
  have r60 := ((unhide HK6).cell (o := 0) hbs id).trans r0
  have r61 := ((unhide HK6).cell (o := 1) hbs id).trans r1
  have q6 : w.heap.size < w6.heap.size := Nat.lt_of_lt_of_le hb0 (unhide HK6).size
  have p6 : w.heap.size + 1 < w6.heap.size := Nat.lt_of_lt_of_le hbs (unhide HK6).size
  have HQ := hide (exec_u S _ _ (.slice bo t.length bc) t hh vals w6 ((unhide HE).keepF (unhide HK6)) ((unhide HS).keepF (unhide HK6)) ((unhide HBT).keepF (unhide HK6)) ((unhide HU).keepF (unhide HK6)))
  rw [unhide HX3] at HQ
  simp only [List.length_nil] at HQ
  go_wp2_with fail
  refine (unhide HQ).mono ?_
  rintro e w7 ⟨xo, xc, rfl, hv7, hk⟩
  have k7a := kAlloc w7 (.cells #[.bool false, .slice xo ([] : List ValA).length xc] 28)
  have HR7 := hide (rowB_new w7 false (.slice xo ([] : List ValA).length xc))
  have HJ7 := hide (((unhide HJV).keepF hk).keepF k7a)
  have HV7 := hide (hv7.keepF k7a)
  have HK7 := hide ((unhide HK6).trans hk)
  have HK7a := hide (((unhide HK6).trans hk).trans k7a)
  clear hk HQ k7a hv7 s6 r60 r61 HJV
  have s7 := ((unhide HK7).cell (o := 0) hb0 id).trans s0
  have r70 := ((unhide HK7).cell (o := 0) hbs id).trans r0
  have r71 := ((unhide HK7).cell (o := 1) hbs id).trans r1
  have q7 : w.heap.size < w7.heap.size := Nat.lt_of_lt_of_le hb0 (unhide HK7).size
  have p7 : w.heap.size + 1 < w7.heap.size := Nat.lt_of_lt_of_le hbs (unhide HK7).size
  have HQ := hide (run_u S _ _ _ js hh vals _ ((unhide HE).keepF (unhide HK7a)) ((unhide HS).keepF (unhide HK7a)) (unhide HJ7) (unhide HJI) ((unhide HU).keepF (unhide HK7a)))
  rw [unhide HX4] at HQ
  simp only [List.length_nil] at *
  go_wp2_with fail
  refine (unhide HQ).mono ?_
  rintro e w8 ⟨yo, yc, rfl, hv8, hk⟩
  have k8a := kAlloc w8 (.cells #[.bool H4, .slice yo vs4.length yc, .int .i64 (st4 : Int), .int .i64 (dp4 : Int)] 34)
  have HO8 := hide (outB_new w8 H4 (.slice yo vs4.length yc) (st4 : Int) (dp4 : Int))
  have HR8 := hide (((unhide HR7).keep hk).keep k8a)
  have HV8 := hide (((unhide HV7).keepF hk).keepF k8a)
  have HY8 := hide (hv8.keepF k8a)
  have HK8 := hide ((unhide HK7a).trans hk)
  have HK8a := hide (((unhide HK7a).trans hk).trans k8a)
  clear hk HQ k8a hv8 s7 r70 r71 HR7 HV7 HJ7
  have s8 := ((unhide HK8).cell (o := 0) hb0 id).trans s0
  have r80 := ((unhide HK8).cell (o := 0) hbs id).trans r0
  have r81 := ((unhide HK8).cell (o := 1) hbs id).trans r1
  have q8 : w.heap.size < w8.heap.size := Nat.lt_of_lt_of_le hb0 (unhide HK8).size
  have p8 : w.heap.size + 1 < w8.heap.size := Nat.lt_of_lt_of_le hbs (unhide HK8).size
  have HQ := hide (checkSchema_v S _ _ ((unhide HE).keepF (unhide HK8a)).types ((unhide HS).keepF (unhide HK8a)))
  rw [unhide HSS] at HQ
  go_wp2_with fail
  refine (unhide HQ).mono ?_
  rintro e w9 ⟨rfl, hk⟩
  have HK9 := hide ((unhide HK8a).trans hk)
  obtain ⟨rl, d0, d1⟩ := (unhide HR8).keep hk
  obtain ⟨ol9, f0, f1, f2, f3⟩ := (unhide HO8).keep hk
  clear hk HQ s8 r80 r81 HR8 HO8 HV8 HY8
  go_wp2_with fail
  go_ret
  exact ⟨rfl, (unhide HB).trans (unhide HK9)⟩
set_option maxRecDepth 100000 in
set_option maxHeartbeats 8000000 in
theorem exec_Ab (S : List FieldA) (sv u v bv : Value) (l : List ValA) (t : Txt) (hh : Bool) (vals : List ValA) (w : World) (hE : Env w) (hS : FldsAt w sv S) (hl : ValsAt w v l) (hI : InR l) (hbt : BytesAt w bv t) (hr : ValsAt w u vals) (h1 : (runO S l hh vals).e = 0) (hs : errS S = 0) (hd : (decC t).2 ≠ 0) :
    Calls Tryd.prog 4 #[.agg #[sv], v, bv, .agg #[.bool hh, u]] w fun e w' => e = .returned (.bool true) ∧ Keeps (fun _ => False) w w' := by
  obtain ⟨E1, H1, vs1, st1, dp1, HO⟩ : ∃ a b c d e, Hid (runO S l hh vals = ⟨a, b, c, d, e⟩) := ⟨_, _, _, _, _, rfl⟩
  obtain ⟨cb, fE, HEC⟩ : ∃ a b, Hid (encC l = (a, b)) := ⟨_, _, rfl⟩
  obtain ⟨js, hE_, HDC⟩ : ∃ a b, Hid (decC t = (a, b)) := ⟨_, _, rfl⟩
  obtain ⟨lE, H4, vs4, st4, dp4, HX4⟩ : ∃ a b c d e, Hid (runO S js hh vals = ⟨a, b, c, d, e⟩) := ⟨_, _, _, _, _, rfl⟩
  have hv4l : vs4.length ≤ maxLen := by have := runO_len S js hh vals; rw [unhide HX4] at this; unfold maxLen; simp only at this; omega
  have hv1l : vs1.length ≤ maxLen := by have := runO_len S l hh vals; rw [unhide HO] at this; unfold maxLen; simp only at this; omega
  have HJI : Hid (InR js) := by have := dec_inR t; rw [unhide HDC] at this; exact this
  obtain ⟨hf, hx2⟩ := exec_enc hI h1
  rw [unhide HO] at h1 hx2
  rw [unhide HEC] at hf hx2
  simp only at h1 hf hx2
  subst h1
  subst hf
  have HX2 : Hid (execO S cb hh vals = ⟨0, H1, vs1, st1, dp1⟩) := hx2
  clear hx2
  have hx3 : execO S t hh vals = ⟨(decC t).2, false, [], 0, 0⟩ := by unfold execO decE; rw [if_neg (show ¬ errS S ≠ 0 from fun q => q hs), if_pos hd]
  rw [unhide HDC] at hx3 hd
  simp only at hx3 hd
  have HX3 : Hid (execO S t hh vals = ⟨hE_, false, [], 0, 0⟩) := hx3
  have bd : (hE_ != 0) = true := by rw [bne_iff_ne]; exact hd
  have HSS : Hid (errS S = 0) := hs
  clear hx3 hs hd
  obtain ⟨bo, bc, rfl⟩ := RowAt.form hbt
  have hbt0 := hbt
  obtain ⟨so, sc, rfl⟩ := RowAt.form hS
  obtain ⟨uo, uc, rfl⟩ := RowAt.form hr
  obtain ⟨vo, vc, rfl⟩ := RowAt.form hl
  obtain ⟨Wb, hWb, hkb, hbs, s0, r0, r1⟩ := two_boxes w (.slice so S.length sc) (.slice uo vals.length uc) hh
  have hb0 : w.heap.size < Wb.heap.size := by omega
  have hWb' := hWb.symm
  have HB := hide hkb
  have HS := hide (hS.keepF hkb)
  have HL := hide (hl.keepF hkb)
  have HU := hide (hr.keepF hkb)
  have HE := hide (hE.keepF hkb)
  have HK0 := hide (Keeps.refl (fun _ => False) Wb)
  have HQ := hide (works_v Wb (unhide HE))
  have HBT := hide (hbt0.keepF hkb)
  clear hE hS hl hr hkb hWb hbt hbt0
  go_enter Tryd.func4, Tryd.ntmps4
  go_wp2_with fail
  refine (unhide HQ).mono ?_
  rintro e w1 ⟨rfl, hk⟩
  have HK1 := hide hk
  clear hk HQ hWb'
  have s1 := ((unhide HK1).cell (o := 0) hb0 id).trans s0
  have r10 := ((unhide HK1).cell (o := 0) hbs id).trans r0
  have r11 := ((unhide HK1).cell (o := 1) hbs id).trans r1
  have q1 : w.heap.size < w1.heap.size := Nat.lt_of_lt_of_le hb0 (unhide HK1).size
  have p1 : w.heap.size + 1 < w1.heap.size := Nat.lt_of_lt_of_le hbs (unhide HK1).size
  have HQ := hide (run_u S _ _ (.slice vo l.length vc) l hh vals w1 ((unhide HE).keepF (unhide HK1)) ((unhide HS).keepF (unhide HK1)) ((unhide HL).keepF (unhide HK1)) hI ((unhide HU).keepF (unhide HK1)))
  rw [unhide HO] at HQ
  simp only at HQ
  go_wp2_with fail
  refine (unhide HQ).mono ?_
  rintro e w2 ⟨ro, rc, rfl, hv2, hk⟩
  have HK2 := hide ((unhide HK1).trans hk)
  clear hk HQ s1 r10 r11
  have s2 := ((unhide HK2).cell (o := 0) hb0 id).trans s0
  have r20 := ((unhide HK2).cell (o := 0) hbs id).trans r0
  have r21 := ((unhide HK2).cell (o := 1) hbs id).trans r1
  have q2 : w.heap.size < w2.heap.size := Nat.lt_of_lt_of_le hb0 (unhide HK2).size
  have p2 : w.heap.size + 1 < w2.heap.size := Nat.lt_of_lt_of_le hbs (unhide HK2).size
  have HO2 := hide (outB_new w2 H1 (.slice ro vs1.length rc) (st1 : Int) (dp1 : Int))
  have HK2a := hide ((unhide HK2).alloc (.cells #[.bool H1, .slice ro vs1.length rc, .int .i64 (st1 : Int), .int .i64 (dp1 : Int)] 34))
  have HV2 := hide (hv2.keepF (kAlloc w2 (.cells #[.bool H1, .slice ro vs1.length rc, .int .i64 (st1 : Int), .int .i64 (dp1 : Int)] 34)))
  have HQ := hide (encode_v l (.slice vo l.length vc) _ ((unhide HE).keepF (unhide HK2a)).ops ((unhide HE).keepF (unhide HK2a)).types ((unhide HL).keepF (unhide HK2a)) hI)
  rw [unhide HEC] at HQ
  simp only at HQ
  clear hv2
  go_wp2_with fail
  refine (unhide HQ).mono ?_
  rintro e w3 ⟨cv, rfl, hcv, hk⟩
  have hcv' : BytesAt w3 cv cb := rowAt_own hcv
  obtain ⟨co, cc, rfl⟩ := RowAt.form hcv'
  have HCV := hide hcv'
  have HK3 := hide ((unhide HK2a).trans hk)
  have HO3 := hide ((unhide HO2).keep hk)
  have HV3 := hide ((unhide HV2).keepF hk)
  clear hk HQ hcv hcv' s2 r20 r21 HO2 HV2 HK2a
  have s3 := ((unhide HK3).cell (o := 0) hb0 id).trans s0
  have r30 := ((unhide HK3).cell (o := 0) hbs id).trans r0
  have r31 := ((unhide HK3).cell (o := 1) hbs id).trans r1
  have q3 : w.heap.size < w3.heap.size := Nat.lt_of_lt_of_le hb0 (unhide HK3).size
  have p3 : w.heap.size + 1 < w3.heap.size := Nat.lt_of_lt_of_le hbs (unhide HK3).size
  have HQ := hide (exec_u S _ _ _ cb hh vals w3 ((unhide HE).keepF (unhide HK3)) ((unhide HS).keepF (unhide HK3)) (unhide HCV) ((unhide HU).keepF (unhide HK3)))
  rw [unhide HX2] at HQ
  simp only at HQ
  go_wp2_with fail
  refine (unhide HQ).mono ?_
  rintro e w4 ⟨qo, qc, rfl, hv4, hk⟩
  have k4a := kAlloc w4 (.cells #[.bool H1, .slice qo vs1.length qc] 28)
  have HO4 := hide (((unhide HO3).keep hk).keep k4a)
  have HR4 := hide (rowB_new w4 H1 (.slice qo vs1.length qc))
  have HV4 := hide (((unhide HV3).keepF hk).keepF k4a)
  have HW4 := hide (hv4.keepF k4a)
  have HK4 := hide ((unhide HK3).trans hk)
  have HK4a := hide (((unhide HK3).trans hk).trans k4a)
  have m4 := ((unhide HO3).keep hk)
  obtain ⟨ol, o0, o1, o2, o3⟩ := m4
  clear hk HQ k4a hv4 s3 r30 r31 HO3 HV3 HCV
  have s4 := ((unhide HK4).cell (o := 0) hb0 id).trans s0
  have r40 := ((unhide HK4).cell (o := 0) hbs id).trans r0
  have r41 := ((unhide HK4).cell (o := 1) hbs id).trans r1
  have q4 : w.heap.size < w4.heap.size := Nat.lt_of_lt_of_le hb0 (unhide HK4).size
  have p4 : w.heap.size + 1 < w4.heap.size := Nat.lt_of_lt_of_le hbs (unhide HK4).size
  have HQ := hide (eqRow_v _ H1 H1 _ _ vs1 vs1 (unhide HV4) (unhide HW4) hv1l)
  rw [decide_eq_true (show H1 = H1 from rfl), decide_eq_true (show vs1 = vs1 from rfl)] at HQ
  simp only [Bool.and_true] at HQ
  go_wp2_with fail
  refine (unhide HQ).mono ?_
  rintro e w5 ⟨rfl, hk⟩
  have HK5 := hide ((unhide HK4a).trans hk)
  clear hk HQ s4 r40 r41 o0 o1 o2 o3 HO4 HV4 HR4 HW4
  have s5 := ((unhide HK5).cell (o := 0) hb0 id).trans s0
  have r50 := ((unhide HK5).cell (o := 0) hbs id).trans r0
  have r51 := ((unhide HK5).cell (o := 1) hbs id).trans r1
  have q5 : w.heap.size < w5.heap.size := Nat.lt_of_lt_of_le hb0 (unhide HK5).size
  have p5 : w.heap.size + 1 < w5.heap.size := Nat.lt_of_lt_of_le hbs (unhide HK5).size
  have HQ := hide (decode_c t (.slice bo t.length bc) w5 ((unhide HE).keepF (unhide HK5)).ops ((unhide HE).keepF (unhide HK5)).types ((unhide HBT).keepF (unhide HK5)))
  rw [unhide HDC] at HQ
  simp only at HQ
  go_wp2_with fail
  refine (unhide HQ).mono ?_
  rintro e w6 ⟨jv, rfl, hjv, hk⟩
  have hjv' : ValsAt w6 jv js := rowAt_own hjv
  obtain ⟨jo, jc, rfl⟩ := RowAt.form hjv'
  have HJV := hide hjv'
  have HK6 := hide ((unhide HK5).trans hk)
  clear hk HQ hjv hjv' s5 r50 r51
  have s6 := ((unhide HK6).cell (o := 0) hb0 id).trans s0
  have r60 := ((unhide HK6).cell (o := 0) hbs id).trans r0
  have r61 := ((unhide HK6).cell (o := 1) hbs id).trans r1
  have q6 : w.heap.size < w6.heap.size := Nat.lt_of_lt_of_le hb0 (unhide HK6).size
  have p6 : w.heap.size + 1 < w6.heap.size := Nat.lt_of_lt_of_le hbs (unhide HK6).size
  have HQ := hide (exec_u S _ _ (.slice bo t.length bc) t hh vals w6 ((unhide HE).keepF (unhide HK6)) ((unhide HS).keepF (unhide HK6)) ((unhide HBT).keepF (unhide HK6)) ((unhide HU).keepF (unhide HK6)))
  rw [unhide HX3] at HQ
  simp only [List.length_nil] at HQ
  go_wp2_with fail
  refine (unhide HQ).mono ?_
  rintro e w7 ⟨xo, xc, rfl, hv7, hk⟩
  have k7a := kAlloc w7 (.cells #[.bool false, .slice xo ([] : List ValA).length xc] 28)
  have HR7 := hide (rowB_new w7 false (.slice xo ([] : List ValA).length xc))
  have HJ7 := hide (((unhide HJV).keepF hk).keepF k7a)
  have HV7 := hide (hv7.keepF k7a)
  have HK7 := hide ((unhide HK6).trans hk)
  have HK7a := hide (((unhide HK6).trans hk).trans k7a)
  clear hk HQ k7a hv7 s6 r60 r61 HJV
  have s7 := ((unhide HK7).cell (o := 0) hb0 id).trans s0
  have r70 := ((unhide HK7).cell (o := 0) hbs id).trans r0
  have r71 := ((unhide HK7).cell (o := 1) hbs id).trans r1
  have q7 : w.heap.size < w7.heap.size := Nat.lt_of_lt_of_le hb0 (unhide HK7).size
  have p7 : w.heap.size + 1 < w7.heap.size := Nat.lt_of_lt_of_le hbs (unhide HK7).size
  have HQ := hide (run_u S _ _ _ js hh vals _ ((unhide HE).keepF (unhide HK7a)) ((unhide HS).keepF (unhide HK7a)) (unhide HJ7) (unhide HJI) ((unhide HU).keepF (unhide HK7a)))
  rw [unhide HX4] at HQ
  simp only [List.length_nil] at *
  go_wp2_with fail
  refine (unhide HQ).mono ?_
  rintro e w8 ⟨yo, yc, rfl, hv8, hk⟩
  have k8a := kAlloc w8 (.cells #[.bool H4, .slice yo vs4.length yc, .int .i64 (st4 : Int), .int .i64 (dp4 : Int)] 34)
  have HO8 := hide (outB_new w8 H4 (.slice yo vs4.length yc) (st4 : Int) (dp4 : Int))
  have HR8 := hide (((unhide HR7).keep hk).keep k8a)
  have HV8 := hide (((unhide HV7).keepF hk).keepF k8a)
  have HY8 := hide (hv8.keepF k8a)
  have HK8 := hide ((unhide HK7a).trans hk)
  have HK8a := hide (((unhide HK7a).trans hk).trans k8a)
  clear hk HQ k8a hv8 s7 r70 r71 HR7 HV7 HJ7
  have s8 := ((unhide HK8).cell (o := 0) hb0 id).trans s0
  have r80 := ((unhide HK8).cell (o := 0) hbs id).trans r0
  have r81 := ((unhide HK8).cell (o := 1) hbs id).trans r1
  have q8 : w.heap.size < w8.heap.size := Nat.lt_of_lt_of_le hb0 (unhide HK8).size
  have p8 : w.heap.size + 1 < w8.heap.size := Nat.lt_of_lt_of_le hbs (unhide HK8).size
  have HQ := hide (checkSchema_v S _ _ ((unhide HE).keepF (unhide HK8a)).types ((unhide HS).keepF (unhide HK8a)))
  rw [unhide HSS] at HQ
  go_wp2_with fail
  refine (unhide HQ).mono ?_
  rintro e w9 ⟨rfl, hk⟩
  have HK9 := hide ((unhide HK8a).trans hk)
  obtain ⟨rl, d0, d1⟩ := (unhide HR8).keep hk
  obtain ⟨ol9, f0, f1, f2, f3⟩ := (unhide HO8).keep hk
  clear hk HQ s8 r80 r81 HR8 HO8 HV8 HY8
  go_wp2_with fail
  go_ret
  exact ⟨rfl, (unhide HB).trans (unhide HK9)⟩
set_option maxRecDepth 100000 in
set_option maxHeartbeats 8000000 in
theorem exec_Ac (S : List FieldA) (sv u v bv : Value) (l : List ValA) (t : Txt) (hh : Bool) (vals : List ValA) (w : World) (hE : Env w) (hS : FldsAt w sv S) (hl : ValsAt w v l) (hI : InR l) (hbt : BytesAt w bv t) (hr : ValsAt w u vals) (h1 : (runO S l hh vals).e = 0) (hs : errS S = 0) (hd : (decC t).2 = 0) :
    Calls Tryd.prog 4 #[.agg #[sv], v, bv, .agg #[.bool hh, u]] w fun e w' => e = .returned (.bool true) ∧ Keeps (fun _ => False) w w' := by
  obtain ⟨E1, H1, vs1, st1, dp1, HO⟩ : ∃ a b c d e, Hid (runO S l hh vals = ⟨a, b, c, d, e⟩) := ⟨_, _, _, _, _, rfl⟩
  obtain ⟨cb, fE, HEC⟩ : ∃ a b, Hid (encC l = (a, b)) := ⟨_, _, rfl⟩
  obtain ⟨js, hE_, HDC⟩ : ∃ a b, Hid (decC t = (a, b)) := ⟨_, _, rfl⟩
  obtain ⟨lE, H4, vs4, st4, dp4, HX4⟩ : ∃ a b c d e, Hid (runO S js hh vals = ⟨a, b, c, d, e⟩) := ⟨_, _, _, _, _, rfl⟩
  have hv4l : vs4.length ≤ maxLen := by have := runO_len S js hh vals; rw [unhide HX4] at this; unfold maxLen; simp only at this; omega
  have hv1l : vs1.length ≤ maxLen := by have := runO_len S l hh vals; rw [unhide HO] at this; unfold maxLen; simp only at this; omega
  have HJI : Hid (InR js) := by have := dec_inR t; rw [unhide HDC] at this; exact this
  obtain ⟨hf, hx2⟩ := exec_enc hI h1
  rw [unhide HO] at h1 hx2
  rw [unhide HEC] at hf hx2
  simp only at h1 hf hx2
  subst h1
  subst hf
  have HX2 : Hid (execO S cb hh vals = ⟨0, H1, vs1, st1, dp1⟩) := hx2
  clear hx2
  have hx3 : execO S t hh vals = runO S (decC t).1 hh vals := by unfold execO decE; rw [if_neg (show ¬ errS S ≠ 0 from fun q => q hs), if_neg (fun q => q hd)]
  rw [unhide HDC] at hx3 hd
  simp only at hx3 hd
  have HX3 : Hid (execO S t hh vals = ⟨lE, H4, vs4, st4, dp4⟩) := hx3.trans (unhide HX4)
  subst hd
  have HSS : Hid (errS S = 0) := hs
  clear hx3 hs
  obtain ⟨bo, bc, rfl⟩ := RowAt.form hbt
  have hbt0 := hbt
  obtain ⟨so, sc, rfl⟩ := RowAt.form hS
  obtain ⟨uo, uc, rfl⟩ := RowAt.form hr
  obtain ⟨vo, vc, rfl⟩ := RowAt.form hl
  obtain ⟨Wb, hWb, hkb, hbs, s0, r0, r1⟩ := two_boxes w (.slice so S.length sc) (.slice uo vals.length uc) hh
  have hb0 : w.heap.size < Wb.heap.size := by omega
  have hWb' := hWb.symm
  have HB := hide hkb
  have HS := hide (hS.keepF hkb)
  have HL := hide (hl.keepF hkb)
  have HU := hide (hr.keepF hkb)
  have HE := hide (hE.keepF hkb)
  have HK0 := hide (Keeps.refl (fun _ => False) Wb)
  have HQ := hide (works_v Wb (unhide HE))
  have HBT := hide (hbt0.keepF hkb)
  clear hE hS hl hr hkb hWb hbt hbt0
  go_enter Tryd.func4, Tryd.ntmps4
  go_wp2_with fail
  refine (unhide HQ).mono ?_
  rintro e w1 ⟨rfl, hk⟩
  have HK1 := hide hk
  clear hk HQ hWb'
  have s1 := ((unhide HK1).cell (o := 0) hb0 id).trans s0
  have r10 := ((unhide HK1).cell (o := 0) hbs id).trans r0
  have r11 := ((unhide HK1).cell (o := 1) hbs id).trans r1
  have q1 : w.heap.size < w1.heap.size := Nat.lt_of_lt_of_le hb0 (unhide HK1).size
  have p1 : w.heap.size + 1 < w1.heap.size := Nat.lt_of_lt_of_le hbs (unhide HK1).size
  have HQ := hide (run_u S _ _ (.slice vo l.length vc) l hh vals w1 ((unhide HE).keepF (unhide HK1)) ((unhide HS).keepF (unhide HK1)) ((unhide HL).keepF (unhide HK1)) hI ((unhide HU).keepF (unhide HK1)))
  rw [unhide HO] at HQ
  simp only at HQ
  go_wp2_with fail
  refine (unhide HQ).mono ?_
  rintro e w2 ⟨ro, rc, rfl, hv2, hk⟩
  have HK2 := hide ((unhide HK1).trans hk)
  clear hk HQ s1 r10 r11
  have s2 := ((unhide HK2).cell (o := 0) hb0 id).trans s0
  have r20 := ((unhide HK2).cell (o := 0) hbs id).trans r0
  have r21 := ((unhide HK2).cell (o := 1) hbs id).trans r1
  have q2 : w.heap.size < w2.heap.size := Nat.lt_of_lt_of_le hb0 (unhide HK2).size
  have p2 : w.heap.size + 1 < w2.heap.size := Nat.lt_of_lt_of_le hbs (unhide HK2).size
  have HO2 := hide (outB_new w2 H1 (.slice ro vs1.length rc) (st1 : Int) (dp1 : Int))
  have HK2a := hide ((unhide HK2).alloc (.cells #[.bool H1, .slice ro vs1.length rc, .int .i64 (st1 : Int), .int .i64 (dp1 : Int)] 34))
  have HV2 := hide (hv2.keepF (kAlloc w2 (.cells #[.bool H1, .slice ro vs1.length rc, .int .i64 (st1 : Int), .int .i64 (dp1 : Int)] 34)))
  have HQ := hide (encode_v l (.slice vo l.length vc) _ ((unhide HE).keepF (unhide HK2a)).ops ((unhide HE).keepF (unhide HK2a)).types ((unhide HL).keepF (unhide HK2a)) hI)
  rw [unhide HEC] at HQ
  simp only at HQ
  clear hv2
  go_wp2_with fail
  refine (unhide HQ).mono ?_
  rintro e w3 ⟨cv, rfl, hcv, hk⟩
  have hcv' : BytesAt w3 cv cb := rowAt_own hcv
  obtain ⟨co, cc, rfl⟩ := RowAt.form hcv'
  have HCV := hide hcv'
  have HK3 := hide ((unhide HK2a).trans hk)
  have HO3 := hide ((unhide HO2).keep hk)
  have HV3 := hide ((unhide HV2).keepF hk)
  clear hk HQ hcv hcv' s2 r20 r21 HO2 HV2 HK2a
  have s3 := ((unhide HK3).cell (o := 0) hb0 id).trans s0
  have r30 := ((unhide HK3).cell (o := 0) hbs id).trans r0
  have r31 := ((unhide HK3).cell (o := 1) hbs id).trans r1
  have q3 : w.heap.size < w3.heap.size := Nat.lt_of_lt_of_le hb0 (unhide HK3).size
  have p3 : w.heap.size + 1 < w3.heap.size := Nat.lt_of_lt_of_le hbs (unhide HK3).size
  have HQ := hide (exec_u S _ _ _ cb hh vals w3 ((unhide HE).keepF (unhide HK3)) ((unhide HS).keepF (unhide HK3)) (unhide HCV) ((unhide HU).keepF (unhide HK3)))
  rw [unhide HX2] at HQ
  simp only at HQ
  go_wp2_with fail
  refine (unhide HQ).mono ?_
  rintro e w4 ⟨qo, qc, rfl, hv4, hk⟩
  have k4a := kAlloc w4 (.cells #[.bool H1, .slice qo vs1.length qc] 28)
  have HO4 := hide (((unhide HO3).keep hk).keep k4a)
  have HR4 := hide (rowB_new w4 H1 (.slice qo vs1.length qc))
  have HV4 := hide (((unhide HV3).keepF hk).keepF k4a)
  have HW4 := hide (hv4.keepF k4a)
  have HK4 := hide ((unhide HK3).trans hk)
  have HK4a := hide (((unhide HK3).trans hk).trans k4a)
  have m4 := ((unhide HO3).keep hk)
  obtain ⟨ol, o0, o1, o2, o3⟩ := m4
  clear hk HQ k4a hv4 s3 r30 r31 HO3 HV3 HCV
  have s4 := ((unhide HK4).cell (o := 0) hb0 id).trans s0
  have r40 := ((unhide HK4).cell (o := 0) hbs id).trans r0
  have r41 := ((unhide HK4).cell (o := 1) hbs id).trans r1
  have q4 : w.heap.size < w4.heap.size := Nat.lt_of_lt_of_le hb0 (unhide HK4).size
  have p4 : w.heap.size + 1 < w4.heap.size := Nat.lt_of_lt_of_le hbs (unhide HK4).size
  have HQ := hide (eqRow_v _ H1 H1 _ _ vs1 vs1 (unhide HV4) (unhide HW4) hv1l)
  rw [decide_eq_true (show H1 = H1 from rfl), decide_eq_true (show vs1 = vs1 from rfl)] at HQ
  simp only [Bool.and_true] at HQ
  go_wp2_with fail
  refine (unhide HQ).mono ?_
  rintro e w5 ⟨rfl, hk⟩
  have HK5 := hide ((unhide HK4a).trans hk)
  clear hk HQ s4 r40 r41 o0 o1 o2 o3 HO4 HV4 HR4 HW4
  have s5 := ((unhide HK5).cell (o := 0) hb0 id).trans s0
  have r50 := ((unhide HK5).cell (o := 0) hbs id).trans r0
  have r51 := ((unhide HK5).cell (o := 1) hbs id).trans r1
  have q5 : w.heap.size < w5.heap.size := Nat.lt_of_lt_of_le hb0 (unhide HK5).size
  have p5 : w.heap.size + 1 < w5.heap.size := Nat.lt_of_lt_of_le hbs (unhide HK5).size
  have HQ := hide (decode_c t (.slice bo t.length bc) w5 ((unhide HE).keepF (unhide HK5)).ops ((unhide HE).keepF (unhide HK5)).types ((unhide HBT).keepF (unhide HK5)))
  rw [unhide HDC] at HQ
  simp only at HQ
  go_wp2_with fail
  refine (unhide HQ).mono ?_
  rintro e w6 ⟨jv, rfl, hjv, hk⟩
  have hjv' : ValsAt w6 jv js := rowAt_own hjv
  obtain ⟨jo, jc, rfl⟩ := RowAt.form hjv'
  have HJV := hide hjv'
  have HK6 := hide ((unhide HK5).trans hk)
  clear hk HQ hjv hjv' s5 r50 r51
  have s6 := ((unhide HK6).cell (o := 0) hb0 id).trans s0
  have r60 := ((unhide HK6).cell (o := 0) hbs id).trans r0
  have r61 := ((unhide HK6).cell (o := 1) hbs id).trans r1
  have q6 : w.heap.size < w6.heap.size := Nat.lt_of_lt_of_le hb0 (unhide HK6).size
  have p6 : w.heap.size + 1 < w6.heap.size := Nat.lt_of_lt_of_le hbs (unhide HK6).size
  have HQ := hide (exec_u S _ _ (.slice bo t.length bc) t hh vals w6 ((unhide HE).keepF (unhide HK6)) ((unhide HS).keepF (unhide HK6)) ((unhide HBT).keepF (unhide HK6)) ((unhide HU).keepF (unhide HK6)))
  rw [unhide HX3] at HQ
  simp only at HQ
  go_wp2_with fail
  refine (unhide HQ).mono ?_
  rintro e w7 ⟨xo, xc, rfl, hv7, hk⟩
  have k7a := kAlloc w7 (.cells #[.bool H4, .slice xo vs4.length xc] 28)
  have HR7 := hide (rowB_new w7 H4 (.slice xo vs4.length xc))
  have HJ7 := hide (((unhide HJV).keepF hk).keepF k7a)
  have HV7 := hide (hv7.keepF k7a)
  have HK7 := hide ((unhide HK6).trans hk)
  have HK7a := hide (((unhide HK6).trans hk).trans k7a)
  clear hk HQ k7a hv7 s6 r60 r61 HJV
  have s7 := ((unhide HK7).cell (o := 0) hb0 id).trans s0
  have r70 := ((unhide HK7).cell (o := 0) hbs id).trans r0
  have r71 := ((unhide HK7).cell (o := 1) hbs id).trans r1
  have q7 : w.heap.size < w7.heap.size := Nat.lt_of_lt_of_le hb0 (unhide HK7).size
  have p7 : w.heap.size + 1 < w7.heap.size := Nat.lt_of_lt_of_le hbs (unhide HK7).size
  have HQ := hide (run_u S _ _ _ js hh vals _ ((unhide HE).keepF (unhide HK7a)) ((unhide HS).keepF (unhide HK7a)) (unhide HJ7) (unhide HJI) ((unhide HU).keepF (unhide HK7a)))
  rw [unhide HX4] at HQ
  simp only at *
  go_wp2_with fail
  refine (unhide HQ).mono ?_
  rintro e w8 ⟨yo, yc, rfl, hv8, hk⟩
  have k8a := kAlloc w8 (.cells #[.bool H4, .slice yo vs4.length yc, .int .i64 (st4 : Int), .int .i64 (dp4 : Int)] 34)
  have HO8 := hide (outB_new w8 H4 (.slice yo vs4.length yc) (st4 : Int) (dp4 : Int))
  have HR8 := hide (((unhide HR7).keep hk).keep k8a)
  have HV8 := hide (((unhide HV7).keepF hk).keepF k8a)
  have HY8 := hide (hv8.keepF k8a)
  have HK8 := hide ((unhide HK7a).trans hk)
  have HK8a := hide (((unhide HK7a).trans hk).trans k8a)
  clear hk HQ k8a hv8 s7 r70 r71 HR7 HV7 HJ7
  have s8 := ((unhide HK8).cell (o := 0) hb0 id).trans s0
  have r80 := ((unhide HK8).cell (o := 0) hbs id).trans r0
  have r81 := ((unhide HK8).cell (o := 1) hbs id).trans r1
  have q8 : w.heap.size < w8.heap.size := Nat.lt_of_lt_of_le hb0 (unhide HK8).size
  have p8 : w.heap.size + 1 < w8.heap.size := Nat.lt_of_lt_of_le hbs (unhide HK8).size
  have HQ := hide (checkSchema_v S _ _ ((unhide HE).keepF (unhide HK8a)).types ((unhide HS).keepF (unhide HK8a)))
  rw [unhide HSS] at HQ
  go_wp2_with fail
  refine (unhide HQ).mono ?_
  rintro e w9 ⟨rfl, hk⟩
  have HK9 := hide ((unhide HK8a).trans hk)
  obtain ⟨rl, d0, d1⟩ := (unhide HR8).keep hk
  obtain ⟨ol9, f0, f1, f2, f3⟩ := (unhide HO8).keep hk
  have HQ := hide (eqRow_v w9 H4 H4 _ _ vs4 vs4 ((unhide HY8).keepF hk) ((unhide HV8).keepF hk) hv4l)
  rw [decide_eq_true (show H4 = H4 from rfl), decide_eq_true (show vs4 = vs4 from rfl)] at HQ
  simp only [Bool.and_true] at HQ
  clear hk s8 r80 r81 HR8 HO8 HV8 HY8
  go_wp2_with fail
  refine (unhide HQ).mono ?_
  rintro e wz ⟨rfl, hk⟩
  have HKz := hide ((unhide HK9).trans hk)
  clear hk HQ
  go_wp2_with fail
  go_ret
  exact ⟨rfl, (unhide HB).trans (unhide HKz)⟩
end Go.Proofs.YtonodcmbbgpjjaaDoor
