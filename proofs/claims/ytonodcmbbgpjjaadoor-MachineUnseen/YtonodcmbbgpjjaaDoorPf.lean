import Derived.Test.YtonodcmbbgpjjaaDoorPe2
namespace Go.Proofs.YtonodcmbbgpjjaaDoor
open Go.RowKit Go.Maps
/-- Three boxes: a schema's, a row's, an instruction's. -/
theorem three_boxes (w : World) (sv rv : Value) (hh : Bool) (x y z : Value) : ∃ Wb, Wb = ((w.alloc (.cells #[sv] 24)).alloc (.cells #[.bool hh, rv] 28)).alloc (.cells #[x, y, z] 59) ∧ Keeps (fun _ => False) w Wb ∧ w.heap.size + 1 + 1 < Wb.heap.size ∧ Wb.cell? ⟨w.heap.size, 0, none⟩ = some sv ∧ Wb.cell? ⟨w.heap.size + 1, 0, none⟩ = some (.bool hh) ∧ Wb.cell? ⟨w.heap.size + 1, 1, none⟩ = some rv ∧ Wb.cell? ⟨w.heap.size + 1 + 1, 0, none⟩ = some x ∧ Wb.cell? ⟨w.heap.size + 1 + 1, 1, none⟩ = some y ∧ Wb.cell? ⟨w.heap.size + 1 + 1, 2, none⟩ = some z := by
  obtain ⟨W2, rfl, hk, hlt, c0, c1, c2⟩ := two_boxes w sv rv hh
  have k3 := kAlloc ((w.alloc (.cells #[sv] 24)).alloc (.cells #[.bool hh, rv] 28)) (.cells #[x, y, z] 59)
  have h3 := heap_alloc_new ((w.alloc (.cells #[sv] 24)).alloc (.cells #[.bool hh, rv] 28)) (.cells #[x, y, z] 59)
  rw [show ((w.alloc (.cells #[sv] 24)).alloc (.cells #[.bool hh, rv] 28)).heap.size = w.heap.size + 1 + 1 by simp] at h3
  exact ⟨_, rfl, hk.trans k3, lt_of_block h3, (k3.cell (by omega) id).trans c0, (k3.cell hlt id).trans c1, (k3.cell hlt id).trans c2, (cell_of_blk h3 _).trans rfl, (cell_of_blk h3 _).trans rfl, (cell_of_blk h3 _).trans rfl⟩
theorem own_set3i {w : World} {B : Nat} {rv : Value} {l : List ValA} (h : w.ownsRow B 59 3 rv l.length (vcs l)) {g cap : Nat} (hr : rv = .slice (some ⟨g, 0, none⟩) l.length cap) {n : Nat} (hn : n < l.length) (v : ValA) :
    (((w.setCell ⟨g, n * 3, none⟩ (.int .i64 v.kind)).setCell ⟨g, n * 3 + 1, none⟩ (.int .i64 v.n)).setCell ⟨g, n * 3 + 2, none⟩ (str v.s)).ownsRow B 59 3 rv (l.set n v).length (vcs (l.set n v)) := by
  subst hr
  have h1 := (((h.stored (n * 3) (.int .i64 v.kind)).1.stored (n * 3 + 1) (.int .i64 v.n)).1.stored (n * 3 + 2) (str v.s)).1
  rw [vcs_set3 v l n hn] at h1
  simpa using h1
/-- What a run does not come to may be another. -/
theorem unseen_pure {S : List FieldA} {l : List ValA} {hh : Bool} {vals : List ValA} {p : Nat} {ot : ValA} (h0 : (runO S l hh vals).e = 0) (hD : ∀ z ∈ traceO S l hh vals, z.1 ≠ p) (hV : (verifyA S (l.set p ot)).2.2 = 0) : runO S (l.set p ot) hh vals = runO S l hh vals := by
  obtain ⟨h1, h2⟩ := runO_ok h0
  have hT : traceO S l hh vals = (playM S l l.length 0 ⟨[], hh, vals⟩).1 := by unfold traceO outD; rw [h1, h2, if_neg (by decide)]
  rw [hT] at hD
  have hp : playM S (l.set p ot) (l.set p ot).length 0 ⟨[], hh, vals⟩ = playM S l l.length 0 ⟨[], hh, vals⟩ := by
    rw [List.length_set]
    exact play_unseen l.length 0 ⟨[], hh, vals⟩ (fun z hz => List.getElem?_set_ne (fun q => hD z hz q.symm)) (by rw [List.length_set])
  unfold runO
  rw [hV, h1, hp]
set_option maxRecDepth 100000 in
set_option maxHeartbeats 4000000 in
theorem unseen_1 (S : List FieldA) (sv u v : Value) (l : List ValA) (hh : Bool) (vals : List ValA) (at_ : Int) (ot : ValA) (w : World) (hE : Env w) (hS : FldsAt w sv S) (hl : ValsAt w v l) (hI : InR l) (hr : ValsAt w u vals) (h1 : (runO S l hh vals).e ≠ 0) :
    Calls Tryd.prog 5 #[.agg #[sv], v, .agg #[.bool hh, u], .int .i64 at_, .agg #[.int .i64 ot.kind, .int .i64 ot.n, str ot.s]] w fun e w' => e = .returned (.bool true) ∧ Keeps (fun _ => False) w w' := by
  obtain ⟨E1, H1, vs1, st1, dp1, HO⟩ : ∃ a b c d e, Hid (runO S l hh vals = ⟨a, b, c, d, e⟩) := ⟨_, _, _, _, _, rfl⟩
  obtain ⟨D, HD⟩ : ∃ D, Hid (traceO S l hh vals = D) := ⟨_, rfl⟩
  rw [unhide HO] at h1
  simp only at h1
  have be : (E1 != 0) = true := by rw [bne_iff_ne]; exact h1
  clear h1
  obtain ⟨so, sc, rfl⟩ := RowAt.form hS
  obtain ⟨uo, uc, rfl⟩ := RowAt.form hr
  obtain ⟨vo, vc, rfl⟩ := RowAt.form hl
  obtain ⟨Wb, hWb, hkb, hbx, s0, r0, r1, x0, x1, x2⟩ := three_boxes w (.slice so S.length sc) (.slice uo vals.length uc) hh (.int .i64 ot.kind) (.int .i64 ot.n) (str ot.s)
  have hbs : w.heap.size + 1 < Wb.heap.size := by omega
  have hb0 : w.heap.size < Wb.heap.size := by omega
  have hWb' := hWb.symm
  have HB := hide hkb
  have HS := hide (hS.keepF hkb)
  have HL := hide (hl.keepF hkb)
  have HU := hide (hr.keepF hkb)
  have HE := hide (hE.keepF hkb)
  have HK0 := hide (Keeps.refl (fun _ => False) Wb)
  have HQ := hide (works_v Wb (unhide HE))
  clear hE hS hl hr hkb hWb
  go_enter Tryd.func5, Tryd.ntmps5
  go_wp2_with fail
  refine (unhide HQ).mono ?_
  rintro e w1 ⟨rfl, hk⟩
  have HK1 := hide hk
  clear hk HQ hWb'
  have s1 := ((unhide HK1).cell (o := 0) hb0 id).trans s0
  have r10 := ((unhide HK1).cell (o := 0) hbs id).trans r0
  have r11 := ((unhide HK1).cell (o := 1) hbs id).trans r1
  have q1 : w.heap.size < w1.heap.size := Nat.lt_of_lt_of_le hb0 (unhide HK1).size
  have p1 : w.heap.size + 1 < w1.heap.size := Nat.lt_of_lt_of_le hbs (unhide HK1).size
  have HQ := hide (run_u S _ _ (.slice vo l.length vc) l hh vals w1 ((unhide HE).keepF (unhide HK1)) ((unhide HS).keepF (unhide HK1)) ((unhide HL).keepF (unhide HK1)) hI ((unhide HU).keepF (unhide HK1)))
  rw [unhide HO] at HQ
  simp only at HQ
  go_wp2_with fail
  refine (unhide HQ).mono ?_
  rintro e w2 ⟨ro, rc, rfl, hv2, hk⟩
  have HK2 := hide ((unhide HK1).trans hk)
  clear hk HQ s1 r10 r11
  have s2 := ((unhide HK2).cell (o := 0) hb0 id).trans s0
  have r20 := ((unhide HK2).cell (o := 0) hbs id).trans r0
  have r21 := ((unhide HK2).cell (o := 1) hbs id).trans r1
  have q2 : w.heap.size < w2.heap.size := Nat.lt_of_lt_of_le hb0 (unhide HK2).size
  have p2 : w.heap.size + 1 < w2.heap.size := Nat.lt_of_lt_of_le hbs (unhide HK2).size
  have HO2 := hide (outB_new w2 H1 (.slice ro vs1.length rc) (st1 : Int) (dp1 : Int))
  have HK2a := hide ((unhide HK2).alloc (.cells #[.bool H1, .slice ro vs1.length rc, .int .i64 (st1 : Int), .int .i64 (dp1 : Int)] 34))
  have HV2 := hide (hv2.keepF (kAlloc w2 (.cells #[.bool H1, .slice ro vs1.length rc, .int .i64 (st1 : Int), .int .i64 (dp1 : Int)] 34)))
  have HQ := hide (trace_u S _ _ (.slice vo l.length vc) l hh vals _ ((unhide HE).keepF (unhide HK2a)) ((unhide HS).keepF (unhide HK2a)) ((unhide HL).keepF (unhide HK2a)) hI ((unhide HU).keepF (unhide HK2a)))
  rw [unhide HO, unhide HD] at HQ
  simp only at HQ
  clear hv2
  go_wp2_with fail
  refine (unhide HQ).mono ?_
  rintro e w3 ⟨to, tc, rfl, ht3, hk⟩
  have HK3 := hide ((unhide HK2a).trans hk)
  have HO3 := hide ((unhide HO2).keep hk)
  have HV3 := hide ((unhide HV2).keepF hk)
  have HT3 := hide ht3
  clear hk HQ s2 r20 r21 HO2 HV2 ht3 HK2a
  have s3 := ((unhide HK3).cell (o := 0) hb0 id).trans s0
  have r30 := ((unhide HK3).cell (o := 0) hbs id).trans r0
  have r31 := ((unhide HK3).cell (o := 1) hbs id).trans r1
  have q3 : w.heap.size < w3.heap.size := Nat.lt_of_lt_of_le hb0 (unhide HK3).size
  have p3 : w.heap.size + 1 < w3.heap.size := Nat.lt_of_lt_of_le hbs (unhide HK3).size
  generalize ot.kind = okk at *
  generalize ot.n = okn at *
  go_wp2_with fail
  go_ret
  exact ⟨rfl, (unhide HB).trans (unhide HK3)⟩
set_option maxRecDepth 100000 in
set_option maxHeartbeats 4000000 in
theorem unseen_2 (S : List FieldA) (sv u v : Value) (l : List ValA) (hh : Bool) (vals : List ValA) (at_ : Int) (ot : ValA) (w : World) (hE : Env w) (hS : FldsAt w sv S) (hl : ValsAt w v l) (hI : InR l) (hr : ValsAt w u vals) (h1 : (runO S l hh vals).e = 0) (ha : at_ < 0 ∨ (l.length : Int) ≤ at_) :
    Calls Tryd.prog 5 #[.agg #[sv], v, .agg #[.bool hh, u], .int .i64 at_, .agg #[.int .i64 ot.kind, .int .i64 ot.n, str ot.s]] w fun e w' => e = .returned (.bool true) ∧ Keeps (fun _ => False) w w' := by
  obtain ⟨E1, H1, vs1, st1, dp1, HO⟩ : ∃ a b c d e, Hid (runO S l hh vals = ⟨a, b, c, d, e⟩) := ⟨_, _, _, _, _, rfl⟩
  obtain ⟨D, HD⟩ : ∃ D, Hid (traceO S l hh vals = D) := ⟨_, rfl⟩
  rw [unhide HO] at h1
  simp only at h1
  subst h1
  obtain ⟨so, sc, rfl⟩ := RowAt.form hS
  obtain ⟨uo, uc, rfl⟩ := RowAt.form hr
  obtain ⟨vo, vc, rfl⟩ := RowAt.form hl
  obtain ⟨Wb, hWb, hkb, hbx, s0, r0, r1, x0, x1, x2⟩ := three_boxes w (.slice so S.length sc) (.slice uo vals.length uc) hh (.int .i64 ot.kind) (.int .i64 ot.n) (str ot.s)
  have hbs : w.heap.size + 1 < Wb.heap.size := by omega
  have hb0 : w.heap.size < Wb.heap.size := by omega
  have hWb' := hWb.symm
  have HB := hide hkb
  have HS := hide (hS.keepF hkb)
  have HL := hide (hl.keepF hkb)
  have HU := hide (hr.keepF hkb)
  have HE := hide (hE.keepF hkb)
  have HK0 := hide (Keeps.refl (fun _ => False) Wb)
  have HQ := hide (works_v Wb (unhide HE))
  clear hE hS hl hr hkb hWb
  go_enter Tryd.func5, Tryd.ntmps5
  go_wp2_with fail
  refine (unhide HQ).mono ?_
  rintro e w1 ⟨rfl, hk⟩
  have HK1 := hide hk
  clear hk HQ hWb'
  have s1 := ((unhide HK1).cell (o := 0) hb0 id).trans s0
  have r10 := ((unhide HK1).cell (o := 0) hbs id).trans r0
  have r11 := ((unhide HK1).cell (o := 1) hbs id).trans r1
  have q1 : w.heap.size < w1.heap.size := Nat.lt_of_lt_of_le hb0 (unhide HK1).size
  have p1 : w.heap.size + 1 < w1.heap.size := Nat.lt_of_lt_of_le hbs (unhide HK1).size
  have HQ := hide (run_u S _ _ (.slice vo l.length vc) l hh vals w1 ((unhide HE).keepF (unhide HK1)) ((unhide HS).keepF (unhide HK1)) ((unhide HL).keepF (unhide HK1)) hI ((unhide HU).keepF (unhide HK1)))
  rw [unhide HO] at HQ
  simp only at HQ
  go_wp2_with fail
  refine (unhide HQ).mono ?_
  rintro e w2 ⟨ro, rc, rfl, hv2, hk⟩
  have HK2 := hide ((unhide HK1).trans hk)
  clear hk HQ s1 r10 r11
  have s2 := ((unhide HK2).cell (o := 0) hb0 id).trans s0
  have r20 := ((unhide HK2).cell (o := 0) hbs id).trans r0
  have r21 := ((unhide HK2).cell (o := 1) hbs id).trans r1
  have q2 : w.heap.size < w2.heap.size := Nat.lt_of_lt_of_le hb0 (unhide HK2).size
  have p2 : w.heap.size + 1 < w2.heap.size := Nat.lt_of_lt_of_le hbs (unhide HK2).size
  have HO2 := hide (outB_new w2 H1 (.slice ro vs1.length rc) (st1 : Int) (dp1 : Int))
  have HK2a := hide ((unhide HK2).alloc (.cells #[.bool H1, .slice ro vs1.length rc, .int .i64 (st1 : Int), .int .i64 (dp1 : Int)] 34))
  have HV2 := hide (hv2.keepF (kAlloc w2 (.cells #[.bool H1, .slice ro vs1.length rc, .int .i64 (st1 : Int), .int .i64 (dp1 : Int)] 34)))
  have HQ := hide (trace_u S _ _ (.slice vo l.length vc) l hh vals _ ((unhide HE).keepF (unhide HK2a)) ((unhide HS).keepF (unhide HK2a)) ((unhide HL).keepF (unhide HK2a)) hI ((unhide HU).keepF (unhide HK2a)))
  rw [unhide HO, unhide HD] at HQ
  simp only at HQ
  clear hv2
  go_wp2_with fail
  refine (unhide HQ).mono ?_
  rintro e w3 ⟨to, tc, rfl, ht3, hk⟩
  have HK3 := hide ((unhide HK2a).trans hk)
  have HO3 := hide ((unhide HO2).keep hk)
  have HV3 := hide ((unhide HV2).keepF hk)
  have HT3 := hide ht3
  clear hk HQ s2 r20 r21 HO2 HV2 ht3 HK2a
  have s3 := ((unhide HK3).cell (o := 0) hb0 id).trans s0
  have r30 := ((unhide HK3).cell (o := 0) hbs id).trans r0
  have r31 := ((unhide HK3).cell (o := 1) hbs id).trans r1
  have q3 : w.heap.size < w3.heap.size := Nat.lt_of_lt_of_le hb0 (unhide HK3).size
  have p3 : w.heap.size + 1 < w3.heap.size := Nat.lt_of_lt_of_le hbs (unhide HK3).size
  by_cases hn : at_ < 0
  · clear ha
    go_wp2_with fail
    go_ret
    exact ⟨rfl, (unhide HB).trans (unhide HK3)⟩
  · have hge : (l.length : Int) ≤ at_ := ha.resolve_left hn
    clear ha
    go_wp2_with fail
    go_ret
    exact ⟨rfl, (unhide HB).trans (unhide HK3)⟩
end Go.Proofs.YtonodcmbbgpjjaaDoor
