import Derived.Test.YtonodcmbbgpjjaaDoorPf
namespace Go.Proofs.YtonodcmbbgpjjaaDoor
open Go.RowKit Go.Maps
set_option maxRecDepth 100000 in
set_option maxHeartbeats 8000000 in
theorem unseen_3y (S : List FieldA) (sv u v : Value) (l : List ValA) (hh : Bool) (vals : List ValA) (p : Nat) (ot : ValA) (w : World) (hE : Env w) (hS : FldsAt w sv S) (hl : ValsAt w v l) (hI : InR l) (hr : ValsAt w u vals) (hIo : InR [ot]) (h1 : (runO S l hh vals).e = 0) (hp : p < l.length) (hV : (verifyA S (l.set p ot)).2.2 = 0) :
    Calls Tryd.prog 5 #[.agg #[sv], v, .agg #[.bool hh, u], .int .i64 (p : Int), .agg #[.int .i64 ot.kind, .int .i64 ot.n, str ot.s]] w fun e w' => e = .returned (.bool true) ∧ Keeps (fun _ => False) w w' := by
  have h96 : l.length ≤ 96 := by
    obtain ⟨q1, q2⟩ := runO_ok h1
    obtain ⟨_, _, _, h96, _⟩ := run_bounds q1 q2
    exact h96
  obtain ⟨E1, H1, vs1, st1, dp1, HO⟩ : ∃ a b c d e, Hid (runO S l hh vals = ⟨a, b, c, d, e⟩) := ⟨_, _, _, _, _, rfl⟩
  have he1 : E1 = 0 := by rw [unhide HO] at h1; exact h1
  subst he1
  obtain ⟨D, HD⟩ : ∃ D, Hid (traceO S l hh vals = D) := ⟨_, rfl⟩
  obtain ⟨d2, at2, V2, HV⟩ : ∃ a b c, Hid (verifyA S (l.set p ot) = (a, b, c)) := ⟨_, _, _, rfl⟩
  have hv1l : vs1.length ≤ maxLen := by have := runO_len S l hh vals; rw [unhide HO] at this; unfold maxLen; simp only at this; omega
  have HIS : Hid (InR (l.set p ot)) := by
    intro x hx
    rcases List.mem_or_eq_of_mem_set hx with q | q
    · exact hI x q
    · subst q; exact hIo x (List.mem_singleton.2 rfl)
  have HU0 := hide (fun (q : ∀ z ∈ traceO S l hh vals, z.1 ≠ p) => (unseen_pure h1 q hV).trans (unhide HO))
  rw [unhide HV] at hV
  simp only at hV
  subst hV
  have HH1 := hide h1
  have hD96 : D.length ≤ 96 := by
    have : traceO S l hh vals = (playM S l l.length 0 ⟨[], hh, vals⟩).1 := by obtain ⟨q1, q2⟩ := runO_ok h1; unfold traceO outD; rw [q1, q2, if_neg (by decide)]
    rw [← unhide HD, this]
    exact Nat.le_trans (playM_len _ _ _) h96
  clear h1
  have j1 : (p : Int) < (l.length : Int) := by omega
  have j0 : (0 : Int) ≤ (p : Int) := by omega
  obtain ⟨so, sc, rfl⟩ := RowAt.form hS
  obtain ⟨uo, uc, rfl⟩ := RowAt.form hr
  obtain ⟨vo, vc, rfl⟩ := RowAt.form hl
  obtain ⟨Wb, hWb, hkb, hbx, s0, r0, r1, x0, x1, x2⟩ := three_boxes w (.slice so S.length sc) (.slice uo vals.length uc) hh (.int .i64 ot.kind) (.int .i64 ot.n) (str ot.s)
  have hbs : w.heap.size + 1 < Wb.heap.size := by omega
  have hb0 : w.heap.size < Wb.heap.size := by omega
  have hWb' := hWb.symm
  have HB := hide hkb
  have HS := hide (hS.keepF hkb)
  have HL := hide (hl.keepF hkb)
  have HU := hide (hr.keepF hkb)
  have HE := hide (hE.keepF hkb)
  have HK0 := hide (Keeps.refl (fun _ => False) Wb)
  have HQ := hide (works_v Wb (unhide HE))
  clear hE hS hl hr hkb hWb
  go_enter Tryd.func5, Tryd.ntmps5
  go_wp2_with fail
  refine (unhide HQ).mono ?_
  rintro e w1 ⟨rfl, hk⟩
  have HK1 := hide hk
  clear hk HQ hWb'
  have s1 := ((unhide HK1).cell (o := 0) hb0 id).trans s0
  have r10 := ((unhide HK1).cell (o := 0) hbs id).trans r0
  have r11 := ((unhide HK1).cell (o := 1) hbs id).trans r1
  have q1 : w.heap.size < w1.heap.size := Nat.lt_of_lt_of_le hb0 (unhide HK1).size
  have p1 : w.heap.size + 1 < w1.heap.size := Nat.lt_of_lt_of_le hbs (unhide HK1).size
  have HQ := hide (run_u S _ _ (.slice vo l.length vc) l hh vals w1 ((unhide HE).keepF (unhide HK1)) ((unhide HS).keepF (unhide HK1)) ((unhide HL).keepF (unhide HK1)) hI ((unhide HU).keepF (unhide HK1)))
  rw [unhide HO] at HQ
  simp only at HQ
  go_wp2_with fail
  refine (unhide HQ).mono ?_
  rintro e w2 ⟨ro, rc, rfl, hv2, hk⟩
  have HK2 := hide ((unhide HK1).trans hk)
  clear hk HQ s1 r10 r11
  have s2 := ((unhide HK2).cell (o := 0) hb0 id).trans s0
  have r20 := ((unhide HK2).cell (o := 0) hbs id).trans r0
  have r21 := ((unhide HK2).cell (o := 1) hbs id).trans r1
  have q2 : w.heap.size < w2.heap.size := Nat.lt_of_lt_of_le hb0 (unhide HK2).size
  have p2 : w.heap.size + 1 < w2.heap.size := Nat.lt_of_lt_of_le hbs (unhide HK2).size
  have HO2 := hide (outB_new w2 H1 (.slice ro vs1.length rc) (st1 : Int) (dp1 : Int))
  have HK2a := hide ((unhide HK2).alloc (.cells #[.bool H1, .slice ro vs1.length rc, .int .i64 (st1 : Int), .int .i64 (dp1 : Int)] 34))
  have HV2 := hide (hv2.keepF (kAlloc w2 (.cells #[.bool H1, .slice ro vs1.length rc, .int .i64 (st1 : Int), .int .i64 (dp1 : Int)] 34)))
  have HQ := hide (trace_u S _ _ (.slice vo l.length vc) l hh vals _ ((unhide HE).keepF (unhide HK2a)) ((unhide HS).keepF (unhide HK2a)) ((unhide HL).keepF (unhide HK2a)) hI ((unhide HU).keepF (unhide HK2a)))
  rw [unhide HO, unhide HD] at HQ
  simp only at HQ
  clear hv2
  go_wp2_with fail
  refine (unhide HQ).mono ?_
  rintro e w3 ⟨to, tc, rfl, ht3, hk⟩
  have HK3 := hide ((unhide HK2a).trans hk)
  have HO3 := hide ((unhide HO2).keep hk)
  have HV3 := hide ((unhide HV2).keepF hk)
  have HT3 := hide ht3
  clear hk HQ s2 r20 r21 HO2 HV2 ht3 HK2a
  have s3 := ((unhide HK3).cell (o := 0) hb0 id).trans s0
  have r30 := ((unhide HK3).cell (o := 0) hbs id).trans r0
  have r31 := ((unhide HK3).cell (o := 1) hbs id).trans r1
  have q3 : w.heap.size < w3.heap.size := Nat.lt_of_lt_of_le hb0 (unhide HK3).size
  have p3 : w.heap.size + 1 < w3.heap.size := Nat.lt_of_lt_of_le hbs (unhide HK3).size
  go_wp2_with fail
  go_loopw [16] (fun i wr => ∃ k : Nat, k ≤ D.length ∧ i = .int .i64 k ∧ Hid (∀ z ∈ D.take k, z.1 ≠ p) ∧ wr = w3) (fun i _ => D.length - (intOf i).toNat)
  case atStart => exact ⟨0, Nat.zero_le _, rfl, fun z hz => by simp at hz, rfl⟩
  case round =>
  obtain ⟨k, hk, rfl, HN, hwr⟩ := hrel
  subst hwr
  by_cases hlt : k < D.length
  · obtain ⟨b, off, c, e1, hblt, hc⟩ := StepsAt.cells (unhide HT3) (by omega)
    simp at e1
    obtain ⟨rfl, rfl⟩ := e1
    obtain ⟨x, hx⟩ : ∃ x, D[k]? = some x := ⟨_, List.getElem?_eq_getElem hlt⟩
    have t1 := (hc k x hx).1
    have HX := hide hx
    have i1 : (k : Int) < (D.length : Int) := by omega
    have i0 : (0 : Int) ≤ (k : Int) := by omega
    clear hc hx
    by_cases hxp : x.1 = p
    · rw [hxp] at t1
      clear hxp
      go_wp2_with fail
      go_ret
      exact ⟨rfl, (unhide HB).trans (unhide HK3)⟩
    · have be : ((x.1 : Int) == (p : Int)) = false := by rw [beq_eq_false_iff_ne]; omega
      have HXP := hide hxp
      generalize hxn : x.1 = xn at *
      have HXN := hide hxn
      clear hxp hxn
      go_wp2_with fail
      go_roundw
      case rel =>
        refine ⟨k + 1, by omega, by go_num, fun z hz => ?_, trivial⟩
        rw [take_snoc _ _ _ (unhide HX)] at hz
        rcases List.mem_append.1 hz with q | q
        · exact unhide HN z q
        · rw [List.mem_singleton.1 q, unhide HXN]; exact unhide HXP
      case measure => simp [intOf]; omega
  · obtain rfl : k = D.length := by omega
    rw [List.take_length] at HN
    have HY := hide ((unhide HU0) (by rw [unhide HD]; exact unhide HN))
    have HQ := hide (copyCode_v wr (.slice vo l.length vc) l ((unhide HL).keepF (unhide HK3)) (by omega))
    go_wp2_with fail
    refine (unhide HQ).mono ?_
    rintro e w4 ⟨cv, rfl, how, hk⟩
    obtain ⟨g, cap, cur, e4, hg, hgb, _⟩ : ∃ g cap cur, cv = .slice (some ⟨g, 0, none⟩) l.length cap ∧ wr.heap.size ≤ g ∧ w4.heap[g]? = some (.cells cur 59 (0, 0)) ∧ True := by
      rcases how.2 with ⟨_, h0⟩ | ⟨g, cap, cur, a1, a2, a3, _⟩
      · omega
      · exact ⟨g, cap, cur, a1, a2, a3, trivial⟩
    have HSW := hide (own_set3i how e4 hp ot)
    subst e4
    obtain ⟨g', off', cap', e', hgl, hc⟩ := ValsAt.cells (rowAt_own how) (by omega)
    simp only [Value.slice.injEq, Option.some.injEq, Addr.mk.injEq, and_true, true_and] at e'
    obtain ⟨⟨rfl, rfl⟩, rfl⟩ := e'
    obtain ⟨x, hx⟩ : ∃ x, l[p]? = some x := ⟨_, List.getElem?_eq_getElem hp⟩
    have y0 := (hc p x hx).1
    have y1 := (hc p x hx).2.1
    have y2 := (hc p x hx).2.2
    simp only [Nat.zero_add] at y0 y1 y2
    have z0 := frozen_of_blk hgb (p * 3)
    have z1 := frozen_of_blk hgb (p * 3 + 1)
    have z2 := frozen_of_blk hgb (p * 3 + 2)
    have kg := keeps_at3 w4 g (p * 3) (p * 3 + 1) (p * 3 + 2) (.int .i64 ot.kind) (.int .i64 ot.n) (str ot.s)
    have HK4 := hide ((unhide HK3).trans hk)
    have HKX := hide (hk.fresh hg kg)
    have HK5 := hide (((unhide HK3).trans hk).fresh (Nat.le_trans (unhide HK3).size hg) kg)
    have b0 := ((unhide HK4).cell (o := 0) hbx id).trans x0
    have b1 := ((unhide HK4).cell (o := 1) hbx id).trans x1
    have b2 := ((unhide HK4).cell (o := 2) hbx id).trans x2
    have nb : ¬ w.heap.size + 1 + 1 = g := by have := (unhide HK3).size; omega
    have n0 : ¬ w.heap.size = g := by have := (unhide HK3).size; omega
    have n1 : ¬ w.heap.size + 1 = g := by have := (unhide HK3).size; omega
    clear hc hx hk HQ how hgb s3 r30 r31 kg
    have s4 := ((unhide HK4).cell (o := 0) hb0 id).trans s0
    have r40 := ((unhide HK4).cell (o := 0) hbs id).trans r0
    have r41 := ((unhide HK4).cell (o := 1) hbs id).trans r1
    have q4 : w.heap.size < w4.heap.size := Nat.lt_of_lt_of_le hb0 (unhide HK4).size
    have p4 : w.heap.size + 1 < w4.heap.size := Nat.lt_of_lt_of_le hbs (unhide HK4).size

    have HVS : Hid (ValsAt (((w4.setCell ⟨g, p * 3, none⟩ (.int .i64 ot.kind)).setCell ⟨g, p * 3 + 1, none⟩ (.int .i64 ot.n)).setCell ⟨g, p * 3 + 2, none⟩ (str ot.s)) (.slice (some ⟨g, 0, none⟩) l.length cap) (l.set p ot)) := rowAt_own (unhide HSW)
    have HQ := hide (verify_v S so sc (l.set p ot) _ _ ((unhide HE).keepF (unhide HK5)).ops ((unhide HE).keepF (unhide HK5)).types ((unhide HS).keepF (unhide HK5)) (unhide HVS) (unhide HIS))
    rw [unhide HV] at HQ
    go_wp2_with fail
    refine (unhide HQ).mono ?_
    rintro e w7 ⟨rfl, hk⟩
    have HK7 := hide ((unhide HK5).trans hk)
    have HKX7 := hide ((unhide HKX).trans hk)
    have HVS7 := hide ((unhide HVS).keepF hk)
    have HO7 := hide ((unhide HO3).keep (unhide HKX7))
    have HV7 := hide ((unhide HV3).keepF (unhide HKX7))
    clear hk HQ s4 r40 r41 b0 b1 b2 y0 y1 y2 z0 z1 z2 HSW HVS HKX
    have s7 := ((unhide HK7).cell (o := 0) hb0 id).trans s0
    have r70 := ((unhide HK7).cell (o := 0) hbs id).trans r0
    have r71 := ((unhide HK7).cell (o := 1) hbs id).trans r1
    have q7 : w.heap.size < w7.heap.size := Nat.lt_of_lt_of_le hb0 (unhide HK7).size
    have p7 : w.heap.size + 1 < w7.heap.size := Nat.lt_of_lt_of_le hbs (unhide HK7).size

    have HQ := hide (run_u S _ _ _ (l.set p ot) hh vals w7 ((unhide HE).keepF (unhide HK7)) ((unhide HS).keepF (unhide HK7)) (unhide HVS7) (unhide HIS) ((unhide HU).keepF (unhide HK7)))
    rw [unhide HY] at HQ
    simp only at HQ
    go_wp2_with fail
    refine (unhide HQ).mono ?_
    rintro e w8 ⟨yo, yc, rfl, hv8, hk⟩
    have HK8 := hide ((unhide HK7).trans hk)
    have k8a := kAlloc w8 (.cells #[.bool H1, .slice yo vs1.length yc, .int .i64 (st1 : Int), .int .i64 (dp1 : Int)] 34)
    replace HO7 := hide ((unhide HO7).keep hk)
    replace HV7 := hide ((unhide HV7).keepF hk)
    clear s7 r70 r71
    have s8 := ((unhide HK8).cell (o := 0) hb0 id).trans s0
    have r80 := ((unhide HK8).cell (o := 0) hbs id).trans r0
    have r81 := ((unhide HK8).cell (o := 1) hbs id).trans r1
    have q8 : w.heap.size < w8.heap.size := Nat.lt_of_lt_of_le hb0 (unhide HK8).size
    have p8 : w.heap.size + 1 < w8.heap.size := Nat.lt_of_lt_of_le hbs (unhide HK8).size
    have HQ := hide (eqRow_v _ H1 H1 _ _ vs1 vs1 ((unhide HV7).keepF k8a) (hv8.keepF k8a) hv1l)
    rw [decide_eq_true (show H1 = H1 from rfl), decide_eq_true (show vs1 = vs1 from rfl)] at HQ
    simp only [Bool.and_true] at HQ
    obtain ⟨g0, g1, g2, g3, g4⟩ := (unhide HO7).keep k8a
    obtain ⟨h0_, h1_, h2_, h3_, h4_⟩ := outB_new w8 H1 (.slice yo vs1.length yc) (st1 : Int) (dp1 : Int)
    clear hk s8 r80 r81
    go_wp2_with fail
    refine (unhide HQ).mono ?_
    rintro e w9 ⟨rfl, hk⟩
    have g2' := (hk.cell (o := 2) g0 id).trans g3
    have g3' := (hk.cell (o := 3) g0 id).trans g4
    have h2' := (hk.cell (o := 2) h0_ id).trans h3_
    have h3' := (hk.cell (o := 3) h0_ id).trans h4_
    have HK9 := hide ((unhide HK8).trans (k8a.trans hk))
    clear hk HQ g1 g2 g3 g4 h1_ h2_ h3_ h4_
    go_wp2_with fail
    go_ret
    exact ⟨rfl, (unhide HB).trans (unhide HK9)⟩
end Go.Proofs.YtonodcmbbgpjjaaDoor
