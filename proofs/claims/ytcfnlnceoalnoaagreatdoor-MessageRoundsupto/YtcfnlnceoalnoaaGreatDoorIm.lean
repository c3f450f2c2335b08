import Derived.Test.YtcfnlnceoalnoaaGreatDoorIl
namespace Go.Proofs.YtcfnlnceoalnoaaGreatDoor
open Go.RowKit Go.Maps
theorem dec_small (S : List FieldA) (t : Txt) : (decM S t).1.vals.length ≤ maxLen ∧ (decM S t).1.code.length ≤ maxLen := by
  have hz : zeroM.vals.length ≤ maxLen ∧ zeroM.code.length ≤ maxLen := ⟨Nat.zero_le _, Nat.zero_le _⟩
  unfold decM
  split
  · exact hz
  · rename_i hs
    split
    · exact hz
    · rename_i m rest hm
      split
      · rename_i hc
        obtain ⟨_, h2, _, h4, h5⟩ := check_parts hc
        show m.vals.length ≤ maxLen ∧ m.code.length ≤ maxLen
        rcases shape_kinds h2 with ⟨hk, h⟩ | ⟨hk, h⟩ | ⟨hk, h⟩
        · have := errR_zero (h4 hk)
          have := schemaB_len this.1
          rw [h]
          simp only [List.length_nil]
          unfold maxLen
          omega
        · rw [h.1, h.2]
          exact ⟨Nat.zero_le _, Nat.zero_le _⟩
        · have := code_96 (h5 hk)
          rw [h]
          simp only [List.length_nil]
          unfold maxLen
          omega
      · exact hz
set_option maxRecDepth 100000 in
set_option maxHeartbeats 8000000 in
theorem decodes_walk (S : List FieldA) (sv v : Value) (t : Txt) (w : World) (hE : EnvM w) (hS : FldsAt w sv S) (hb : BytesAt w v t) (hlS : S.length ≤ 4398046511104) (ht : t.length ≤ 140737488355328) :
    Calls Tryz.prog 5 #[.agg #[sv], v] w fun e w' => e = .returned (.bool true) ∧ Keeps (fun _ => False) w w' := by
  obtain ⟨so, sc, rfl⟩ := RowAt.form hS
  obtain ⟨vo, vc, rfl⟩ := RowAt.form hb
  have k1 := kAlloc w (.cells #[.slice so S.length sc] 24)
  have h1 := heap_alloc_new w (.cells #[.slice so S.length sc] 24)
  generalize hW : w.alloc (.cells #[.slice so S.length sc] 24) = Wb at *
  have HB := hide k1
  have hb0 := lt_of_block h1
  have s0 : Wb.cell? ⟨w.heap.size, 0, none⟩ = some (.slice so S.length sc) := (cell_of_blk h1 _).trans rfl
  have HS := hide (hS.keepF k1)
  have HBT := hide (hb.keepF k1)
  have HE := hide (hE.keepF k1)
  have HQ := hide (twin_v Wb _ S (unhide HS) hlS)
  have HDL := hide (dec_small S t)
  obtain ⟨D, HD⟩ : ∃ D, Hid (decM S t = D) := ⟨_, rfl⟩
  rw [unhide HD] at HDL
  have HTL := hide ht
  have HSL := hide hlS
  clear hE hS hb k1 h1 ht hlS
  go_enter Tryz.func5, Tryz.ntmps5
  go_wp2_with fail
  refine (unhide HQ).mono ?_
  rintro e w1 ⟨tv, rfl, how, hk⟩
  obtain ⟨to, tc, rfl⟩ := RowAt.form (rowAt_own how)
  have k1a := kAlloc w1 (.cells #[.slice to S.length tc] 24)
  have HX1 := hide (heap_alloc_new w1 (.cells #[.slice to S.length tc] 24))
  have HT1 := hide (FldsAt.keepF (rowAt_own how) k1a)
  have HK1a := hide (hk.trans k1a)
  clear hk HQ hW how k1a
  have HQ := hide (copyBytes_any _ _ t ((unhide HBT).keepF (unhide HK1a)) (unhide HTL))
  go_wp2_with fail
  refine (unhide HQ).mono ?_
  rintro e w2 ⟨b2, rfl, ho2, hk⟩
  have hb2 : BytesAt w2 b2 t := rowAt_own ho2
  obtain ⟨b2o, b2c, rfl⟩ := RowAt.form hb2
  have HB2 := hide hb2
  have HK2 := hide ((unhide HK1a).trans hk)
  have HT2 := hide ((unhide HT1).keepF hk)
  have hx1 := (hk.block _ (lt_of_block (unhide HX1)) id).trans (unhide HX1)
  have x1c : w2.cell? ⟨w1.heap.size, 0, none⟩ = some (.slice to S.length tc) := (cell_of_blk hx1 _).trans rfl
  have HX2 := hide hx1
  clear hk HQ ho2 hb2 hx1 HT1 HX1 HK1a
  have HQ := hide (msgDec_v S _ _ t w2 ((unhide HE).keepF (unhide HK2)) (unhide HT2) (unhide HB2) (unhide HTL))
  rw [unhide HD] at HQ
  go_wp2_with fail
  refine (unhide HQ).mono ?_
  rintro e w3 ⟨x3, rfl, hm3, hk⟩
  obtain ⟨mvo, mvc, mco, mcc, rfl, hv3, hc3, _, _⟩ := hm3
  have k3a := kAlloc w3 (.cells #[.int .i64 D.1.kind, str D.1.key, .slice mvo D.1.vals.length mvc, .slice mco D.1.code.length mcc] 28)
  have HX3 := hide (heap_alloc_new w3 (.cells #[.int .i64 D.1.kind, str D.1.key, .slice mvo D.1.vals.length mvc, .slice mco D.1.code.length mcc] 28))
  have HV3 := hide (hv3.keepF k3a)
  have HC3 := hide (hc3.keepF k3a)
  have HK23 := hide (hk.trans k3a)
  have HK3 := hide ((unhide HK2).trans (unhide HK23))
  have HT3 := hide ((unhide HT2).keepF (unhide HK23))
  have HB3 := hide ((unhide HB2).keepF (unhide HK23))
  have hx1 := ((unhide HK23).block _ (lt_of_block (unhide HX2)) id).trans (unhide HX2)
  have y0 := ((unhide HK3).cell (o := 0) hb0 id).trans s0
  have y0' := (((unhide HK2).trans hk).cell (o := 0) hb0 id).trans s0
  have HX13 := hide hx1
  clear hk HQ hv3 hc3 k3a hx1 HT2 HB2 HX2 x1c
  have HQ := hide (refDec_v S _ _ t _ ((unhide HS).keepF (unhide HK3)) ((unhide HBT).keepF (unhide HK3)) (unhide HTL))
  rw [unhide HD] at HQ
  go_wp2_with fail
  refine (unhide HQ).mono ?_
  rintro e w4 ⟨x4, rfl, hm4, hk⟩
  obtain ⟨nvo, nvc, nco, ncc, rfl, hv4, hc4, _, _⟩ := hm4
  have k4a := kAlloc w4 (.cells #[.int .i64 D.1.kind, str D.1.key, .slice nvo D.1.vals.length nvc, .slice nco D.1.code.length ncc] 28)
  have hx4 := heap_alloc_new w4 (.cells #[.int .i64 D.1.kind, str D.1.key, .slice nvo D.1.vals.length nvc, .slice nco D.1.code.length ncc] 28)
  have HK34 := hide (hk.trans k4a)
  have HK4 := hide ((unhide HK3).trans (unhide HK34))
  have HV4 := hide ((unhide HV3).keepF (unhide HK34))
  have HC4 := hide ((unhide HC3).keepF (unhide HK34))
  have HW4 := hide (hv4.keepF k4a)
  have HD4 := hide (hc4.keepF k4a)
  have HT4 := hide ((unhide HT3).keepF (unhide HK34))
  have HB4 := hide ((unhide HB3).keepF (unhide HK34))
  have hx1 := ((unhide HK34).block _ (lt_of_block (unhide HX13)) id).trans (unhide HX13)
  have hx3 := ((unhide HK34).block _ (lt_of_block (unhide HX3)) id).trans (unhide HX3)
  have HX14 := hide hx1
  obtain ⟨f0, f1, f2, f3, ff0, ff1, ff2, ff3, fl⟩ := four_cells hx3
  obtain ⟨g0, g1, g2, g3, gf0, gf1, gf2, gf3, gl⟩ := four_cells hx4
  have HQ := hide (eqMsg_v _ D.1.kind D.1.key _ _ _ _ D.1.vals D.1.code (unhide HV4) (unhide HW4) (unhide HC4) (unhide HD4) (unhide HDL).1 (unhide HDL).2)
  clear hk hv4 hc4 k4a hx1 hx3 hx4 HT3 HB3 HX13 HX3 HV3 HC3 y0 y0'
  go_wp2_with fail
  refine (unhide HQ).mono ?_
  rintro e w5 ⟨rfl, hk⟩
  have HK5 := hide ((unhide HK4).trans hk)
  have HT5 := hide ((unhide HT4).keepF hk)
  have HB5 := hide ((unhide HB4).keepF hk)
  have hx1 := (hk.block _ (lt_of_block (unhide HX14)) id).trans (unhide HX14)
  have a0 : w5.cell? ⟨w1.heap.size, 0, none⟩ = some (.slice to S.length tc) := (cell_of_blk hx1 _).trans rfl
  have a1 := ((unhide HK5).cell (o := 0) hb0 id).trans s0
  have HQ := hide (eqSchema_any w5 _ _ S S (unhide HT5) ((unhide HS).keepF (unhide HK5)) (by have := unhide HSL; unfold maxLen; omega))
  rw [decide_eq_true (show S = S from rfl)] at HQ
  clear hk hx1 HT4 HB4 HX14 f0 f1 f2 f3 g0 g1 g2 g3
  go_wp2_with fail
  refine (unhide HQ).mono ?_
  rintro e w6 ⟨rfl, hk⟩
  have HK6 := hide ((unhide HK5).trans hk)
  have HQ := hide (eqBytes_any w6 _ _ t t ((unhide HB5).keepF hk) ((unhide HBT).keepF (unhide HK6)) (by have := unhide HTL; unfold maxLen; omega))
  rw [decide_eq_true (show t = t from rfl)] at HQ
  clear hk HB5 a0 a1
  go_wp2_with fail
  refine (unhide HQ).mono ?_
  rintro e w7 ⟨rfl, nn, hw7⟩
  have hk : Keeps (fun _ => False) w6 w7 := by rw [hw7]; exact keeps_drewN _ _
  have HK7 := hide ((unhide HK6).trans hk)
  clear hk hw7 HQ
  go_wp2_with fail
  go_ret
  exact ⟨rfl, (unhide HB).trans (unhide HK7)⟩
end Go.Proofs.YtcfnlnceoalnoaaGreatDoor
