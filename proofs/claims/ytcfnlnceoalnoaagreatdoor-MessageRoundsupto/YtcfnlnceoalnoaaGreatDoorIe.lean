import Derived.Test.YtcfnlnceoalnoaaGreatDoorId
namespace Go.Proofs.YtcfnlnceoalnoaaGreatDoor
open Go.RowKit Go.Maps
set_option maxRecDepth 100000 in
set_option maxHeartbeats 4000000 in
theorem size_v (S : List FieldA) (sv vv cv : Value) (m : MsgA) (w : World) (hE : EnvM w) (hS : FldsAt w sv S) (hv : ValsAt w vv m.vals) (hc : BytesAt w cv m.code) (hI : InR m.vals) (hkey : m.key.length ≤ 140737488355328) :
    Calls Tryz.prog 10 #[.agg #[sv], .agg #[.int .i64 m.kind, str m.key, vv, cv]] w fun e w' => e = .returned (.int .i64 ((encM S m).1.length : Int)) ∧ Keeps (fun _ => False) w w' := by
  obtain ⟨so, sc, rfl⟩ := RowAt.form hS
  obtain ⟨vo, vc, rfl⟩ := RowAt.form hv
  obtain ⟨co, cc, rfl⟩ := RowAt.form hc
  obtain ⟨Wb, hWb0, hkb, hbs, s0, r0, r1, r2, r3⟩ := two_boxesM w (.slice so S.length sc) (.int .i64 m.kind) (str m.key) (.slice vo m.vals.length vc) (.slice co m.code.length cc)
  have hb0 : w.heap.size < Wb.heap.size := by omega
  have hWb := hWb0.symm
  have HB := hide hkb
  have HQ := hide (msgEnc_v S _ _ _ m Wb (hE.keepF hkb) (hS.keepF hkb) (hv.keepF hkb) (hc.keepF hkb) hI hkey)
  generalize encM S m = E at *
  clear hE hS hv hc hkb hWb0
  go_enter Tryz.func10, Tryz.ntmps10
  go_wp2_with fail
  refine (unhide HQ).mono ?_
  rintro e w1 ⟨b', rfl, how, hk⟩
  obtain ⟨bo, bc, rfl⟩ := RowAt.form (rowAt_own how)
  have HK1 := hide hk
  clear hk HQ how hWb
  go_wp2_with fail
  go_ret
  exact ⟨rfl, (unhide HB).trans (unhide HK1)⟩
set_option maxRecDepth 100000 in
set_option maxHeartbeats 8000000 in
theorem encodes_walk (S : List FieldA) (sv vv cv : Value) (m : MsgA) (w : World) (hE : EnvM w) (hS : FldsAt w sv S) (hv : ValsAt w vv m.vals) (hc : BytesAt w cv m.code) (hI : InR m.vals) (hkey : m.key.length ≤ 140737488355328) (hlS : S.length ≤ 4398046511104) (hlv : m.vals.length ≤ 4398046511104) (hlc : m.code.length ≤ 140737488355328) :
    Calls Tryz.prog 3 #[.agg #[sv], .agg #[.int .i64 m.kind, str m.key, vv, cv]] w fun e w' => e = .returned (.bool true) ∧ Keeps (fun _ => False) w w' := by
  obtain ⟨so, sc, rfl⟩ := RowAt.form hS
  obtain ⟨vo, vc, rfl⟩ := RowAt.form hv
  obtain ⟨co, cc, rfl⟩ := RowAt.form hc
  obtain ⟨Wb, hWb0, hkb, hbs, s0, r0, r1, r2, r3⟩ := two_boxesM w (.slice so S.length sc) (.int .i64 m.kind) (str m.key) (.slice vo m.vals.length vc) (.slice co m.code.length cc)
  have hb0 : w.heap.size < Wb.heap.size := by omega
  have hWb := hWb0.symm
  have HB := hide hkb
  have HS := hide (hS.keepF hkb)
  have HV := hide (hv.keepF hkb)
  have HC := hide (hc.keepF hkb)
  have HE := hide (hE.keepF hkb)
  have HQ := hide (twin_v Wb _ S (unhide HS) hlS)
  have hel : (encM S m).1.length ≤ 1000 := by
    unfold encM
    split
    · rename_i h0
      have := bytesM_len S m
      have := body_96 h0 hI
      have := (key_16 (check_parts h0).2.2.1).2
      simp only
      omega
    · simp
  obtain ⟨EB, EE, HR⟩ : ∃ a b, Hid (encM S m = (a, b)) := ⟨_, _, rfl⟩
  rw [unhide HR] at hel
  simp only at hel
  clear hE hS hv hc hkb hWb0
  go_enter Tryz.func3, Tryz.ntmps3
  go_wp2_with fail
  refine (unhide HQ).mono ?_
  rintro e w1 ⟨tv, rfl, how, hk⟩
  obtain ⟨to, tc, rfl⟩ := RowAt.form (rowAt_own how)
  have k1a := kAlloc w1 (.cells #[.slice to S.length tc] 24)
  have hx1 := heap_alloc_new w1 (.cells #[.slice to S.length tc] 24)
  have HX1 := hide hx1
  have HT1 := hide (FldsAt.keepF (rowAt_own how) k1a)
  have HK1 := hide hk
  have HK1a := hide (hk.trans k1a)
  have a1 := (hk.cell (o := 0) hbs id).trans r0
  have a2 := (hk.cell (o := 1) hbs id).trans r1
  have a3 := (hk.cell (o := 2) hbs id).trans r2
  have a4 := (hk.cell (o := 3) hbs id).trans r3
  have l1 : w.heap.size + 1 < w1.heap.size := Nat.lt_of_lt_of_le hbs hk.size
  clear hk HQ hWb how k1a hx1
  have HQ := hide (copyMsg_v m _ _ _ ((unhide HV).keepF (unhide HK1a)) ((unhide HC).keepF (unhide HK1a)) hlv hlc)
  go_wp2_with fail
  refine (unhide HQ).mono ?_
  rintro e w2 ⟨v1, c1, rfl, hov, hoc, hk⟩
  obtain ⟨v1o, v1c, rfl⟩ := RowAt.form (rowAt_own hov)
  obtain ⟨c1o, c1c, rfl⟩ := RowAt.form (rowAt_own hoc)
  have k2a := kAlloc w2 (.cells #[.int .i64 m.kind, str m.key, .slice v1o m.vals.length v1c, .slice c1o m.code.length c1c] 28)
  have HX2 := hide (heap_alloc_new w2 (.cells #[.int .i64 m.kind, str m.key, .slice v1o m.vals.length v1c, .slice c1o m.code.length c1c] 28))
  have HV2 := hide (ValsAt.keepF (rowAt_own hov) k2a)
  have HC2 := hide (BytesAt.keepF (rowAt_own hoc) k2a)
  have HT2 := hide (((unhide HT1).keepF hk).keepF k2a)
  have hx1 := (hk.block _ (lt_of_block (unhide HX1)) id).trans (unhide HX1)
  have x1c : w2.cell? ⟨w1.heap.size, 0, none⟩ = some (.slice to S.length tc) := (cell_of_blk hx1 _).trans rfl
  have x1l := lt_of_block hx1
  have HX1a := hide ((k2a.block _ x1l id).trans hx1)
  have HK2 := hide ((unhide HK1a).trans hk)
  have HK2a := hide ((unhide HK2).trans k2a)
  clear hk HQ hov hoc k2a a1 a2 a3 a4 hx1 HT1 HX1 HK1 HK1a
  have HQ := hide (msgEnc_v S _ _ _ m _ ((unhide HE).keepF (unhide HK2a)) (unhide HT2) (unhide HV2) (unhide HC2) hI hkey)
  rw [unhide HR] at HQ
  simp only at HQ
  go_wp2_with fail
  refine (unhide HQ).mono ?_
  rintro e w3 ⟨b3, rfl, ho3, hk⟩
  have hb3 : BytesAt w3 b3 EB := rowAt_own ho3
  obtain ⟨b3o, b3c, rfl⟩ := RowAt.form hb3
  have HB3 := hide hb3
  have HK3 := hide ((unhide HK2a).trans hk)
  have HT3 := hide ((unhide HT2).keepF hk)
  have HV3 := hide ((unhide HV2).keepF hk)
  have HC3 := hide ((unhide HC2).keepF hk)
  have hx1 := (hk.block _ (lt_of_block (unhide HX1a)) id).trans (unhide HX1a)
  have hx2 := (hk.block _ (lt_of_block (unhide HX2)) id).trans (unhide HX2)
  have d0 : w3.cell? ⟨w1.heap.size, 0, none⟩ = some (.slice to S.length tc) := (cell_of_blk hx1 _).trans rfl
  have d1 : w3.cell? ⟨w2.heap.size, 0, none⟩ = some (.int .i64 m.kind) := (cell_of_blk hx2 _).trans rfl
  have d2 : w3.cell? ⟨w2.heap.size, 1, none⟩ = some (str m.key) := (cell_of_blk hx2 _).trans rfl
  have d3 : w3.cell? ⟨w2.heap.size, 2, none⟩ = some (.slice v1o m.vals.length v1c) := (cell_of_blk hx2 _).trans rfl
  have d4 : w3.cell? ⟨w2.heap.size, 3, none⟩ = some (.slice c1o m.code.length c1c) := (cell_of_blk hx2 _).trans rfl
  have HX13 := hide hx1
  have HX23 := hide hx2
  clear hk HQ HT2 HV2 HC2 HX1a HX2 x1c x1l hx1 hx2 ho3 hb3
  have HQ := hide (size_v S _ _ _ m w3 ((unhide HE).keepF (unhide HK3)) (unhide HT3) (unhide HV3) (unhide HC3) hI hkey)
  rw [unhide HR] at HQ
  simp only at HQ
  go_wp2_with fail
  refine (unhide HQ).mono ?_
  rintro e w4 ⟨rfl, hk⟩
  have HK4 := hide ((unhide HK3).trans hk)
  have HT4 := hide ((unhide HT3).keepF hk)
  have HV4 := hide ((unhide HV3).keepF hk)
  have HC4 := hide ((unhide HC3).keepF hk)
  have HB4 := hide ((unhide HB3).keepF hk)
  have HX14 := hide ((hk.block _ (lt_of_block (unhide HX13)) id).trans (unhide HX13))
  have HX24 := hide ((hk.block _ (lt_of_block (unhide HX23)) id).trans (unhide HX23))
  have b0 := ((unhide HK4).cell (o := 0) hb0 id).trans s0
  have b1 := ((unhide HK4).cell (o := 0) hbs id).trans r0
  have b2 := ((unhide HK4).cell (o := 1) hbs id).trans r1
  have b3' := ((unhide HK4).cell (o := 2) hbs id).trans r2
  have b4 := ((unhide HK4).cell (o := 3) hbs id).trans r3
  clear hk HQ HT3 HV3 HC3 HX13 HX23 HB3 d0 d1 d2 d3 d4
  have HQ := hide (refEnc_v S _ _ _ m w4 ((unhide HS).keepF (unhide HK4)) ((unhide HV).keepF (unhide HK4)) ((unhide HC).keepF (unhide HK4)) hI hkey)
  rw [unhide HR] at HQ
  simp only at HQ
  go_wp2_with fail
  refine (unhide HQ).mono ?_
  rintro e w5 ⟨b5, rfl, ho5, hk⟩
  have hb5 : BytesAt w5 b5 EB := rowAt_own ho5
  obtain ⟨b5o, b5c, rfl⟩ := RowAt.form hb5
  have HK5 := hide ((unhide HK4).trans hk)
  have HQ := hide (eqBytes_any w5 _ _ EB EB ((unhide HB4).keepF hk) hb5 (by unfold maxLen; omega))
  rw [decide_eq_true (show EB = EB from rfl)] at HQ
  have HT5 := hide ((unhide HT4).keepF hk)
  have HV5 := hide ((unhide HV4).keepF hk)
  have HC5 := hide ((unhide HC4).keepF hk)
  have HX15 := hide ((hk.block _ (lt_of_block (unhide HX14)) id).trans (unhide HX14))
  have HX25 := hide ((hk.block _ (lt_of_block (unhide HX24)) id).trans (unhide HX24))
  clear hk ho5 hb5 HT4 HV4 HC4 HB4 HX14 HX24 b0 b1 b2 b3' b4
  go_wp2_with fail
  refine (unhide HQ).mono ?_
  rintro e w6' ⟨rfl, nn, hw6⟩
  obtain ⟨w6, hw6'⟩ : ∃ w6, w6 = w5.drewN nn := ⟨_, rfl⟩
  rw [← hw6'] at hw6
  subst hw6
  have hk : Keeps (fun _ => False) w5 w6' := by rw [hw6']; exact keeps_drewN _ _
  have HK6 := hide ((unhide HK5).trans hk)
  have e0 := ((unhide HK6).cell (o := 0) hb0 id).trans s0
  have hx1 := (hk.block _ (lt_of_block (unhide HX15)) id).trans (unhide HX15)
  have f0 : w6'.cell? ⟨w1.heap.size, 0, none⟩ = some (.slice to S.length tc) := (cell_of_blk hx1 _).trans rfl
  have HQ := hide (eqSchema_any w6' _ _ S S ((unhide HT5).keepF hk) ((unhide HS).keepF (unhide HK6)) (by unfold maxLen; omega))
  rw [decide_eq_true (show S = S from rfl)] at HQ
  have HV6 := hide ((unhide HV5).keepF hk)
  have HC6 := hide ((unhide HC5).keepF hk)
  have HX26 := hide ((hk.block _ (lt_of_block (unhide HX25)) id).trans (unhide HX25))
  clear hk hx1 HT5 HV5 HC5 HX15 HX25 hw6'
  go_wp2_with fail
  refine (unhide HQ).mono ?_
  rintro e w7 ⟨rfl, hk⟩
  have HK7 := hide ((unhide HK6).trans hk)
  have e1 := ((unhide HK7).cell (o := 0) hbs id).trans r0
  have e2 := ((unhide HK7).cell (o := 1) hbs id).trans r1
  have e3 := ((unhide HK7).cell (o := 2) hbs id).trans r2
  have e4 := ((unhide HK7).cell (o := 3) hbs id).trans r3
  have hx2 := (hk.block _ (lt_of_block (unhide HX26)) id).trans (unhide HX26)
  have f1 : w7.cell? ⟨w2.heap.size, 0, none⟩ = some (.int .i64 m.kind) := (cell_of_blk hx2 _).trans rfl
  have f2 : w7.cell? ⟨w2.heap.size, 1, none⟩ = some (str m.key) := (cell_of_blk hx2 _).trans rfl
  have f3 : w7.cell? ⟨w2.heap.size, 2, none⟩ = some (.slice v1o m.vals.length v1c) := (cell_of_blk hx2 _).trans rfl
  have f4 : w7.cell? ⟨w2.heap.size, 3, none⟩ = some (.slice c1o m.code.length c1c) := (cell_of_blk hx2 _).trans rfl
  have HQ := hide (eqMsg_v w7 m.kind m.key _ _ _ _ m.vals m.code ((unhide HV6).keepF hk) ((unhide HV).keepF (unhide HK7)) ((unhide HC6).keepF hk) ((unhide HC).keepF (unhide HK7)) (by unfold maxLen; omega) (by unfold maxLen; omega))
  clear hk hx2 e0 f0 HX26 HV6 HC6
  go_wp2_with fail
  refine (unhide HQ).mono ?_
  rintro e w8 ⟨rfl, hk⟩
  have HK8 := hide ((unhide HK7).trans hk)
  clear hk HQ
  go_wp2_with fail
  go_ret
  exact ⟨rfl, (unhide HB).trans (unhide HK8)⟩
end Go.Proofs.YtcfnlnceoalnoaaGreatDoor
