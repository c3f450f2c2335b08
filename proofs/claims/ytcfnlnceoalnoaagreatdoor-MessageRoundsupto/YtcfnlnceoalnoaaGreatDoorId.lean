import Derived.Test.YtcfnlnceoalnoaaGreatDoorJw
namespace Go.Proofs.YtcfnlnceoalnoaaGreatDoor
open Go.RowKit Go.Maps
set_option maxRecDepth 100000 in
set_option maxHeartbeats 8000000 in
theorem refEnc_bad (S : List FieldA) (sv vv cv : Value) (m : MsgA) (w : World) (hS : FldsAt w sv S) (hv : ValsAt w vv m.vals) (hc : BytesAt w cv m.code) (hkey : m.key.length ≤ 140737488355328) (h0 : checkM S m ≠ 0) :
    Calls Tryz.prog 11 #[.agg #[sv], .agg #[.int .i64 m.kind, str m.key, vv, cv]] w fun e w' => ∃ b', e = .returned (.tuple #[b', .int .i64 (encM S m).2]) ∧ w'.ownsRow w.heap.size 5 1 b' (encM S m).1.length (bs (encM S m).1) ∧ Keeps (fun _ => False) w w' := by
  have H_h0 := hide h0
  clear h0
  obtain ⟨so, sc, rfl⟩ := RowAt.form hS
  obtain ⟨vo, vc, rfl⟩ := RowAt.form hv
  obtain ⟨co, cc, rfl⟩ := RowAt.form hc
  obtain ⟨Wb, hWb0, hkb, hbs, s0, r0, r1, r2, r3⟩ := two_boxesM w (.slice so S.length sc) (.int .i64 m.kind) (str m.key) (.slice vo m.vals.length vc) (.slice co m.code.length cc)
  have hb0 : w.heap.size < Wb.heap.size := by omega
  have hWb := hWb0.symm
  have HB := hide hkb
  have HS := hide (hS.keepF hkb)
  have HV := hide (hv.keepF hkb)
  have HC := hide (hc.keepF hkb)
  have HQ := hide (refCheck_v S _ _ _ m Wb (unhide HS) (unhide HV) (unhide HC) hkey)
  obtain ⟨R, HR⟩ : ∃ R, Hid (checkM S m = R) := ⟨_, rfl⟩
  rw [unhide HR] at HQ
  clear hS hv hc hkb hWb0
  go_enter Tryz.func11, Tryz.ntmps11
  go_wp2_with fail
  refine (unhide HQ).mono ?_
  rintro e w1 ⟨rfl, hk⟩
  have HK1 := hide hk
  have a0 := (hk.cell (o := 0) hb0 id).trans s0
  have a1 := (hk.cell (o := 0) hbs id).trans r0
  have a2 := (hk.cell (o := 1) hbs id).trans r1
  have a3 := (hk.cell (o := 2) hbs id).trans r2
  have a4 := (hk.cell (o := 3) hbs id).trans r3
  have l1 : w.heap.size + 1 < w1.heap.size := Nat.lt_of_lt_of_le hbs hk.size
  clear hk HQ hWb
  have h0 : R ≠ 0 := by rw [← unhide HR]; exact unhide H_h0
  have HEN : Hid (encM S m = ([], R)) := by show _ = _; unfold encM; rw [unhide HR, if_neg h0]
  have be : (R != 0) = true := by rw [bne_iff_ne]; exact h0
  clear h0
  go_wp2_with fail
  go_ret2
  rw [unhide HEN]
  exact ⟨_, rfl, World.ownsRow_nil w1 w.heap.size 5 1, (unhide HB).trans (unhide HK1)⟩
set_option maxRecDepth 100000 in
set_option maxHeartbeats 8000000 in
theorem refEnc_1 (S : List FieldA) (sv vv cv : Value) (m : MsgA) (w : World) (hS : FldsAt w sv S) (hv : ValsAt w vv m.vals) (hc : BytesAt w cv m.code) (hI : InR m.vals) (hkey : m.key.length ≤ 140737488355328) (h0 : checkM S m = 0) (hk : m.kind = 1) :
    Calls Tryz.prog 11 #[.agg #[sv], .agg #[.int .i64 m.kind, str m.key, vv, cv]] w fun e w' => ∃ b', e = .returned (.tuple #[b', .int .i64 (encM S m).2]) ∧ w'.ownsRow w.heap.size 5 1 b' (encM S m).1.length (bs (encM S m).1) ∧ Keeps (fun _ => False) w w' := by
  have H_h0 := hide h0
  have H_hk := hide hk
  clear h0 hk
  obtain ⟨so, sc, rfl⟩ := RowAt.form hS
  obtain ⟨vo, vc, rfl⟩ := RowAt.form hv
  obtain ⟨co, cc, rfl⟩ := RowAt.form hc
  obtain ⟨Wb, hWb0, hkb, hbs, s0, r0, r1, r2, r3⟩ := two_boxesM w (.slice so S.length sc) (.int .i64 m.kind) (str m.key) (.slice vo m.vals.length vc) (.slice co m.code.length cc)
  have hb0 : w.heap.size < Wb.heap.size := by omega
  have hWb := hWb0.symm
  have HB := hide hkb
  have HS := hide (hS.keepF hkb)
  have HV := hide (hv.keepF hkb)
  have HC := hide (hc.keepF hkb)
  have HQ := hide (refCheck_v S _ _ _ m Wb (unhide HS) (unhide HV) (unhide HC) hkey)
  obtain ⟨R, HR⟩ : ∃ R, Hid (checkM S m = R) := ⟨_, rfl⟩
  rw [unhide HR] at HQ
  clear hS hv hc hkb hWb0
  go_enter Tryz.func11, Tryz.ntmps11
  go_wp2_with fail
  refine (unhide HQ).mono ?_
  rintro e w1 ⟨rfl, hk⟩
  have HK1 := hide hk
  have a0 := (hk.cell (o := 0) hb0 id).trans s0
  have a1 := (hk.cell (o := 0) hbs id).trans r0
  have a2 := (hk.cell (o := 1) hbs id).trans r1
  have a3 := (hk.cell (o := 2) hbs id).trans r2
  have a4 := (hk.cell (o := 3) hbs id).trans r3
  have l1 : w.heap.size + 1 < w1.heap.size := Nat.lt_of_lt_of_le hbs hk.size
  clear hk HQ hWb
  have hR0 : R = 0 := by rw [← unhide HR]; exact unhide H_h0
  subst hR0
  have hck := unhide HR
  obtain ⟨q1, q2, q3, q4, q5⟩ := check_parts hck
  have hbl := body_96 hck hI
  obtain ⟨hk1, hk16⟩ := key_16 q3
  have hkd := unhide H_hk
  have HEN : Hid (encM S m = (bytesM S m, 0)) := by show _ = _; unfold encM; rw [if_pos hck]
  have HCE := hide (bytesM_cells S m (by omega) (by omega) (by omega) (by omega))
  have HBL := hide (bytesM_len S m)
  rw [hkd] at a1 HCE
  have HKL := hide hk16
  have HBB := hide hbl
  have hBM : bodyM S m = encodeB S m.vals := by unfold bodyM; rw [if_pos hkd]
  clear q1 q2 q3 q4 q5 hck hbl hk1 hk16
  have HQ := hide (encode_any S _ m.vals _ w1 ((unhide HS).keepF (unhide HK1)) ((unhide HV).keepF (unhide HK1)) hI)
  rw [← hBM] at HQ
  clear hkd hBM
  go_wp2_with fail
  refine (unhide HQ).mono ?_
  rintro e wX ⟨b', rfl, how, hk⟩
  have hbv : BytesAt wX b' (bodyM S m) := rowAt_own how
  obtain ⟨bo, bc, rfl⟩ := RowAt.form hbv
  have HBV := hide hbv
  have HKX := hide ((unhide HK1).trans hk)
  have x1 := ((unhide HKX).cell (o := 0) hbs id).trans r0
  have x2 := ((unhide HKX).cell (o := 1) hbs id).trans r1
  have x3 := ((unhide HKX).cell (o := 2) hbs id).trans r2
  have x4 := ((unhide HKX).cell (o := 3) hbs id).trans r3
  rw [unhide H_hk] at x1
  have lX : w.heap.size + 1 < wX.heap.size := Nat.lt_of_lt_of_le hbs (unhide HKX).size
  clear hk HQ how hbv a0 a1 a2 a3 a4 l1
  obtain ⟨i0, hi, hz0, hz1, hz2⟩ := info_parts Tryz.info5
  have HW2 := hide (kAlloc wX (.cells #[.int .u8 1, .int .u8 (m.key.length : Int)] 5))
  have HO2 : Hid ((wX.alloc (.cells #[.int .u8 1, .int .u8 (m.key.length : Int)] 5)).ownsRow wX.heap.size 5 1 (.slice (some ⟨wX.heap.size, 0, none⟩) 2 2) 2 [.int .u8 1, .int .u8 (m.key.length : Int)]) := World.ownsRow_lit (base := wX.heap.size) (e := 5) (size := 1) wX #[.int .u8 1, .int .u8 (m.key.length : Int)] 2 (Nat.le_refl _) (by unfold maxLen; omega) rfl
  have j1 : (0 : Int) ≤ (m.key.length : Int) := by omega
  have j2 : (m.key.length : Int) ≤ 255 := by have := unhide HKL; omega
  go_wp2_with fail
  go_loopw [8, 9] (fun b i wr => ∃ k : Nat, k ≤ m.key.length ∧ i = .int .i64 k ∧ wr.ownsRow wX.heap.size 5 1 b (2 + k) ([.int .u8 1, .int .u8 (m.key.length : Int)] ++ bs (m.key.take k)) ∧ Keeps (fun _ => False) wX wr) (fun _ i _ => m.key.length - (intOf i).toNat)
  case atStart => exact ⟨0, Nat.zero_le _, rfl, by simpa [bs] using unhide HO2, unhide HW2⟩
  case round =>
  obtain ⟨k, hk, rfl, hown, hkeep⟩ := hrel
  have HO := hide hown
  have HK := hide hkeep
  have hkl := unhide HKL
  have y2 := (((unhide HKX).trans hkeep).cell (o := 1) hbs id).trans r1
  have z1 : w.heap.size + 1 < wr.heap.size := Nat.lt_of_lt_of_le hbs ((unhide HKX).trans hkeep).size
  clear hown hkeep
  by_cases hlt : k < m.key.length
  · obtain ⟨x, hx⟩ : ∃ x, m.key[k]? = some x := ⟨_, List.getElem?_eq_getElem hlt⟩
    have qx : ∀ hk, (ByteArray.mk m.key.toArray)[k]'hk = x := fun hk => by
      obtain ⟨_, h⟩ := List.getElem?_eq_some_iff.1 hx
      rw [← h]
      rfl
    have e1 : (x.toNat : Int) = num x := rfl
    have HX := hide hx
    have i1 : (k : Int) < (m.key.length : Int) := by omega
    have i0' : (0 : Int) ≤ (k : Int) := by omega
    clear hx
    go_wp2_with (at_builtin; refine wpList_append_lies _ rfl _ _ _ rfl wX.heap.size 5 i0 _ 1 1 Tryz.underlying26 hi hz0 hz1 hz2 rfl (by omega) u8 (2 + k) ([.int .u8 1, .int .u8 (m.key.length : Int)] ++ bs (m.key.take k)) rfl ((unhide HO).alloc _) ⟨wr.heap.size, 0, none⟩ 1 1 [.int .u8 (num x)] rfl rfl (World.news_of_block (cs := #[.int .u8 (num x)]) (t := 5) (fr := (0, 0)) (heap_alloc_new wr _)) (by simp [Value.oneCell']) (by omega) (by unfold maxLen; omega) (by omega) (by have := (unhide HK).size; simp; omega) (wr.heap.size + 1) (by simp) ?_; intro g cap w1_ hown1 hgrow hat hlt1)
    go_roundw
    case rel =>
      refine ⟨k + 1, by omega, by go_num, ?_, ((unhide HK).alloc _).grown hgrow (fun q e hq => by have := ((unhide HO).lt q e).1; omega)⟩
      rw [take_snoc _ _ _ (unhide HX)]
      simpa [bs, Nat.add_assoc] using hown1
    case measure => simp [intOf]; omega
  · obtain rfl : k = m.key.length := by omega
    have HO3 : Hid (wr.ownsRow wX.heap.size 5 1 u8 (2 + m.key.length) ([.int .u8 1, .int .u8 (m.key.length : Int)] ++ bs m.key)) := by
      have := unhide HO
      rw [List.take_length] at this
      exact this
    have HBW := hide ((unhide HBV).keepF (unhide HK))
    have i1 : ¬ (m.key.length : Int) < (m.key.length : Int) := by omega
    have b1 : (0 : Int) ≤ ((bodyM S m).length : Int) := by omega
    have b2 : ((bodyM S m).length : Int) ≤ 255 := by have := unhide HBB; omega
    have mark0 : True := trivial
    obtain ⟨uo8, uc8, rfl⟩ := RowAt.form (rowAt_own (unhide HO3))
    go_wp2_with (first
      | (clear mark0
         at_builtin
         refine wpList_append_lies _ rfl _ _ _ rfl wX.heap.size 5 i0 _ 1 1 Tryz.underlying26 hi hz0 hz1 hz2 rfl (by omega) (.slice uo8 (2 + m.key.length) uc8) (2 + m.key.length) ([.int .u8 1, .int .u8 (m.key.length : Int)] ++ bs m.key) rfl ((unhide HO3).alloc _) ⟨wr.heap.size, 0, none⟩ 1 1 [.int .u8 ((bodyM S m).length : Int)] rfl rfl (World.news_of_block (cs := #[.int .u8 ((bodyM S m).length : Int)]) (t := 5) (fr := (0, 0)) (heap_alloc_new wr _)) (by simp [Value.oneCell']) (by omega) (by unfold maxLen; omega) (by omega) (by have := (unhide HK).size; simp; omega) (wr.heap.size + 1) (by simp) ?_
         intro g cap w5 hown5 hgrow5 hat5 hlt5
         have hk5 : Keeps (fun _ => False) wX w5 := ((unhide HK).alloc _).grown hgrow5 (fun q e hq => by have := ((unhide HO3).lt q e).1; omega)
         have HB5 := hide ((unhide HBV).keepF hk5)
         have HK5 := hide hk5
         have HO5 := hide hown5
         have mark1 : True := trivial
         clear hk5 hown5 hgrow5 hat5)
      | (clear mark1
         at_builtin
         refine wpList_append_any rfl _ _ rfl wX.heap.size (.slice (some ⟨g, 0, none⟩) (2 + m.key.length + 1) cap) (2 + m.key.length + 1) (([.int .u8 1, .int .u8 (m.key.length : Int)] ++ bs m.key) ++ [.int .u8 ((bodyM S m).length : Int)]) rfl (unhide HO5) (.slice bo (bodyM S m).length bc) (bodyM S m) rfl (unhide HB5) (by have := unhide HBB; unfold maxLen; omega) (by have := unhide HBB; omega) (unhide HK5).size ?_
         intro v6 w6 ho6 hg6
         have HK6 := hide ((unhide HK5).grown hg6 (fun q e hq => by have := ((unhide HO5).lt q e).1; omega))
         have HO6 := hide ho6
         clear ho6 hg6))
    go_ret2
    rw [unhide HEN]
    refine ⟨_, rfl, ?_, (unhide HB).trans ((unhide HKX).trans (unhide HK6))⟩
    have h6 := (unhide HO6).mono (base' := w.heap.size) (by have := (unhide HB).size; have := (unhide HKX).size; omega)
    rw [unhide HCE, unhide HBL]
    skip
    simpa [Nat.add_assoc] using h6
set_option maxRecDepth 100000 in
set_option maxHeartbeats 8000000 in
theorem refEnc_2 (S : List FieldA) (sv vv cv : Value) (m : MsgA) (w : World) (hS : FldsAt w sv S) (hv : ValsAt w vv m.vals) (hc : BytesAt w cv m.code) (hI : InR m.vals) (hkey : m.key.length ≤ 140737488355328) (h0 : checkM S m = 0) (hk : m.kind = 2) :
    Calls Tryz.prog 11 #[.agg #[sv], .agg #[.int .i64 m.kind, str m.key, vv, cv]] w fun e w' => ∃ b', e = .returned (.tuple #[b', .int .i64 (encM S m).2]) ∧ w'.ownsRow w.heap.size 5 1 b' (encM S m).1.length (bs (encM S m).1) ∧ Keeps (fun _ => False) w w' := by
  have H_h0 := hide h0
  have H_hk := hide hk
  clear h0 hk
  obtain ⟨so, sc, rfl⟩ := RowAt.form hS
  obtain ⟨vo, vc, rfl⟩ := RowAt.form hv
  obtain ⟨co, cc, rfl⟩ := RowAt.form hc
  obtain ⟨Wb, hWb0, hkb, hbs, s0, r0, r1, r2, r3⟩ := two_boxesM w (.slice so S.length sc) (.int .i64 m.kind) (str m.key) (.slice vo m.vals.length vc) (.slice co m.code.length cc)
  have hb0 : w.heap.size < Wb.heap.size := by omega
  have hWb := hWb0.symm
  have HB := hide hkb
  have HS := hide (hS.keepF hkb)
  have HV := hide (hv.keepF hkb)
  have HC := hide (hc.keepF hkb)
  have HQ := hide (refCheck_v S _ _ _ m Wb (unhide HS) (unhide HV) (unhide HC) hkey)
  obtain ⟨R, HR⟩ : ∃ R, Hid (checkM S m = R) := ⟨_, rfl⟩
  rw [unhide HR] at HQ
  clear hS hv hc hkb hWb0
  go_enter Tryz.func11, Tryz.ntmps11
  go_wp2_with fail
  refine (unhide HQ).mono ?_
  rintro e w1 ⟨rfl, hk⟩
  have HK1 := hide hk
  have a0 := (hk.cell (o := 0) hb0 id).trans s0
  have a1 := (hk.cell (o := 0) hbs id).trans r0
  have a2 := (hk.cell (o := 1) hbs id).trans r1
  have a3 := (hk.cell (o := 2) hbs id).trans r2
  have a4 := (hk.cell (o := 3) hbs id).trans r3
  have l1 : w.heap.size + 1 < w1.heap.size := Nat.lt_of_lt_of_le hbs hk.size
  clear hk HQ hWb
  have hR0 : R = 0 := by rw [← unhide HR]; exact unhide H_h0
  subst hR0
  have hck := unhide HR
  obtain ⟨q1, q2, q3, q4, q5⟩ := check_parts hck
  have hbl := body_96 hck hI
  obtain ⟨hk1, hk16⟩ := key_16 q3
  have hkd := unhide H_hk
  have HEN : Hid (encM S m = (bytesM S m, 0)) := by show _ = _; unfold encM; rw [if_pos hck]
  have HCE := hide (bytesM_cells S m (by omega) (by omega) (by omega) (by omega))
  have HBL := hide (bytesM_len S m)
  rw [hkd] at a1 HCE
  have HKL := hide hk16
  have HBB := hide hbl
  have hBM : bodyM S m = m.code := by unfold bodyM; rw [if_neg (by omega)]
  have hc0 : m.code = [] := by
    rcases shape_kinds q2 with ⟨h, _⟩ | ⟨_, _, h⟩ | ⟨h, _⟩
    · omega
    · exact h
    · omega
  rw [hc0] at hBM
  clear q1 q2 q3 q4 q5 hck hbl hk1 hk16
  have hbv : BytesAt w1 (.slice none 0 0) (bodyM S m) := by rw [hBM]; exact ⟨⟨_, _, rfl⟩, fun h0 => by simp at h0, fun ao m cap e => by simp at e; omega⟩
  have HBV := hide hbv
  have HLB : Hid ((bodyM S m).length = 0) := by show _ = _; rw [hBM]; rfl
  have HKX := HK1
  clear hbv hkd hBM hc0
  obtain ⟨i0, hi, hz0, hz1, hz2⟩ := info_parts Tryz.info5
  have HW2 := hide (kAlloc w1 (.cells #[.int .u8 2, .int .u8 (m.key.length : Int)] 5))
  have HO2 : Hid ((w1.alloc (.cells #[.int .u8 2, .int .u8 (m.key.length : Int)] 5)).ownsRow w1.heap.size 5 1 (.slice (some ⟨w1.heap.size, 0, none⟩) 2 2) 2 [.int .u8 2, .int .u8 (m.key.length : Int)]) := World.ownsRow_lit (base := w1.heap.size) (e := 5) (size := 1) w1 #[.int .u8 2, .int .u8 (m.key.length : Int)] 2 (Nat.le_refl _) (by unfold maxLen; omega) rfl
  have j1 : (0 : Int) ≤ (m.key.length : Int) := by omega
  have j2 : (m.key.length : Int) ≤ 255 := by have := unhide HKL; omega
  go_wp2_with fail
  go_loopw [8, 9] (fun b i wr => ∃ k : Nat, k ≤ m.key.length ∧ i = .int .i64 k ∧ wr.ownsRow w1.heap.size 5 1 b (2 + k) ([.int .u8 2, .int .u8 (m.key.length : Int)] ++ bs (m.key.take k)) ∧ Keeps (fun _ => False) w1 wr) (fun _ i _ => m.key.length - (intOf i).toNat)
  case atStart => exact ⟨0, Nat.zero_le _, rfl, by simpa [bs] using unhide HO2, unhide HW2⟩
  case round =>
  obtain ⟨k, hk, rfl, hown, hkeep⟩ := hrel
  have HO := hide hown
  have HK := hide hkeep
  have hkl := unhide HKL
  have y2 := (((unhide HKX).trans hkeep).cell (o := 1) hbs id).trans r1
  have z1 : w.heap.size + 1 < wr.heap.size := Nat.lt_of_lt_of_le hbs ((unhide HKX).trans hkeep).size
  clear hown hkeep
  by_cases hlt : k < m.key.length
  · obtain ⟨x, hx⟩ : ∃ x, m.key[k]? = some x := ⟨_, List.getElem?_eq_getElem hlt⟩
    have qx : ∀ hk, (ByteArray.mk m.key.toArray)[k]'hk = x := fun hk => by
      obtain ⟨_, h⟩ := List.getElem?_eq_some_iff.1 hx
      rw [← h]
      rfl
    have e1 : (x.toNat : Int) = num x := rfl
    have HX := hide hx
    have i1 : (k : Int) < (m.key.length : Int) := by omega
    have i0' : (0 : Int) ≤ (k : Int) := by omega
    clear hx
    go_wp2_with (at_builtin; refine wpList_append_lies _ rfl _ _ _ rfl w1.heap.size 5 i0 _ 1 1 Tryz.underlying26 hi hz0 hz1 hz2 rfl (by omega) u8 (2 + k) ([.int .u8 2, .int .u8 (m.key.length : Int)] ++ bs (m.key.take k)) rfl ((unhide HO).alloc _) ⟨wr.heap.size, 0, none⟩ 1 1 [.int .u8 (num x)] rfl rfl (World.news_of_block (cs := #[.int .u8 (num x)]) (t := 5) (fr := (0, 0)) (heap_alloc_new wr _)) (by simp [Value.oneCell']) (by omega) (by unfold maxLen; omega) (by omega) (by have := (unhide HK).size; simp; omega) (wr.heap.size + 1) (by simp) ?_; intro g cap w1_ hown1 hgrow hat hlt1)
    go_roundw
    case rel =>
      refine ⟨k + 1, by omega, by go_num, ?_, ((unhide HK).alloc _).grown hgrow (fun q e hq => by have := ((unhide HO).lt q e).1; omega)⟩
      rw [take_snoc _ _ _ (unhide HX)]
      simpa [bs, Nat.add_assoc] using hown1
    case measure => simp [intOf]; omega
  · obtain rfl : k = m.key.length := by omega
    have HO3 : Hid (wr.ownsRow w1.heap.size 5 1 u8 (2 + m.key.length) ([.int .u8 2, .int .u8 (m.key.length : Int)] ++ bs m.key)) := by
      have := unhide HO
      rw [List.take_length] at this
      exact this
    have HBW := hide ((unhide HBV).keepF (unhide HK))
    have i1 : ¬ (m.key.length : Int) < (m.key.length : Int) := by omega
    
    
    have mark0 : True := trivial
    obtain ⟨uo8, uc8, rfl⟩ := RowAt.form (rowAt_own (unhide HO3))
    go_wp2_with (first
      | (clear mark0
         at_builtin
         refine wpList_append_lies _ rfl _ _ _ rfl w1.heap.size 5 i0 _ 1 1 Tryz.underlying26 hi hz0 hz1 hz2 rfl (by omega) (.slice uo8 (2 + m.key.length) uc8) (2 + m.key.length) ([.int .u8 2, .int .u8 (m.key.length : Int)] ++ bs m.key) rfl ((unhide HO3).alloc _) ⟨wr.heap.size, 0, none⟩ 1 1 [.int .u8 0] rfl rfl (World.news_of_block (cs := #[.int .u8 0]) (t := 5) (fr := (0, 0)) (heap_alloc_new wr _)) (by simp [Value.oneCell']) (by omega) (by unfold maxLen; omega) (by omega) (by have := (unhide HK).size; simp; omega) (wr.heap.size + 1) (by simp) ?_
         intro g cap w5 hown5 hgrow5 hat5 hlt5
         have hk5 : Keeps (fun _ => False) w1 w5 := ((unhide HK).alloc _).grown hgrow5 (fun q e hq => by have := ((unhide HO3).lt q e).1; omega)
         have HB5 := hide ((unhide HBV).keepF hk5)
         have HK5 := hide hk5
         have HO5 := hide hown5
         have mark1 : True := trivial
         clear hk5 hown5 hgrow5 hat5)
      | (clear mark1
         at_builtin
         refine wpList_append_any rfl _ _ rfl w1.heap.size (.slice (some ⟨g, 0, none⟩) (2 + m.key.length + 1) cap) (2 + m.key.length + 1) (([.int .u8 2, .int .u8 (m.key.length : Int)] ++ bs m.key) ++ [.int .u8 0]) rfl (unhide HO5) (.slice none 0 0) (bodyM S m) rfl (unhide HB5) (by have := unhide HBB; unfold maxLen; omega) (by have := unhide HBB; omega) (unhide HK5).size ?_
         intro v6 w6 ho6 hg6
         have HK6 := hide ((unhide HK5).grown hg6 (fun q e hq => by have := ((unhide HO5).lt q e).1; omega))
         have HO6 := hide ho6
         clear ho6 hg6))
    go_ret2
    rw [unhide HEN]
    refine ⟨_, rfl, ?_, (unhide HB).trans ((unhide HKX).trans (unhide HK6))⟩
    have h6 := (unhide HO6).mono (base' := w.heap.size) (by have := (unhide HB).size; have := (unhide HKX).size; omega)
    rw [unhide HCE, unhide HBL]
    rw [show (0 : Int) = (((bodyM S m).length : Nat) : Int) by rw [unhide HLB]; rfl] at h6
    simpa [Nat.add_assoc] using h6
set_option maxRecDepth 100000 in
set_option maxHeartbeats 8000000 in
theorem refEnc_3 (S : List FieldA) (sv vv cv : Value) (m : MsgA) (w : World) (hS : FldsAt w sv S) (hv : ValsAt w vv m.vals) (hc : BytesAt w cv m.code) (hI : InR m.vals) (hkey : m.key.length ≤ 140737488355328) (h0 : checkM S m = 0) (hk : m.kind = 3) :
    Calls Tryz.prog 11 #[.agg #[sv], .agg #[.int .i64 m.kind, str m.key, vv, cv]] w fun e w' => ∃ b', e = .returned (.tuple #[b', .int .i64 (encM S m).2]) ∧ w'.ownsRow w.heap.size 5 1 b' (encM S m).1.length (bs (encM S m).1) ∧ Keeps (fun _ => False) w w' := by
  have H_h0 := hide h0
  have H_hk := hide hk
  clear h0 hk
  obtain ⟨so, sc, rfl⟩ := RowAt.form hS
  obtain ⟨vo, vc, rfl⟩ := RowAt.form hv
  obtain ⟨co, cc, rfl⟩ := RowAt.form hc
  obtain ⟨Wb, hWb0, hkb, hbs, s0, r0, r1, r2, r3⟩ := two_boxesM w (.slice so S.length sc) (.int .i64 m.kind) (str m.key) (.slice vo m.vals.length vc) (.slice co m.code.length cc)
  have hb0 : w.heap.size < Wb.heap.size := by omega
  have hWb := hWb0.symm
  have HB := hide hkb
  have HS := hide (hS.keepF hkb)
  have HV := hide (hv.keepF hkb)
  have HC := hide (hc.keepF hkb)
  have HQ := hide (refCheck_v S _ _ _ m Wb (unhide HS) (unhide HV) (unhide HC) hkey)
  obtain ⟨R, HR⟩ : ∃ R, Hid (checkM S m = R) := ⟨_, rfl⟩
  rw [unhide HR] at HQ
  clear hS hv hc hkb hWb0
  go_enter Tryz.func11, Tryz.ntmps11
  go_wp2_with fail
  refine (unhide HQ).mono ?_
  rintro e w1 ⟨rfl, hk⟩
  have HK1 := hide hk
  have a0 := (hk.cell (o := 0) hb0 id).trans s0
  have a1 := (hk.cell (o := 0) hbs id).trans r0
  have a2 := (hk.cell (o := 1) hbs id).trans r1
  have a3 := (hk.cell (o := 2) hbs id).trans r2
  have a4 := (hk.cell (o := 3) hbs id).trans r3
  have l1 : w.heap.size + 1 < w1.heap.size := Nat.lt_of_lt_of_le hbs hk.size
  clear hk HQ hWb
  have hR0 : R = 0 := by rw [← unhide HR]; exact unhide H_h0
  subst hR0
  have hck := unhide HR
  obtain ⟨q1, q2, q3, q4, q5⟩ := check_parts hck
  have hbl := body_96 hck hI
  obtain ⟨hk1, hk16⟩ := key_16 q3
  have hkd := unhide H_hk
  have HEN : Hid (encM S m = (bytesM S m, 0)) := by show _ = _; unfold encM; rw [if_pos hck]
  have HCE := hide (bytesM_cells S m (by omega) (by omega) (by omega) (by omega))
  have HBL := hide (bytesM_len S m)
  rw [hkd] at a1 HCE
  have HKL := hide hk16
  have HBB := hide hbl
  have hBM : bodyM S m = m.code := by unfold bodyM; rw [if_neg (by omega)]
  clear q1 q2 q3 q4 q5 hck hbl hk1 hk16
  have hbv : BytesAt w1 (.slice co m.code.length cc) (bodyM S m) := by rw [hBM]; exact (unhide HC).keepF (unhide HK1)
  have HBV := hide hbv
  have HLB : Hid ((bodyM S m).length = m.code.length) := by show _ = _; rw [hBM]
  have HKX := HK1
  clear hbv hkd hBM
  obtain ⟨i0, hi, hz0, hz1, hz2⟩ := info_parts Tryz.info5
  have HW2 := hide (kAlloc w1 (.cells #[.int .u8 3, .int .u8 (m.key.length : Int)] 5))
  have HO2 : Hid ((w1.alloc (.cells #[.int .u8 3, .int .u8 (m.key.length : Int)] 5)).ownsRow w1.heap.size 5 1 (.slice (some ⟨w1.heap.size, 0, none⟩) 2 2) 2 [.int .u8 3, .int .u8 (m.key.length : Int)]) := World.ownsRow_lit (base := w1.heap.size) (e := 5) (size := 1) w1 #[.int .u8 3, .int .u8 (m.key.length : Int)] 2 (Nat.le_refl _) (by unfold maxLen; omega) rfl
  have j1 : (0 : Int) ≤ (m.key.length : Int) := by omega
  have j2 : (m.key.length : Int) ≤ 255 := by have := unhide HKL; omega
  go_wp2_with fail
  go_loopw [8, 9] (fun b i wr => ∃ k : Nat, k ≤ m.key.length ∧ i = .int .i64 k ∧ wr.ownsRow w1.heap.size 5 1 b (2 + k) ([.int .u8 3, .int .u8 (m.key.length : Int)] ++ bs (m.key.take k)) ∧ Keeps (fun _ => False) w1 wr) (fun _ i _ => m.key.length - (intOf i).toNat)
  case atStart => exact ⟨0, Nat.zero_le _, rfl, by simpa [bs] using unhide HO2, unhide HW2⟩
  case round =>
  obtain ⟨k, hk, rfl, hown, hkeep⟩ := hrel
  have HO := hide hown
  have HK := hide hkeep
  have hkl := unhide HKL
  have y2 := (((unhide HKX).trans hkeep).cell (o := 1) hbs id).trans r1
  have z1 : w.heap.size + 1 < wr.heap.size := Nat.lt_of_lt_of_le hbs ((unhide HKX).trans hkeep).size
  clear hown hkeep
  by_cases hlt : k < m.key.length
  · obtain ⟨x, hx⟩ : ∃ x, m.key[k]? = some x := ⟨_, List.getElem?_eq_getElem hlt⟩
    have qx : ∀ hk, (ByteArray.mk m.key.toArray)[k]'hk = x := fun hk => by
      obtain ⟨_, h⟩ := List.getElem?_eq_some_iff.1 hx
      rw [← h]
      rfl
    have e1 : (x.toNat : Int) = num x := rfl
    have HX := hide hx
    have i1 : (k : Int) < (m.key.length : Int) := by omega
    have i0' : (0 : Int) ≤ (k : Int) := by omega
    clear hx
    go_wp2_with (at_builtin; refine wpList_append_lies _ rfl _ _ _ rfl w1.heap.size 5 i0 _ 1 1 Tryz.underlying26 hi hz0 hz1 hz2 rfl (by omega) u8 (2 + k) ([.int .u8 3, .int .u8 (m.key.length : Int)] ++ bs (m.key.take k)) rfl ((unhide HO).alloc _) ⟨wr.heap.size, 0, none⟩ 1 1 [.int .u8 (num x)] rfl rfl (World.news_of_block (cs := #[.int .u8 (num x)]) (t := 5) (fr := (0, 0)) (heap_alloc_new wr _)) (by simp [Value.oneCell']) (by omega) (by unfold maxLen; omega) (by omega) (by have := (unhide HK).size; simp; omega) (wr.heap.size + 1) (by simp) ?_; intro g cap w1_ hown1 hgrow hat hlt1)
    go_roundw
    case rel =>
      refine ⟨k + 1, by omega, by go_num, ?_, ((unhide HK).alloc _).grown hgrow (fun q e hq => by have := ((unhide HO).lt q e).1; omega)⟩
      rw [take_snoc _ _ _ (unhide HX)]
      simpa [bs, Nat.add_assoc] using hown1
    case measure => simp [intOf]; omega
  · obtain rfl : k = m.key.length := by omega
    have HO3 : Hid (wr.ownsRow w1.heap.size 5 1 u8 (2 + m.key.length) ([.int .u8 3, .int .u8 (m.key.length : Int)] ++ bs m.key)) := by
      have := unhide HO
      rw [List.take_length] at this
      exact this
    have HBW := hide ((unhide HBV).keepF (unhide HK))
    have i1 : ¬ (m.key.length : Int) < (m.key.length : Int) := by omega
    have b1 : (0 : Int) ≤ (m.code.length : Int) := by omega
    have b2 : (m.code.length : Int) ≤ 255 := by have := unhide HBB; have := unhide HLB; omega
    have mark0 : True := trivial
    obtain ⟨uo8, uc8, rfl⟩ := RowAt.form (rowAt_own (unhide HO3))
    go_wp2_with (first
      | (clear mark0
         at_builtin
         refine wpList_append_lies _ rfl _ _ _ rfl w1.heap.size 5 i0 _ 1 1 Tryz.underlying26 hi hz0 hz1 hz2 rfl (by omega) (.slice uo8 (2 + m.key.length) uc8) (2 + m.key.length) ([.int .u8 3, .int .u8 (m.key.length : Int)] ++ bs m.key) rfl ((unhide HO3).alloc _) ⟨wr.heap.size, 0, none⟩ 1 1 [.int .u8 (m.code.length : Int)] rfl rfl (World.news_of_block (cs := #[.int .u8 (m.code.length : Int)]) (t := 5) (fr := (0, 0)) (heap_alloc_new wr _)) (by simp [Value.oneCell']) (by omega) (by unfold maxLen; omega) (by omega) (by have := (unhide HK).size; simp; omega) (wr.heap.size + 1) (by simp) ?_
         intro g cap w5 hown5 hgrow5 hat5 hlt5
         have hk5 : Keeps (fun _ => False) w1 w5 := ((unhide HK).alloc _).grown hgrow5 (fun q e hq => by have := ((unhide HO3).lt q e).1; omega)
         have HB5 := hide ((unhide HBV).keepF hk5)
         have HK5 := hide hk5
         have HO5 := hide hown5
         have mark1 : True := trivial
         clear hk5 hown5 hgrow5 hat5)
      | (clear mark1
         at_builtin
         refine wpList_append_any rfl _ _ rfl w1.heap.size (.slice (some ⟨g, 0, none⟩) (2 + m.key.length + 1) cap) (2 + m.key.length + 1) (([.int .u8 3, .int .u8 (m.key.length : Int)] ++ bs m.key) ++ [.int .u8 (m.code.length : Int)]) rfl (unhide HO5) (.slice co m.code.length cc) (bodyM S m) rfl (unhide HB5) (by have := unhide HBB; unfold maxLen; omega) (by have := unhide HBB; omega) (unhide HK5).size ?_
         intro v6 w6 ho6 hg6
         have HK6 := hide ((unhide HK5).grown hg6 (fun q e hq => by have := ((unhide HO5).lt q e).1; omega))
         have HO6 := hide ho6
         clear ho6 hg6))
    go_ret2
    rw [unhide HEN]
    refine ⟨_, rfl, ?_, (unhide HB).trans ((unhide HKX).trans (unhide HK6))⟩
    have h6 := (unhide HO6).mono (base' := w.heap.size) (by have := (unhide HB).size; have := (unhide HKX).size; omega)
    rw [unhide HCE, unhide HBL]
    rw [← unhide HLB] at h6
    simpa [Nat.add_assoc] using h6
theorem refEnc_v (S : List FieldA) (sv vv cv : Value) (m : MsgA) (w : World) (hS : FldsAt w sv S) (hv : ValsAt w vv m.vals) (hc : BytesAt w cv m.code) (hI : InR m.vals) (hkey : m.key.length ≤ 140737488355328) :
    Calls Tryz.prog 11 #[.agg #[sv], .agg #[.int .i64 m.kind, str m.key, vv, cv]] w fun e w' => ∃ b', e = .returned (.tuple #[b', .int .i64 (encM S m).2]) ∧ w'.ownsRow w.heap.size 5 1 b' (encM S m).1.length (bs (encM S m).1) ∧ Keeps (fun _ => False) w w' := by
  by_cases h0 : checkM S m = 0
  · rcases shape_kinds (check_parts h0).2.1 with ⟨hk, _⟩ | ⟨hk, _⟩ | ⟨hk, _⟩
    · exact refEnc_1 S sv vv cv m w hS hv hc hI hkey h0 hk
    · exact refEnc_2 S sv vv cv m w hS hv hc hI hkey h0 hk
    · exact refEnc_3 S sv vv cv m w hS hv hc hI hkey h0 hk
  · exact refEnc_bad S sv vv cv m w hS hv hc hkey h0
end Go.Proofs.YtcfnlnceoalnoaaGreatDoor
