import Derived.Test.YtcfnlnceoalnoaaDoorJu
namespace Go.Proofs.YtcfnlnceoalnoaaDoor
open Go.RowKit Go.Maps
set_option maxRecDepth 100000 in
set_option maxHeartbeats 4000000 in
theorem refCheck_bad (S : List FieldA) (sv vv cv : Value) (m : MsgA) (w : World) (hS : FldsAt w sv S) (hv_ : ValsAt w vv m.vals) (hc_ : BytesAt w cv m.code) (h1 : errS S ≠ 0) :
    Calls Tryd.prog 7 #[.agg #[sv], .agg #[.int .i64 m.kind, str m.key, vv, cv]] w fun e w' => e = .returned (.int .i64 (checkM S m)) ∧ Keeps (fun _ => False) w w' := by
  have H_h1 := hide h1
  clear h1
  obtain ⟨so, sc, rfl⟩ := RowAt.form hS
  obtain ⟨vo, vc, rfl⟩ := RowAt.form hv_
  obtain ⟨co, cc, rfl⟩ := RowAt.form hc_
  obtain ⟨Wb, hWb0, hkb, hbs, s0, r0, r1, r2, r3⟩ := two_boxesM w (.slice so S.length sc) (.int .i64 m.kind) (str m.key) (.slice vo m.vals.length vc) (.slice co m.code.length cc)
  have hb0 : w.heap.size < Wb.heap.size := by omega
  have hWb := hWb0.symm
  have HB := hide hkb
  have HS := hide (hS.keepF hkb)
  have HV := hide (hv_.keepF hkb)
  have HC := hide (hc_.keepF hkb)
  have HQ := hide (checkSchema_any S _ Wb (unhide HS))
  have HM : Hid (checkM S m = if errS S ≠ 0 then errS S else if shapeB m = false then 141 else if keyE m.key ≠ 0 then keyE m.key else if m.kind = 1 then errR S m.vals else if m.kind = 3 then codeE S m.code else 0) := rfl
  obtain ⟨R, hR⟩ : ∃ R, checkM S m = R := ⟨_, rfl⟩
  rw [hR] at HM ⊢
  clear hS hv_ hc_ hkb hWb0 hR
  go_enter Tryd.func7, Tryd.ntmps7
  go_wp2_with fail
  refine (unhide HQ).mono ?_
  rintro e w1 ⟨rfl, hk⟩
  have HK1 := hide hk
  have HV1 := hide ((unhide HV).keepF hk)
  have HC1 := hide ((unhide HC).keepF hk)
  have a0 := (hk.cell (o := 0) hb0 id).trans s0
  have a1 := (hk.cell (o := 0) hbs id).trans r0
  have a2 := (hk.cell (o := 1) hbs id).trans r1
  have a3 := (hk.cell (o := 2) hbs id).trans r2
  have a4 := (hk.cell (o := 3) hbs id).trans r3
  have l1 : w.heap.size + 1 < w1.heap.size := Nat.lt_of_lt_of_le hbs hk.size
  clear hk HQ hWb s0 r0 r1 r2 r3
  have h1 := unhide H_h1
  clear H_h1
  have he : errS S = 60 := (errS_two S).resolve_left h1
  rw [if_pos h1, he] at HM
  rw [he]
  clear h1 he
  go_wp2_with fail
  go_ret
  exact ⟨ret_int (unhide HM).symm, (unhide HB).trans (unhide HK1)⟩
set_option maxRecDepth 100000 in
set_option maxHeartbeats 4000000 in
theorem refCheck_0 (S : List FieldA) (sv vv cv : Value) (m : MsgA) (w : World) (hS : FldsAt w sv S) (hv_ : ValsAt w vv m.vals) (hc_ : BytesAt w cv m.code) (h1 : errS S = 0) (k1 : m.kind ≠ 1) (k2 : m.kind ≠ 2) (k3 : m.kind ≠ 3) :
    Calls Tryd.prog 7 #[.agg #[sv], .agg #[.int .i64 m.kind, str m.key, vv, cv]] w fun e w' => e = .returned (.int .i64 (checkM S m)) ∧ Keeps (fun _ => False) w w' := by
  have H_k1 := hide k1
  have H_k2 := hide k2
  have H_k3 := hide k3
  have H_h1 := hide h1
  clear k1 k2 k3 h1
  obtain ⟨so, sc, rfl⟩ := RowAt.form hS
  obtain ⟨vo, vc, rfl⟩ := RowAt.form hv_
  obtain ⟨co, cc, rfl⟩ := RowAt.form hc_
  obtain ⟨Wb, hWb0, hkb, hbs, s0, r0, r1, r2, r3⟩ := two_boxesM w (.slice so S.length sc) (.int .i64 m.kind) (str m.key) (.slice vo m.vals.length vc) (.slice co m.code.length cc)
  have hb0 : w.heap.size < Wb.heap.size := by omega
  have hWb := hWb0.symm
  have HB := hide hkb
  have HS := hide (hS.keepF hkb)
  have HV := hide (hv_.keepF hkb)
  have HC := hide (hc_.keepF hkb)
  have HQ := hide (checkSchema_any S _ Wb (unhide HS))
  have HM : Hid (checkM S m = if errS S ≠ 0 then errS S else if shapeB m = false then 141 else if keyE m.key ≠ 0 then keyE m.key else if m.kind = 1 then errR S m.vals else if m.kind = 3 then codeE S m.code else 0) := rfl
  obtain ⟨R, hR⟩ : ∃ R, checkM S m = R := ⟨_, rfl⟩
  rw [hR] at HM ⊢
  clear hS hv_ hc_ hkb hWb0 hR
  go_enter Tryd.func7, Tryd.ntmps7
  go_wp2_with fail
  refine (unhide HQ).mono ?_
  rintro e w1 ⟨rfl, hk⟩
  have HK1 := hide hk
  have HV1 := hide ((unhide HV).keepF hk)
  have HC1 := hide ((unhide HC).keepF hk)
  have a0 := (hk.cell (o := 0) hb0 id).trans s0
  have a1 := (hk.cell (o := 0) hbs id).trans r0
  have a2 := (hk.cell (o := 1) hbs id).trans r1
  have a3 := (hk.cell (o := 2) hbs id).trans r2
  have a4 := (hk.cell (o := 3) hbs id).trans r3
  have l1 : w.heap.size + 1 < w1.heap.size := Nat.lt_of_lt_of_le hbs hk.size
  clear hk HQ hWb s0 r0 r1 r2 r3
  have k1 := unhide H_k1
  have k2 := unhide H_k2
  have k3 := unhide H_k3
  have h1 := unhide H_h1
  clear H_k1 H_k2 H_k3 H_h1
  rw [if_neg (show ¬ errS S ≠ 0 from fun q => q h1)] at HM
  rw [h1]
  clear h1
  have n1 : (m.kind != 1) = true := by rw [bne_iff_ne]; exact k1
  have n2 : (m.kind != 2) = true := by rw [bne_iff_ne]; exact k2
  have n3 : (m.kind != 3) = true := by rw [bne_iff_ne]; exact k3
  have hsh : shapeB m = false := by unfold shapeB; simp [k1, k2, k3]
  rw [if_pos hsh] at HM
  generalize m.kind = MK at *
  clear k1 k2 k3 hsh
  go_wp2_with fail
  go_ret
  exact ⟨ret_int (unhide HM).symm, (unhide HB).trans (unhide HK1)⟩
set_option maxRecDepth 100000 in
set_option maxHeartbeats 4000000 in
theorem refCheck_1 (S : List FieldA) (sv vv cv : Value) (m : MsgA) (w : World) (hS : FldsAt w sv S) (hv_ : ValsAt w vv m.vals) (hc_ : BytesAt w cv m.code) (h1 : errS S = 0) (hk : m.kind = 1) (hc : m.code ≠ []) :
    Calls Tryd.prog 7 #[.agg #[sv], .agg #[.int .i64 m.kind, str m.key, vv, cv]] w fun e w' => e = .returned (.int .i64 (checkM S m)) ∧ Keeps (fun _ => False) w w' := by
  have H_hk := hide hk
  have H_hc := hide hc
  have H_h1 := hide h1
  clear hk hc h1
  obtain ⟨so, sc, rfl⟩ := RowAt.form hS
  obtain ⟨vo, vc, rfl⟩ := RowAt.form hv_
  obtain ⟨co, cc, rfl⟩ := RowAt.form hc_
  obtain ⟨Wb, hWb0, hkb, hbs, s0, r0, r1, r2, r3⟩ := two_boxesM w (.slice so S.length sc) (.int .i64 m.kind) (str m.key) (.slice vo m.vals.length vc) (.slice co m.code.length cc)
  have hb0 : w.heap.size < Wb.heap.size := by omega
  have hWb := hWb0.symm
  have HB := hide hkb
  have HS := hide (hS.keepF hkb)
  have HV := hide (hv_.keepF hkb)
  have HC := hide (hc_.keepF hkb)
  have HQ := hide (checkSchema_any S _ Wb (unhide HS))
  have HM : Hid (checkM S m = if errS S ≠ 0 then errS S else if shapeB m = false then 141 else if keyE m.key ≠ 0 then keyE m.key else if m.kind = 1 then errR S m.vals else if m.kind = 3 then codeE S m.code else 0) := rfl
  obtain ⟨R, hR⟩ : ∃ R, checkM S m = R := ⟨_, rfl⟩
  rw [hR] at HM ⊢
  clear hS hv_ hc_ hkb hWb0 hR
  go_enter Tryd.func7, Tryd.ntmps7
  go_wp2_with fail
  refine (unhide HQ).mono ?_
  rintro e w1 ⟨rfl, hk⟩
  have HK1 := hide hk
  have HV1 := hide ((unhide HV).keepF hk)
  have HC1 := hide ((unhide HC).keepF hk)
  have a0 := (hk.cell (o := 0) hb0 id).trans s0
  have a1 := (hk.cell (o := 0) hbs id).trans r0
  have a2 := (hk.cell (o := 1) hbs id).trans r1
  have a3 := (hk.cell (o := 2) hbs id).trans r2
  have a4 := (hk.cell (o := 3) hbs id).trans r3
  have l1 : w.heap.size + 1 < w1.heap.size := Nat.lt_of_lt_of_le hbs hk.size
  clear hk HQ hWb s0 r0 r1 r2 r3
  have hk := unhide H_hk
  have hc := unhide H_hc
  have h1 := unhide H_h1
  clear H_hk H_hc H_h1
  rw [if_neg (show ¬ errS S ≠ 0 from fun q => q h1)] at HM
  rw [h1]
  clear h1
  have g2 : decide (0 < m.code.length) = true := by simpa [List.length_pos_iff] using hc
  have hsh : shapeB m = false := by unfold shapeB; simp [hk, hc]
  rw [hk] at a1
  generalize m.code.length = NC at *
  rw [if_pos hsh] at HM
  clear hsh hk hc
  go_wp2_with fail
  go_ret
  exact ⟨ret_int (unhide HM).symm, (unhide HB).trans (unhide HK1)⟩
set_option maxRecDepth 100000 in
set_option maxHeartbeats 4000000 in
theorem refCheck_2 (S : List FieldA) (sv vv cv : Value) (m : MsgA) (w : World) (hS : FldsAt w sv S) (hv_ : ValsAt w vv m.vals) (hc_ : BytesAt w cv m.code) (hkey : m.key.length ≤ 140737488355328) (h1 : errS S = 0) (hk : m.kind = 1) (hc : m.code = []) :
    Calls Tryd.prog 7 #[.agg #[sv], .agg #[.int .i64 m.kind, str m.key, vv, cv]] w fun e w' => e = .returned (.int .i64 (checkM S m)) ∧ Keeps (fun _ => False) w w' := by
  have H_hk := hide hk
  have H_hc := hide hc
  have H_h1 := hide h1
  clear hk hc h1
  obtain ⟨so, sc, rfl⟩ := RowAt.form hS
  obtain ⟨vo, vc, rfl⟩ := RowAt.form hv_
  obtain ⟨co, cc, rfl⟩ := RowAt.form hc_
  obtain ⟨Wb, hWb0, hkb, hbs, s0, r0, r1, r2, r3⟩ := two_boxesM w (.slice so S.length sc) (.int .i64 m.kind) (str m.key) (.slice vo m.vals.length vc) (.slice co m.code.length cc)
  have hb0 : w.heap.size < Wb.heap.size := by omega
  have hWb := hWb0.symm
  have HB := hide hkb
  have HS := hide (hS.keepF hkb)
  have HV := hide (hv_.keepF hkb)
  have HC := hide (hc_.keepF hkb)
  have HQ := hide (checkSchema_any S _ Wb (unhide HS))
  have HM : Hid (checkM S m = if errS S ≠ 0 then errS S else if shapeB m = false then 141 else if keyE m.key ≠ 0 then keyE m.key else if m.kind = 1 then errR S m.vals else if m.kind = 3 then codeE S m.code else 0) := rfl
  obtain ⟨R, hR⟩ : ∃ R, checkM S m = R := ⟨_, rfl⟩
  rw [hR] at HM ⊢
  clear hS hv_ hc_ hkb hWb0 hR
  go_enter Tryd.func7, Tryd.ntmps7
  go_wp2_with fail
  refine (unhide HQ).mono ?_
  rintro e w1 ⟨rfl, hk⟩
  have HK1 := hide hk
  have HV1 := hide ((unhide HV).keepF hk)
  have HC1 := hide ((unhide HC).keepF hk)
  have a0 := (hk.cell (o := 0) hb0 id).trans s0
  have a1 := (hk.cell (o := 0) hbs id).trans r0
  have a2 := (hk.cell (o := 1) hbs id).trans r1
  have a3 := (hk.cell (o := 2) hbs id).trans r2
  have a4 := (hk.cell (o := 3) hbs id).trans r3
  have l1 : w.heap.size + 1 < w1.heap.size := Nat.lt_of_lt_of_le hbs hk.size
  clear hk HQ hWb s0 r0 r1 r2 r3
  have hk := unhide H_hk
  have hc := unhide H_hc
  have h1 := unhide H_h1
  clear H_hk H_hc H_h1
  rw [if_neg (show ¬ errS S ≠ 0 from fun q => q h1)] at HM
  rw [h1]
  clear h1
  have g2 : decide (0 < m.code.length) = false := by rw [hc]; rfl
  have hsh : shapeB m = true := by unfold shapeB; simp [hk, hc]
  rw [hk] at a1
  generalize m.code.length = NC at *
  rw [if_neg (by rw [hsh]; decide)] at HM
  have HQ := hide (refKey_v m.key hkey w1)
  clear hsh hc
  have HKD := hide hk
  clear hk
  go_wp2_with fail
  refine (unhide HQ).mono ?_
  rintro e w3 ⟨rfl, rfl⟩
  clear HQ
  by_cases h3 : keyE m.key = 0
  · rw [if_neg (show ¬ keyE m.key ≠ 0 from fun q => q h3)] at HM
    rw [h3]
    clear h3
    rw [if_pos (unhide HKD)] at HM
    have HQ := hide (check_any S _ m.vals _ w3 ((unhide HS).keepF (unhide HK1)) (unhide HV1))
    rw [← unhide HM] at HQ
    go_wp2_with fail
    refine (unhide HQ).mono ?_
    rintro e w4 ⟨rfl, hk⟩
    have HK3 := hide ((unhide HK1).trans hk)
    clear hk HQ
    go_wp2_with fail
    go_ret
    exact ⟨rfl, (unhide HB).trans (unhide HK3)⟩
  · rw [if_pos h3] at HM
    have be : (keyE m.key != 0) = true := by rw [bne_iff_ne]; exact h3
    generalize keyE m.key = KE at *
    clear h3
    go_wp2_with fail
    go_ret
    exact ⟨ret_int (unhide HM).symm, (unhide HB).trans (unhide HK1)⟩
set_option maxRecDepth 100000 in
set_option maxHeartbeats 4000000 in
theorem refCheck_3 (S : List FieldA) (sv vv cv : Value) (m : MsgA) (w : World) (hS : FldsAt w sv S) (hv_ : ValsAt w vv m.vals) (hc_ : BytesAt w cv m.code) (h1 : errS S = 0) (hk : m.kind = 2) (hv : m.vals ≠ []) :
    Calls Tryd.prog 7 #[.agg #[sv], .agg #[.int .i64 m.kind, str m.key, vv, cv]] w fun e w' => e = .returned (.int .i64 (checkM S m)) ∧ Keeps (fun _ => False) w w' := by
  have H_hk := hide hk
  have H_hv := hide hv
  have H_h1 := hide h1
  clear hk hv h1
  obtain ⟨so, sc, rfl⟩ := RowAt.form hS
  obtain ⟨vo, vc, rfl⟩ := RowAt.form hv_
  obtain ⟨co, cc, rfl⟩ := RowAt.form hc_
  obtain ⟨Wb, hWb0, hkb, hbs, s0, r0, r1, r2, r3⟩ := two_boxesM w (.slice so S.length sc) (.int .i64 m.kind) (str m.key) (.slice vo m.vals.length vc) (.slice co m.code.length cc)
  have hb0 : w.heap.size < Wb.heap.size := by omega
  have hWb := hWb0.symm
  have HB := hide hkb
  have HS := hide (hS.keepF hkb)
  have HV := hide (hv_.keepF hkb)
  have HC := hide (hc_.keepF hkb)
  have HQ := hide (checkSchema_any S _ Wb (unhide HS))
  have HM : Hid (checkM S m = if errS S ≠ 0 then errS S else if shapeB m = false then 141 else if keyE m.key ≠ 0 then keyE m.key else if m.kind = 1 then errR S m.vals else if m.kind = 3 then codeE S m.code else 0) := rfl
  obtain ⟨R, hR⟩ : ∃ R, checkM S m = R := ⟨_, rfl⟩
  rw [hR] at HM ⊢
  clear hS hv_ hc_ hkb hWb0 hR
  go_enter Tryd.func7, Tryd.ntmps7
  go_wp2_with fail
  refine (unhide HQ).mono ?_
  rintro e w1 ⟨rfl, hk⟩
  have HK1 := hide hk
  have HV1 := hide ((unhide HV).keepF hk)
  have HC1 := hide ((unhide HC).keepF hk)
  have a0 := (hk.cell (o := 0) hb0 id).trans s0
  have a1 := (hk.cell (o := 0) hbs id).trans r0
  have a2 := (hk.cell (o := 1) hbs id).trans r1
  have a3 := (hk.cell (o := 2) hbs id).trans r2
  have a4 := (hk.cell (o := 3) hbs id).trans r3
  have l1 : w.heap.size + 1 < w1.heap.size := Nat.lt_of_lt_of_le hbs hk.size
  clear hk HQ hWb s0 r0 r1 r2 r3
  have hk := unhide H_hk
  have hv := unhide H_hv
  have h1 := unhide H_h1
  clear H_hk H_hv H_h1
  rw [if_neg (show ¬ errS S ≠ 0 from fun q => q h1)] at HM
  rw [h1]
  clear h1
  have g1 : decide (0 < m.vals.length) = true := by simpa [List.length_pos_iff] using hv
  have hsh : shapeB m = false := by unfold shapeB; simp [hk, hv]
  rw [hk] at a1
  generalize m.vals.length = NV at *
  rw [if_pos hsh] at HM
  clear hsh hk hv
  go_wp2_with fail
  go_ret
  exact ⟨ret_int (unhide HM).symm, (unhide HB).trans (unhide HK1)⟩
set_option maxRecDepth 100000 in
set_option maxHeartbeats 4000000 in
theorem refCheck_4 (S : List FieldA) (sv vv cv : Value) (m : MsgA) (w : World) (hS : FldsAt w sv S) (hv_ : ValsAt w vv m.vals) (hc_ : BytesAt w cv m.code) (h1 : errS S = 0) (hk : m.kind = 2) (hv : m.vals = []) (hc : m.code ≠ []) :
    Calls Tryd.prog 7 #[.agg #[sv], .agg #[.int .i64 m.kind, str m.key, vv, cv]] w fun e w' => e = .returned (.int .i64 (checkM S m)) ∧ Keeps (fun _ => False) w w' := by
  have H_hk := hide hk
  have H_hv := hide hv
  have H_hc := hide hc
  have H_h1 := hide h1
  clear hk hv hc h1
  obtain ⟨so, sc, rfl⟩ := RowAt.form hS
  obtain ⟨vo, vc, rfl⟩ := RowAt.form hv_
  obtain ⟨co, cc, rfl⟩ := RowAt.form hc_
  obtain ⟨Wb, hWb0, hkb, hbs, s0, r0, r1, r2, r3⟩ := two_boxesM w (.slice so S.length sc) (.int .i64 m.kind) (str m.key) (.slice vo m.vals.length vc) (.slice co m.code.length cc)
  have hb0 : w.heap.size < Wb.heap.size := by omega
  have hWb := hWb0.symm
  have HB := hide hkb
  have HS := hide (hS.keepF hkb)
  have HV := hide (hv_.keepF hkb)
  have HC := hide (hc_.keepF hkb)
  have HQ := hide (checkSchema_any S _ Wb (unhide HS))
  have HM : Hid (checkM S m = if errS S ≠ 0 then errS S else if shapeB m = false then 141 else if keyE m.key ≠ 0 then keyE m.key else if m.kind = 1 then errR S m.vals else if m.kind = 3 then codeE S m.code else 0) := rfl
  obtain ⟨R, hR⟩ : ∃ R, checkM S m = R := ⟨_, rfl⟩
  rw [hR] at HM ⊢
  clear hS hv_ hc_ hkb hWb0 hR
  go_enter Tryd.func7, Tryd.ntmps7
  go_wp2_with fail
  refine (unhide HQ).mono ?_
  rintro e w1 ⟨rfl, hk⟩
  have HK1 := hide hk
  have HV1 := hide ((unhide HV).keepF hk)
  have HC1 := hide ((unhide HC).keepF hk)
  have a0 := (hk.cell (o := 0) hb0 id).trans s0
  have a1 := (hk.cell (o := 0) hbs id).trans r0
  have a2 := (hk.cell (o := 1) hbs id).trans r1
  have a3 := (hk.cell (o := 2) hbs id).trans r2
  have a4 := (hk.cell (o := 3) hbs id).trans r3
  have l1 : w.heap.size + 1 < w1.heap.size := Nat.lt_of_lt_of_le hbs hk.size
  clear hk HQ hWb s0 r0 r1 r2 r3
  have hk := unhide H_hk
  have hv := unhide H_hv
  have hc := unhide H_hc
  have h1 := unhide H_h1
  clear H_hk H_hv H_hc H_h1
  rw [if_neg (show ¬ errS S ≠ 0 from fun q => q h1)] at HM
  rw [h1]
  clear h1
  have g1 : decide (0 < m.vals.length) = false := by rw [hv]; rfl
  have g2 : decide (0 < m.code.length) = true := by simpa [List.length_pos_iff] using hc
  have hsh : shapeB m = false := by unfold shapeB; simp [hk, hv, hc]
  rw [hk] at a1
  generalize m.vals.length = NV at *
  generalize m.code.length = NC at *
  rw [if_pos hsh] at HM
  clear hsh hk hv hc
  go_wp2_with fail
  go_ret
  exact ⟨ret_int (unhide HM).symm, (unhide HB).trans (unhide HK1)⟩
set_option maxRecDepth 100000 in
set_option maxHeartbeats 4000000 in
theorem refCheck_5 (S : List FieldA) (sv vv cv : Value) (m : MsgA) (w : World) (hS : FldsAt w sv S) (hv_ : ValsAt w vv m.vals) (hc_ : BytesAt w cv m.code) (hkey : m.key.length ≤ 140737488355328) (h1 : errS S = 0) (hk : m.kind = 2) (hv : m.vals = []) (hc : m.code = []) :
    Calls Tryd.prog 7 #[.agg #[sv], .agg #[.int .i64 m.kind, str m.key, vv, cv]] w fun e w' => e = .returned (.int .i64 (checkM S m)) ∧ Keeps (fun _ => False) w w' := by
  have H_hk := hide hk
  have H_hv := hide hv
  have H_hc := hide hc
  have H_h1 := hide h1
  clear hk hv hc h1
  obtain ⟨so, sc, rfl⟩ := RowAt.form hS
  obtain ⟨vo, vc, rfl⟩ := RowAt.form hv_
  obtain ⟨co, cc, rfl⟩ := RowAt.form hc_
  obtain ⟨Wb, hWb0, hkb, hbs, s0, r0, r1, r2, r3⟩ := two_boxesM w (.slice so S.length sc) (.int .i64 m.kind) (str m.key) (.slice vo m.vals.length vc) (.slice co m.code.length cc)
  have hb0 : w.heap.size < Wb.heap.size := by omega
  have hWb := hWb0.symm
  have HB := hide hkb
  have HS := hide (hS.keepF hkb)
  have HV := hide (hv_.keepF hkb)
  have HC := hide (hc_.keepF hkb)
  have HQ := hide (checkSchema_any S _ Wb (unhide HS))
  have HM : Hid (checkM S m = if errS S ≠ 0 then errS S else if shapeB m = false then 141 else if keyE m.key ≠ 0 then keyE m.key else if m.kind = 1 then errR S m.vals else if m.kind = 3 then codeE S m.code else 0) := rfl
  obtain ⟨R, hR⟩ : ∃ R, checkM S m = R := ⟨_, rfl⟩
  rw [hR] at HM ⊢
  clear hS hv_ hc_ hkb hWb0 hR
  go_enter Tryd.func7, Tryd.ntmps7
  go_wp2_with fail
  refine (unhide HQ).mono ?_
  rintro e w1 ⟨rfl, hk⟩
  have HK1 := hide hk
  have HV1 := hide ((unhide HV).keepF hk)
  have HC1 := hide ((unhide HC).keepF hk)
  have a0 := (hk.cell (o := 0) hb0 id).trans s0
  have a1 := (hk.cell (o := 0) hbs id).trans r0
  have a2 := (hk.cell (o := 1) hbs id).trans r1
  have a3 := (hk.cell (o := 2) hbs id).trans r2
  have a4 := (hk.cell (o := 3) hbs id).trans r3
  have l1 : w.heap.size + 1 < w1.heap.size := Nat.lt_of_lt_of_le hbs hk.size
  clear hk HQ hWb s0 r0 r1 r2 r3
  have hk := unhide H_hk
  have hv := unhide H_hv
  have hc := unhide H_hc
  have h1 := unhide H_h1
  clear H_hk H_hv H_hc H_h1
  rw [if_neg (show ¬ errS S ≠ 0 from fun q => q h1)] at HM
  rw [h1]
  clear h1
  have g1 : decide (0 < m.vals.length) = false := by rw [hv]; rfl
  have g2 : decide (0 < m.code.length) = false := by rw [hc]; rfl
  have hsh : shapeB m = true := by unfold shapeB; simp [hk, hv, hc]
  rw [hk] at a1
  generalize m.vals.length = NV at *
  generalize m.code.length = NC at *
  rw [if_neg (by rw [hsh]; decide)] at HM
  have HQ := hide (refKey_v m.key hkey w1)
  clear hsh hv hc
  have HKD := hide hk
  clear hk
  go_wp2_with fail
  refine (unhide HQ).mono ?_
  rintro e w3 ⟨rfl, rfl⟩
  clear HQ
  by_cases h3 : keyE m.key = 0
  · rw [if_neg (show ¬ keyE m.key ≠ 0 from fun q => q h3)] at HM
    rw [h3]
    clear h3
    rw [if_neg (by have := unhide HKD; omega), if_neg (by have := unhide HKD; omega)] at HM
    go_wp2_with fail
    go_ret
    exact ⟨ret_int (unhide HM).symm, (unhide HB).trans (unhide HK1)⟩
  · rw [if_pos h3] at HM
    have be : (keyE m.key != 0) = true := by rw [bne_iff_ne]; exact h3
    generalize keyE m.key = KE at *
    clear h3
    go_wp2_with fail
    go_ret
    exact ⟨ret_int (unhide HM).symm, (unhide HB).trans (unhide HK1)⟩
set_option maxRecDepth 100000 in
set_option maxHeartbeats 4000000 in
theorem refCheck_6 (S : List FieldA) (sv vv cv : Value) (m : MsgA) (w : World) (hS : FldsAt w sv S) (hv_ : ValsAt w vv m.vals) (hc_ : BytesAt w cv m.code) (h1 : errS S = 0) (hk : m.kind = 3) (hv : m.vals ≠ []) :
    Calls Tryd.prog 7 #[.agg #[sv], .agg #[.int .i64 m.kind, str m.key, vv, cv]] w fun e w' => e = .returned (.int .i64 (checkM S m)) ∧ Keeps (fun _ => False) w w' := by
  have H_hk := hide hk
  have H_hv := hide hv
  have H_h1 := hide h1
  clear hk hv h1
  obtain ⟨so, sc, rfl⟩ := RowAt.form hS
  obtain ⟨vo, vc, rfl⟩ := RowAt.form hv_
  obtain ⟨co, cc, rfl⟩ := RowAt.form hc_
  obtain ⟨Wb, hWb0, hkb, hbs, s0, r0, r1, r2, r3⟩ := two_boxesM w (.slice so S.length sc) (.int .i64 m.kind) (str m.key) (.slice vo m.vals.length vc) (.slice co m.code.length cc)
  have hb0 : w.heap.size < Wb.heap.size := by omega
  have hWb := hWb0.symm
  have HB := hide hkb
  have HS := hide (hS.keepF hkb)
  have HV := hide (hv_.keepF hkb)
  have HC := hide (hc_.keepF hkb)
  have HQ := hide (checkSchema_any S _ Wb (unhide HS))
  have HM : Hid (checkM S m = if errS S ≠ 0 then errS S else if shapeB m = false then 141 else if keyE m.key ≠ 0 then keyE m.key else if m.kind = 1 then errR S m.vals else if m.kind = 3 then codeE S m.code else 0) := rfl
  obtain ⟨R, hR⟩ : ∃ R, checkM S m = R := ⟨_, rfl⟩
  rw [hR] at HM ⊢
  clear hS hv_ hc_ hkb hWb0 hR
  go_enter Tryd.func7, Tryd.ntmps7
  go_wp2_with fail
  refine (unhide HQ).mono ?_
  rintro e w1 ⟨rfl, hk⟩
  have HK1 := hide hk
  have HV1 := hide ((unhide HV).keepF hk)
  have HC1 := hide ((unhide HC).keepF hk)
  have a0 := (hk.cell (o := 0) hb0 id).trans s0
  have a1 := (hk.cell (o := 0) hbs id).trans r0
  have a2 := (hk.cell (o := 1) hbs id).trans r1
  have a3 := (hk.cell (o := 2) hbs id).trans r2
  have a4 := (hk.cell (o := 3) hbs id).trans r3
  have l1 : w.heap.size + 1 < w1.heap.size := Nat.lt_of_lt_of_le hbs hk.size
  clear hk HQ hWb s0 r0 r1 r2 r3
  have hk := unhide H_hk
  have hv := unhide H_hv
  have h1 := unhide H_h1
  clear H_hk H_hv H_h1
  rw [if_neg (show ¬ errS S ≠ 0 from fun q => q h1)] at HM
  rw [h1]
  clear h1
  have g1 : decide (0 < m.vals.length) = true := by simpa [List.length_pos_iff] using hv
  have hsh : shapeB m = false := by unfold shapeB; simp [hk, hv]
  rw [hk] at a1
  generalize m.vals.length = NV at *
  rw [if_pos hsh] at HM
  clear hsh hk hv
  go_wp2_with fail
  go_ret
  exact ⟨ret_int (unhide HM).symm, (unhide HB).trans (unhide HK1)⟩
set_option maxRecDepth 100000 in
set_option maxHeartbeats 4000000 in
theorem refCheck_7 (S : List FieldA) (sv vv cv : Value) (m : MsgA) (w : World) (hS : FldsAt w sv S) (hv_ : ValsAt w vv m.vals) (hc_ : BytesAt w cv m.code) (hkey : m.key.length ≤ 140737488355328) (h1 : errS S = 0) (hk : m.kind = 3) (hv : m.vals = []) :
    Calls Tryd.prog 7 #[.agg #[sv], .agg #[.int .i64 m.kind, str m.key, vv, cv]] w fun e w' => e = .returned (.int .i64 (checkM S m)) ∧ Keeps (fun _ => False) w w' := by
  have H_hk := hide hk
  have H_hv := hide hv
  have H_h1 := hide h1
  clear hk hv h1
  obtain ⟨so, sc, rfl⟩ := RowAt.form hS
  obtain ⟨vo, vc, rfl⟩ := RowAt.form hv_
  obtain ⟨co, cc, rfl⟩ := RowAt.form hc_
  obtain ⟨Wb, hWb0, hkb, hbs, s0, r0, r1, r2, r3⟩ := two_boxesM w (.slice so S.length sc) (.int .i64 m.kind) (str m.key) (.slice vo m.vals.length vc) (.slice co m.code.length cc)
  have hb0 : w.heap.size < Wb.heap.size := by omega
  have hWb := hWb0.symm
  have HB := hide hkb
  have HS := hide (hS.keepF hkb)
  have HV := hide (hv_.keepF hkb)
  have HC := hide (hc_.keepF hkb)
  have HQ := hide (checkSchema_any S _ Wb (unhide HS))
  have HM : Hid (checkM S m = if errS S ≠ 0 then errS S else if shapeB m = false then 141 else if keyE m.key ≠ 0 then keyE m.key else if m.kind = 1 then errR S m.vals else if m.kind = 3 then codeE S m.code else 0) := rfl
  obtain ⟨R, hR⟩ : ∃ R, checkM S m = R := ⟨_, rfl⟩
  rw [hR] at HM ⊢
  clear hS hv_ hc_ hkb hWb0 hR
  go_enter Tryd.func7, Tryd.ntmps7
  go_wp2_with fail
  refine (unhide HQ).mono ?_
  rintro e w1 ⟨rfl, hk⟩
  have HK1 := hide hk
  have HV1 := hide ((unhide HV).keepF hk)
  have HC1 := hide ((unhide HC).keepF hk)
  have a0 := (hk.cell (o := 0) hb0 id).trans s0
  have a1 := (hk.cell (o := 0) hbs id).trans r0
  have a2 := (hk.cell (o := 1) hbs id).trans r1
  have a3 := (hk.cell (o := 2) hbs id).trans r2
  have a4 := (hk.cell (o := 3) hbs id).trans r3
  have l1 : w.heap.size + 1 < w1.heap.size := Nat.lt_of_lt_of_le hbs hk.size
  clear hk HQ hWb s0 r0 r1 r2 r3
  have hk := unhide H_hk
  have hv := unhide H_hv
  have h1 := unhide H_h1
  clear H_hk H_hv H_h1
  rw [if_neg (show ¬ errS S ≠ 0 from fun q => q h1)] at HM
  rw [h1]
  clear h1
  have g1 : decide (0 < m.vals.length) = false := by rw [hv]; rfl
  have hsh : shapeB m = true := by unfold shapeB; simp [hk, hv]
  rw [hk] at a1
  generalize m.vals.length = NV at *
  rw [if_neg (by rw [hsh]; decide)] at HM
  have HQ := hide (refKey_v m.key hkey w1)
  clear hsh hv
  have HKD := hide hk
  clear hk
  go_wp2_with fail
  refine (unhide HQ).mono ?_
  rintro e w3 ⟨rfl, rfl⟩
  clear HQ
  by_cases h3 : keyE m.key = 0
  · rw [if_neg (show ¬ keyE m.key ≠ 0 from fun q => q h3)] at HM
    rw [h3]
    clear h3
    rw [if_neg (by have := unhide HKD; omega), if_pos (unhide HKD)] at HM
    have HQ := hide (refCode_v S _ _ m.code w3 ((unhide HS).keepF (unhide HK1)) (unhide HC1))
    rw [← unhide HM] at HQ
    go_wp2_with fail
    refine (unhide HQ).mono ?_
    rintro e w4 ⟨rfl, hk⟩
    have HK3 := hide ((unhide HK1).trans hk)
    clear hk HQ
    go_wp2_with fail
    go_ret
    exact ⟨rfl, (unhide HB).trans (unhide HK3)⟩
  · rw [if_pos h3] at HM
    have be : (keyE m.key != 0) = true := by rw [bne_iff_ne]; exact h3
    generalize keyE m.key = KE at *
    clear h3
    go_wp2_with fail
    go_ret
    exact ⟨ret_int (unhide HM).symm, (unhide HB).trans (unhide HK1)⟩
theorem refCheck_v (S : List FieldA) (sv vv cv : Value) (m : MsgA) (w : World) (hS : FldsAt w sv S) (hv_ : ValsAt w vv m.vals) (hc_ : BytesAt w cv m.code) (hkey : m.key.length ≤ 140737488355328) :
    Calls Tryd.prog 7 #[.agg #[sv], .agg #[.int .i64 m.kind, str m.key, vv, cv]] w fun e w' => e = .returned (.int .i64 (checkM S m)) ∧ Keeps (fun _ => False) w w' := by
  by_cases h1 : errS S = 0
  · by_cases k1 : m.kind = 1
    · by_cases hc : m.code = []
      · exact refCheck_2 S sv vv cv m w hS hv_ hc_ hkey h1 k1 hc
      · exact refCheck_1 S sv vv cv m w hS hv_ hc_ h1 k1 hc
    · by_cases k2 : m.kind = 2
      · by_cases hv : m.vals = []
        · by_cases hc : m.code = []
          · exact refCheck_5 S sv vv cv m w hS hv_ hc_ hkey h1 k2 hv hc
          · exact refCheck_4 S sv vv cv m w hS hv_ hc_ h1 k2 hv hc
        · exact refCheck_3 S sv vv cv m w hS hv_ hc_ h1 k2 hv
      · by_cases k3 : m.kind = 3
        · by_cases hv : m.vals = []
          · exact refCheck_7 S sv vv cv m w hS hv_ hc_ hkey h1 k3 hv
          · exact refCheck_6 S sv vv cv m w hS hv_ hc_ h1 k3 hv
        · exact refCheck_0 S sv vv cv m w hS hv_ hc_ h1 k1 k2 k3
  · exact refCheck_bad S sv vv cv m w hS hv_ hc_ h1
end Go.Proofs.YtcfnlnceoalnoaaDoor
