import Derived.Test.YtcfnlnceoalnoaaGreatDoorIj
namespace Go.Proofs.YtcfnlnceoalnoaaGreatDoor
open Go.RowKit Go.Maps
theorem takeM_key {S : List FieldA} {t : Txt} {m : MsgA} {r : Txt} (h : takeM S t = some (m, r)) : m.key.length ≤ 255 ∧ r.length ≤ t.length := by
  cases t with
  | nil => cases h
  | cons k s =>
    have h' : (match textP s with | none => none | some (key, r1) => match textP r1 with | none => none | some (body, r2) => some (msgOf S (num k) key body, r2)) = some (m, r) := h
    cases hP : textP s with
    | none => rw [hP] at h'; cases h'
    | some p =>
      obtain ⟨key, r1⟩ := p
      rw [hP] at h'
      simp only at h'
      cases hQ : textP r1 with
      | none => rw [hQ] at h'; cases h'
      | some q =>
        obtain ⟨bd, r2⟩ := q
        rw [hQ] at h'
        simp only [Option.some.injEq, Prod.mk.injEq] at h'
        obtain ⟨rfl, rfl⟩ := h'
        rw [(msgOf_parts S (num k) key bd).2]
        have := text_len hP
        have := text_len hQ
        simp only [List.length_cons]
        omega
theorem zero_form {B : Nat} {w : World} {x : Value} (h : MsgR B w zeroM x) : ∃ vo vc co cc, x = .agg #[.int .i64 0, .string ⟨#[]⟩, .slice vo 0 vc, .slice co 0 cc] := by
  obtain ⟨vo, vc, co, cc, rfl, _⟩ := h
  exact ⟨vo, vc, co, cc, rfl⟩
set_option maxRecDepth 100000 in
set_option maxHeartbeats 8000000 in
theorem msgDec_v (S : List FieldA) (sv v : Value) (t : Txt) (w : World) (hE : EnvM w) (hS : FldsAt w sv S) (hb : BytesAt w v t) (ht : t.length ≤ 140737488355328) :
    Calls Tryz.prog 16 #[.agg #[sv], v] w fun e w' => ∃ x, e = .returned (.tuple #[x, .int .i64 ((decM S t).2.1 : Int), .int .i64 (decM S t).2.2]) ∧ MsgR w.heap.size w' (decM S t).1 x ∧ Keeps (fun _ => False) w w' := by
  obtain ⟨so, sc, rfl⟩ := RowAt.form hS
  obtain ⟨vo, vc, rfl⟩ := RowAt.form hb
  have k1 := kAlloc w (.cells #[.slice so S.length sc] 24)
  have k2 := kAlloc (w.alloc (.cells #[.slice so S.length sc] 24)) (.cells #[.int .i64 0, .string ⟨#[]⟩, .slice none 0 0, .slice none 0 0] 28)
  have h1 := heap_alloc_new w (.cells #[.slice so S.length sc] 24)
  have h2 := heap_alloc_new (w.alloc (.cells #[.slice so S.length sc] 24)) (.cells #[.int .i64 0, .string ⟨#[]⟩, .slice none 0 0, .slice none 0 0] 28)
  rw [show (w.alloc (.cells #[.slice so S.length sc] 24)).heap.size = w.heap.size + 1 by simp] at h2
  have h1' := (k2.block _ (lt_of_block h1) id).trans h1
  have HW := hide (k1.trans k2)
  generalize hW : (w.alloc (.cells #[.slice so S.length sc] 24)).alloc (.cells #[.int .i64 0, .string ⟨#[]⟩, .slice none 0 0, .slice none 0 0] 28) = W at *
  have HL0 : Hid (Lying W (w.heap.size + 1) W) := ⟨Keeps.refl _ _, h2⟩
  have HB1 := hide h1'
  have HS := hide (hS.keepF (unhide HW))
  have HBT := hide (hb.keepF (unhide HW))
  have HE := hide (hE.keepF (unhide HW))
  have lS := lt_of_block h1'
  have s0 : W.cell? ⟨w.heap.size, 0, none⟩ = some (.slice so S.length sc) := (cell_of_blk h1' _).trans rfl
  obtain ⟨z0, z1, z2, z3, zf0, zf1, zf2, zf3, zl⟩ := four_cells h2
  have HQ := hide (checkSchema_v S _ W (unhide HE).env.types (unhide HS))
  have HM : Hid (decM S t = if errS S ≠ 0 then (zeroM, 0, errS S) else match takeM S t with | none => (zeroM, 0, 141) | some (m, rest) => if checkM S m = 0 then (m, t.length - rest.length, 0) else (zeroM, 0, 141)) := rfl
  obtain ⟨R, hR⟩ : ∃ R, errS S = R := ⟨_, rfl⟩
  rw [hR] at HM HQ
  have HTL := hide ht
  clear hE hS hb k1 k2 h1 h1' h2 hR ht
  go_enter Tryz.func16, Tryz.ntmps16
  go_wp2_with fail
  refine (unhide HQ).mono ?_
  rintro e w1 ⟨rfl, hk⟩
  have HK1 := hide hk
  have a0 := (hk.cell (o := 0) lS id).trans s0
  have hL1 := (unhide HL0).keep (unhide HK1)
  obtain ⟨y0, y1, y2, y3, yf0, yf1, yf2, yf3, yl⟩ := four_cells hL1.res
  clear hk HQ hW z0 z1 z2 z3 zf0 zf1 zf2 zf3
  by_cases hR0 : R = 0
  · subst hR0
    rw [if_neg (by simp)] at HM
    have HQ := hide (take_msg S _ _ t w1 ((unhide HE).keepF (unhide HK1)).env.types ((unhide HS).keepF (unhide HK1)) ((unhide HBT).keepF (unhide HK1)) (unhide HTL))
    generalize hTK : takeM S t = TK at *
    have HTK := hide hTK
    clear hL1 hTK
    go_wp2_with fail
    refine (unhide HQ).mono ?_
    rintro e w2 ⟨x, y, ok, rfl, htk, hk⟩
    have HK2 := hide ((unhide HK1).trans hk)
    have b0 := ((unhide HK2).cell (o := 0) lS id).trans s0
    cases TK with
    | none =>
      obtain ⟨rfl, hmz, rfl⟩ := htk
      obtain ⟨mvo, mvc, mco, mcc, rfl⟩ := zero_form hmz
      simp only at HM
      have k3 := kAlloc w2 (.cells #[.int .i64 0, .string ⟨#[]⟩, .slice mvo 0 mvc, .slice mco 0 mcc] 28)
      have hL3 := (unhide HL0).keep ((unhide HK2).trans k3)
      obtain ⟨x0, x1, x2, x3, xf0, xf1, xf2, xf3, xl⟩ := four_cells hL3.res
      obtain ⟨t0, t1, t2, t3⟩ := set4c hL3.res (.int .i64 0) (.string ⟨#[]⟩) (.slice none 0 0) (.slice none 0 0)
      have HKF := hide (((unhide HW).trans ((unhide HK2).trans k3)).then (keeps_set4 _ (w.heap.size + 1) (.int .i64 0) (.string ⟨#[]⟩) (.slice none 0 0) (.slice none 0 0)) (fun i hi e => by omega))
      clear hmz hk hL3 k3 HQ
      go_wp2_with fail
      refine bodyPost_ret (v := .tuple #[.agg #[.int .i64 0, .string ⟨#[]⟩, .slice none 0 0, .slice none 0 0], .int .i64 0, .int .i64 141]) (by simp [results, go_sem, t0, t1, t2, t3]) rfl ?_
      rw [unhide HM]
      exact ⟨_, rfl, zero_msg _ _, unhide HKF⟩
    | some p =>
      obtain ⟨m, rest⟩ := p
      obtain ⟨rfl, hmz, yo, yc, rfl⟩ := htk
      obtain ⟨mvo, mvc, mco, mcc, rfl, hmv, hmc, hob1, hob2⟩ := hmz
      simp only at HM
      obtain ⟨hkey, hrl⟩ := takeM_key (unhide HTK)
      have k3 := kAlloc w2 (.cells #[.int .i64 m.kind, str m.key, .slice mvo m.vals.length mvc, .slice mco m.code.length mcc] 28)
      have h3 := heap_alloc_new w2 (.cells #[.int .i64 m.kind, str m.key, .slice mvo m.vals.length mvc, .slice mco m.code.length mcc] 28)
      have HK3 := hide ((unhide HK2).trans k3)
      have HQ := hide (check_v S _ _ _ m _ ((unhide HE).keepF (unhide HK3)) ((unhide HS).keepF (unhide HK3)) (hmv.keepF k3) (hmc.keepF k3) (by omega))
      have HV := hide (hmv.keepF k3)
      have HC := hide (hmc.keepF k3)
      have HO1 := hide hob1
      have HO2 := hide hob2
      have HX := hide h3
      obtain ⟨m0, m1, m2, m3, mf0, mf1, mf2, mf3, ml⟩ := four_cells h3
      have c0 := ((unhide HK3).cell (o := 0) lS id).trans s0
      have HW1 : Hid (w.heap.size ≤ w1.heap.size) := Nat.le_trans (unhide HW).size (unhide HK1).size
      generalize hCK : checkM S m = CK at *
      clear hmv hmc hob1 hob2 hk h3 hkey k3
      go_wp2_with fail
      refine (unhide HQ).mono ?_
      rintro e w4 ⟨rfl, hk⟩
      have HK4 := hide ((unhide HK3).trans hk)
      have hx4 := (hk.block _ (lt_of_block (unhide HX)) id).trans (unhide HX)
      obtain ⟨p0, p1, p2, p3, pf0, pf1, pf2, pf3, pl⟩ := four_cells hx4
      have hL4 := (unhide HL0).keep (unhide HK4)
      obtain ⟨x0, x1, x2, x3, xf0, xf1, xf2, xf3, xl⟩ := four_cells hL4.res
      have HV4 := hide ((unhide HV).keepF hk)
      have HC4 := hide ((unhide HC).keepF hk)
      have HL4 := hide hL4
      have HX4 := hide hx4
      have hRl : w.heap.size + 1 < w1.heap.size := yl
      have hRM : ¬ w2.heap.size = w.heap.size + 1 := by have := hRl; have := (unhide HK2).size; have := (unhide HK1).size; omega
      clear hk HQ m0 m1 m2 m3 mf0 mf1 mf2 mf3 c0 b0 hx4 hL4
      by_cases hC0 : CK = 0
      · subst hC0
        rw [if_pos rfl] at HM
        obtain ⟨t0, t1, t2, t3⟩ := set4c (unhide HL4).res (.int .i64 m.kind) (str m.key) (.slice mvo m.vals.length mvc) (.slice mco m.code.length mcc)
        have kR := keeps_set4 w4 (w.heap.size + 1) (.int .i64 m.kind) (str m.key) (.slice mvo m.vals.length mvc) (.slice mco m.code.length mcc)
        have HVF := hide (RowAt.kept (unhide HV4) kR (fun q e h => by have := unhide HO1 q e; omega))
        have HCF := hide (RowAt.kept (unhide HC4) kR (fun q e h => by have := unhide HO2 q e; omega))
        have HKF := hide (((unhide HW).trans (unhide HK4)).then kR (fun i hi e => by omega))
        have HRL := hide hrl
        have hsub : IntKind.i64.wrap ((t.length : Int) - (rest.length : Int)) = ((t.length - rest.length : Nat) : Int) := by rw [IntKind.wrap_i64] <;> (have := unhide HTL; omega)
        clear kR hrl
        go_wp2_with fail
        refine bodyPost_ret (v := .tuple #[.agg #[.int .i64 m.kind, str m.key, .slice mvo m.vals.length mvc, .slice mco m.code.length mcc], .int .i64 ((t.length - rest.length : Nat) : Int), .int .i64 0]) (by simp [results, go_sem, t0, t1, t2, t3]) rfl ?_
        rw [unhide HM]
        exact ⟨_, rfl, ⟨mvo, mvc, mco, mcc, rfl, unhide HVF, unhide HCF, fun q e => Nat.le_trans (unhide HW1) (unhide HO1 q e), fun q e => Nat.le_trans (unhide HW1) (unhide HO2 q e)⟩, unhide HKF⟩
      · rw [if_neg hC0] at HM
        have be : (CK != 0) = true := by rw [bne_iff_ne]; exact hC0
        obtain ⟨t0, t1, t2, t3⟩ := set4c (unhide HL4).res (.int .i64 0) (.string ⟨#[]⟩) (.slice none 0 0) (.slice none 0 0)
        have HKF := hide (((unhide HW).trans (unhide HK4)).then (keeps_set4 _ (w.heap.size + 1) (.int .i64 0) (.string ⟨#[]⟩) (.slice none 0 0) (.slice none 0 0)) (fun i hi e => by omega))
        clear hC0 hrl
        go_wp2_with fail
        refine bodyPost_ret (v := .tuple #[.agg #[.int .i64 0, .string ⟨#[]⟩, .slice none 0 0, .slice none 0 0], .int .i64 0, .int .i64 141]) (by simp [results, go_sem, t0, t1, t2, t3]) rfl ?_
        rw [unhide HM]
        exact ⟨_, rfl, zero_msg _ _, unhide HKF⟩
  · rw [if_pos hR0] at HM
    have be : (R != 0) = true := by rw [bne_iff_ne]; exact hR0
    obtain ⟨t0, t1, t2, t3⟩ := set4c hL1.res (.int .i64 0) (.string ⟨#[]⟩) (.slice none 0 0) (.slice none 0 0)
    have HKF := hide (((unhide HW).trans (unhide HK1)).then (keeps_set4 w1 (w.heap.size + 1) (.int .i64 0) (.string ⟨#[]⟩) (.slice none 0 0) (.slice none 0 0)) (fun i hi e => by omega))
    clear hL1 hR0
    go_wp2_with fail
    refine bodyPost_ret (v := .tuple #[.agg #[.int .i64 0, .string ⟨#[]⟩, .slice none 0 0, .slice none 0 0], .int .i64 0, .int .i64 R]) (by simp [results, go_sem, t0, t1, t2, t3]) rfl ?_
    rw [unhide HM]
    exact ⟨_, rfl, zero_msg _ _, unhide HKF⟩
end Go.Proofs.YtcfnlnceoalnoaaGreatDoor
