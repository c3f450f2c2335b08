import Derived.Test.YtabjomgikljdhaaDoorQe
import Derived.Test.YtabjomgikljdhaaDoorQg
import Derived.Test.YtabjomgikljdhaaDoorNw
namespace Go.Proofs.YtabjomgikljdhaaDoor
open Go.RowKit Go.Maps

theorem groups_ne (u : Nat) : groups u ≠ [] := by
  rw [groups]
  split <;> simp
theorem enc1_ne {f : FieldA} {x : ValA} (h : fitsB f x = true) (h0 : x.kind ≠ 0) : enc1 x ≠ [] := by
  rcases fitsB_kind h with e | e | ⟨e, _⟩ | ⟨e, _⟩
  · exact absurd e h0
  · rw [enc1_int e]; exact groups_ne _
  · rw [enc1_bool e]; simp
  · rw [enc1_bytes e]; simp
theorem enc_ne {l : List FieldA} {r : List ValA} (he : errR l r = 0) : encB l r ≠ [] := by
  obtain ⟨hs, hl, hf⟩ := errR_zero he
  have h1 := (schemaB_len hs).1
  have hb := bitsOf_length l r hl
  unfold encB
  match l, r, hl, hf, h1, hb with
  | [], _, _, _, h1, _ => simp at h1
  | f :: l, [], hl, _, _, _ => simp at hl
  | f :: l, x :: r, hl, hf, _, hb =>
    by_cases ho : f.opt = true
    · have : 0 < opts (f :: l) := by simp [opts, ho]
      unfold headT
      rw [if_pos (by omega)]
      simp
    · simp only [fitAll, List.zip_cons_cons, List.all_cons, Bool.and_eq_true] at hf
      have h0 : x.kind ≠ 0 := fun e => by
        have := hf.1
        unfold fitsB at this
        rw [if_pos e] at this
        simp [ho] at this
      have := enc1_ne hf.1 h0
      simp [this]
theorem enc_le {l : List FieldA} {r : List ValA} (he : errR l r = 0) (hI : InR r) : (encB l r).length ≤ 200 := by
  have h1 := errR_zero he
  have h2 := encTo_le h1.2.1 h1.2.2 hI r.length
  have h3 : encTo l r r.length = encB l r := by unfold encTo encB; rw [List.take_length]
  rw [h3] at h2
  have := (schemaB_len h1.1).2
  omega

set_option maxRecDepth 100000 in
set_option maxHeartbeats 8000000 in
theorem valueApart_walk (ns : List Int) (vs ws : List ValA) (a b c : Value) (w : World) (hT : Types w) (hP : Pow w) (hN : IntsAt w a ns) (hV : ValsAt w b vs) (hU : ValsAt w c ws) (hn : ns.length ≤ 140737488355328) (hv : vs.length ≤ 140737488355328) (hu : ws.length ≤ 140737488355328) (hI : InR vs) (hJ : InR ws) :
    Calls Tryd.prog 5 #[a, b, c] w fun e w' => e = .returned (.bool true) ∧ Keeps (fun _ => False) w w' := by
  obtain ⟨ao, ac, rfl⟩ := RowAt.form hN
  obtain ⟨bo, bc, rfl⟩ := RowAt.form hV
  obtain ⟨co, cc, rfl⟩ := RowAt.form hU
  have HQ := hide (Shaped_v ns _ w hN hn)
  have hs := schemaB_shaped ns
  obtain ⟨l, HL⟩ : ∃ l, Hid (shapedB ns = l) := ⟨_, rfl⟩
  rw [unhide HL] at HQ hs
  have hl8 := (schemaB_len hs).2
  have hl1 := (schemaB_len hs).1
  have HT0 := hide hT
  have HP0 := hide hP
  have HV0 := hide hV
  have HU0 := hide hU
  have HVL := hide hv
  have HUL := hide hu
  have hpl := FittedB_length l vs
  have hpe := FittedB_fits hs vs
  have hpi := FittedB_in (l := l) hI
  have hql := FittedB_length l ws
  have hqe := FittedB_fits hs ws
  have hqi := FittedB_in (l := l) hJ
  obtain ⟨p, HPE⟩ : ∃ p, Hid (FittedB l vs = p) := ⟨_, rfl⟩
  obtain ⟨q, HQE⟩ : ∃ q, Hid (FittedB l ws = q) := ⟨_, rfl⟩
  rw [unhide HPE] at hpl hpe hpi
  rw [unhide HQE] at hql hqe hqi
  have HPL := hide hpl
  have HPR := hide hpe
  have HPI := hide hpi
  have HQL := hide hql
  have HQR := hide hqe
  have HQI := hide hqi
  have HX1 := hide (fun h => printP_inj hpe hqe hpi hqi h)
  have HX2 := hide (fun (n : Nat) (hn : n = min (encB l p).length (encB l q).length) h => enc_apart hpe hqe hpi hqi hn h)
  have ha0 : 0 < (encB l p).length := List.length_pos_iff.2 (enc_ne hpe)
  have hb0 : 0 < (encB l q).length := List.length_pos_iff.2 (enc_ne hqe)
  have ha2 := enc_le hpe hpi
  have hb2' := enc_le hqe hqi
  have HEA := hide (encodeB_eq hpe)
  have HEB := hide (encodeB_eq hqe)
  clear hT hP hN hV hU hI hJ hs hn hv hu hpl hpe hpi hql hqe hqi
  go_enter Tryd.func5, Tryd.ntmps5
  go_wp2_with fail
  refine (unhide HQ).mono ?_
  rintro e w1 ⟨s, rfl, ho, hk1⟩
  obtain ⟨so, sc, rfl⟩ := (rowAt_own ho).form
  obtain ⟨HB, hbb, hbc⟩ := boxed w1 #[.slice so l.length sc] 27
  have hp2 := hbc 0 (.slice so l.length sc) rfl
  have HK2 := hide (hk1.trans (unhide HB))
  have HF2 := hide ((flds_own ho).keepF (unhide HB))
  have HT2 := hide ((unhide HT0).keepF (unhide HK2))
  have HP2 := hide ((unhide HP0).keepF (unhide HK2))
  have HV2 := hide ((unhide HV0).keepF (unhide HK2))
  have HU2 := hide ((unhide HU0).keepF (unhide HK2))
  have HQ2 := hide (Fitted_v l _ vs _ _ (unhide HF2) (unhide HV2) hl8 (unhide HVL))
  rw [unhide HPE] at HQ2
  clear hbc ho hk1 HB HQ HT0 HP0 HV0 HU0
  go_wp2_with fail
  generalize w1.alloc (.cells #[.slice so l.length sc] 27) = w2 at *
  generalize w1.heap.size = sb at *
  have hb2 := hbb
  clear hbb
  refine (unhide HQ2).mono ?_
  rintro e w3 ⟨v3, rfl, ho3, hk3⟩
  obtain ⟨po, pc, rfl⟩ := (rowAt_own ho3).form
  have HA3 : Hid (ValsAt w3 (.slice po l.length pc) p) := by
    show ValsAt _ _ _
    unfold ValsAt
    rw [unhide HPL]
    exact rowAt_own ho3
  have hp3 := (hk3.cell (o := 0) hb2 id).trans hp2
  have hb3 := Nat.lt_of_lt_of_le hb2 hk3.size
  have HK3 := hide ((unhide HK2).trans hk3)
  have HF3 := hide ((unhide HF2).keepF hk3)
  have HT3 := hide ((unhide HT2).keepF hk3)
  have HP3 := hide ((unhide HP2).keepF hk3)
  have HU3 := hide ((unhide HU2).keepF hk3)
  have HQ3 := hide (Fitted_v l _ ws _ _ (unhide HF3) (unhide HU3) hl8 (unhide HUL))
  rw [unhide HQE] at HQ3
  clear ho3 hk3 HQ2 HF2 HT2 HP2 HU2 HV2 HK2 hp2 hb2
  go_wp2_with fail
  refine (unhide HQ3).mono ?_
  rintro e w4 ⟨v4, rfl, ho4, hk4⟩
  obtain ⟨qo, qc, rfl⟩ := (rowAt_own ho4).form
  have HB4 : Hid (ValsAt w4 (.slice qo l.length qc) q) := by
    show ValsAt _ _ _
    unfold ValsAt
    rw [unhide HQL]
    exact rowAt_own ho4
  have hp4 := (hk4.cell (o := 0) hb3 id).trans hp3
  have hb4 := Nat.lt_of_lt_of_le hb3 hk4.size
  have HK4 := hide ((unhide HK3).trans hk4)
  have HF4 := hide ((unhide HF3).keepF hk4)
  have HT4 := hide ((unhide HT3).keepF hk4)
  have HP4 := hide ((unhide HP3).keepF hk4)
  have HA4 := hide ((unhide HA3).keepF hk4)
  have HQ4 := hide (law_encode l _ p _ _ (unhide HT4) (unhide HF4) (unhide HA4) (by omega) (by have := unhide HPL; omega) (unhide HPI))
  rw [unhide HPR, unhide HEA] at HQ4
  clear ho4 hk4 HQ3 HF3 HT3 HP3 HU3 HA3 HK3 hp3 hb3
  go_wp2_with fail
  refine (unhide HQ4).mono ?_
  rintro e w5 ⟨v5, rfl, ho5, hk5⟩
  have HC5 := hide (bytes_own ho5)
  obtain ⟨ea, eo, ec, rfl⟩ : ∃ b off cap, v5 = .slice (some ⟨b, off, none⟩) (encB l p).length cap := by
    rcases form_own ho5 with ⟨_, h⟩ | h
    · rw [h] at ha0; simp at ha0
    · exact h
  have room5 := RowAt.room (unhide HC5) _ _ _ rfl
  have hp5 := (hk5.cell (o := 0) hb4 id).trans hp4
  have hb5 := Nat.lt_of_lt_of_le hb4 hk5.size
  have HK5 := hide ((unhide HK4).trans hk5)
  have HF5 := hide ((unhide HF4).keepF hk5)
  have HT5 := hide ((unhide HT4).keepF hk5)
  have HP5 := hide ((unhide HP4).keepF hk5)
  have HA5 := hide ((unhide HA4).keepF hk5)
  have HB5 := hide ((unhide HB4).keepF hk5)
  have HQ5 := hide (law_encode l _ q _ _ (unhide HT5) (unhide HF5) (unhide HB5) (by omega) (by have := unhide HQL; omega) (unhide HQI))
  rw [unhide HQR, unhide HEB] at HQ5
  clear ho5 hk5 HQ4 HF4 HT4 HP4 HA4 HB4 HK4 hp4 hb4
  go_wp2_with fail
  refine (unhide HQ5).mono ?_
  rintro e w6 ⟨v6, rfl, ho6, hk6⟩
  have HD6 := hide (bytes_own ho6)
  obtain ⟨fa, fo, fc, rfl⟩ : ∃ b off cap, v6 = .slice (some ⟨b, off, none⟩) (encB l q).length cap := by
    rcases form_own ho6 with ⟨_, h⟩ | h
    · rw [h] at hb0; simp at hb0
    · exact h
  have room6 := RowAt.room (unhide HD6) _ _ _ rfl
  have hp6 := (hk6.cell (o := 0) hb5 id).trans hp5
  have hb6 := Nat.lt_of_lt_of_le hb5 hk6.size
  have HK6 := hide ((unhide HK5).trans hk6)
  have HF6 := hide ((unhide HF5).keepF hk6)
  have HT6 := hide ((unhide HT5).keepF hk6)
  have HP6 := hide ((unhide HP5).keepF hk6)
  have HA6 := hide ((unhide HA5).keepF hk6)
  have HB6 := hide ((unhide HB5).keepF hk6)
  have HC6 := hide ((unhide HC5).keepF hk6)
  have HQ6 := hide (law_print l _ p _ _ (unhide HT6) (unhide HP6) (unhide HF6) (unhide HA6) (by omega) (by have := unhide HPL; omega) (unhide HPI))
  rw [unhide HPR] at HQ6
  clear ho6 hk6 HQ5 HF5 HT5 HP5 HA5 HB5 HC5 HK5 hp5 hb5
  go_wp2_with fail
  refine (unhide HQ6).mono ?_
  rintro e w7 ⟨rfl, hk7⟩
  have hp7 := (hk7.cell (o := 0) hb6 id).trans hp6
  have hb7 := Nat.lt_of_lt_of_le hb6 hk7.size
  have HK7 := hide ((unhide HK6).trans hk7)
  have HF7 := hide ((unhide HF6).keepF hk7)
  have HT7 := hide ((unhide HT6).keepF hk7)
  have HP7 := hide ((unhide HP6).keepF hk7)
  have HA7 := hide ((unhide HA6).keepF hk7)
  have HB7 := hide ((unhide HB6).keepF hk7)
  have HC7 := hide ((unhide HC6).keepF hk7)
  have HD7 := hide ((unhide HD6).keepF hk7)
  have HQ7 := hide (law_print l _ q _ _ (unhide HT7) (unhide HP7) (unhide HF7) (unhide HB7) (by omega) (by have := unhide HQL; omega) (unhide HQI))
  rw [unhide HQR] at HQ7
  clear hk7 HQ6 HF6 HT6 HP6 HA6 HB6 HC6 HD6 HK6 hp6 hb6
  go_wp2_with fail
  refine (unhide HQ7).mono ?_
  rintro e w8 ⟨rfl, hk8⟩
  have hp8 := (hk8.cell (o := 0) hb7 id).trans hp7
  have hb8 := Nat.lt_of_lt_of_le hb7 hk8.size
  have HK8 := hide ((unhide HK7).trans hk8)
  have HA8 := hide ((unhide HA7).keepF hk8)
  have HB8 := hide ((unhide HB7).keepF hk8)
  have HC8 := hide ((unhide HC7).keepF hk8)
  have HD8 := hide ((unhide HD7).keepF hk8)
  clear hk8 HQ7 HF7 HT7 HP7 HA7 HB7 HC7 HD7 HK7 hp7 hb7 hp8 hb8
  have HCF := hide (fun (n : Nat) (hn : n ≤ (encB l p).length) => (first_bytes (unhide HC8) hn).keepF (Keeps.refl _ w8).drew)
  have HDF := hide (fun (n : Nat) (hn : n ≤ (encB l q).length) => (first_bytes (unhide HD8) hn).keepF (Keeps.refl _ w8).drew)
  obtain ⟨tp, HTP⟩ : ∃ t, Hid (printP l p = t) := ⟨_, rfl⟩
  obtain ⟨tq, HTQ⟩ : ∃ t, Hid (printP l q = t) := ⟨_, rfl⟩
  rw [unhide HTP, unhide HTQ]
  rw [unhide HTP, unhide HTQ] at HX1
  obtain ⟨ba, HBA⟩ : ∃ n, Hid (encB l p = n) := ⟨_, rfl⟩
  obtain ⟨bb, HBB⟩ : ∃ n, Hid (encB l q = n) := ⟨_, rfl⟩
  rw [unhide HBA] at ha0 ha2 room5 HX2 HCF
  rw [unhide HBB] at hb0 hb2' room6 HX2 HDF
  rw [unhide HBA, unhide HBB]
  clear HC8 HD8 HEA HEB
  have HVQ := hide (fun w9 (hk9 : Keeps (fun _ => False) w8 w9) => eqVals_any w9 _ _ p q ((unhide HA8).keepF hk9) ((unhide HB8).keepF hk9) (by have := unhide HPL; unfold maxLen; omega))
  by_cases hpq : p = q
  · rw [decide_eq_true hpq] at HVQ
    obtain rfl : tp = tq := by rw [← unhide HTP, ← unhide HTQ, hpq]
    obtain rfl : ba = bb := by rw [← unhide HBA, ← unhide HBB, hpq]
    have HE := hide (eqBytes_any w8.drew _ _ _ _ ((unhide HCF) ba.length (Nat.le_refl _)) ((unhide HDF) ba.length (Nat.le_refl _)) (by rw [List.length_take]; unfold maxLen; omega))
    rw [decide_eq_true rfl] at HE
    obtain ⟨na, HNA⟩ : ∃ n, Hid (n = ba.length) := ⟨_, rfl⟩
    rw [← unhide HNA] at ha0 ha2 room5 room6 HE ⊢
    have i1 : (na : Int) ≤ (ec : Int) := by omega
    have i2 : (na : Int) ≤ (fc : Int) := by omega
    have i3 : (0 : Int) ≤ (na : Int) := by omega
    clear hpq HX1 HX2 HCF HDF hb0 hb2'
    go_wp2_with fail
    go_region_held3 (fun _ => True)
      (exact trivial)
      (first
        | (go_at_call 9
           refine (unhide HE).mono ?_
           rintro e w9 ⟨rfl, nq, rfl⟩))
    have hk9 := keeps_drewN w8 (1 + nq)
    have HK9 := hide ((unhide HK8).trans hk9)
    have HV9 := hide ((unhide HVQ) _ hk9)
    clear hk9 HVQ HE
    go_wp2_with fail
    generalize w8.drewN (1 + nq) = w9 at *
    refine (unhide HV9).mono ?_
    rintro e w10 ⟨rfl, hk10⟩
    have HK10 := hide ((unhide HK9).trans hk10)
    clear hk10
    go_wp2_with fail
    go_ret
    exact ⟨rfl, unhide HK10⟩
  · rw [decide_eq_false hpq] at HVQ
    have htt : tp ≠ tq := fun h => hpq ((unhide HX1) h)
    by_cases hcmp : bb.length < ba.length
    · have HE := hide (eqBytes_any w8.drew _ _ _ _ ((unhide HCF) bb.length (by omega)) ((unhide HDF) bb.length (Nat.le_refl _)) (by rw [List.length_take]; unfold maxLen; omega))
      rw [decide_eq_false (fun h => hpq ((unhide HX2) bb.length (by omega) h))] at HE
      obtain ⟨na, HNA⟩ : ∃ n, Hid (n = ba.length) := ⟨_, rfl⟩
      obtain ⟨nb, HNB⟩ : ∃ n, Hid (n = bb.length) := ⟨_, rfl⟩
      rw [← unhide HNA] at ha0 ha2 room5 hcmp
      rw [← unhide HNB] at hb0 hb2' room6 hcmp
      rw [← unhide HNB] at HE
      rw [← unhide HNA, ← unhide HNB]
      have i1 : (nb : Int) ≤ (ec : Int) := by omega
      have i2 : (nb : Int) ≤ (fc : Int) := by omega
      have i3 : (0 : Int) ≤ (nb : Int) := by omega
      clear HX1 HX2 HCF HDF hpq
      go_wp2_with fail
      go_region_held3 (fun _ => True)
        (exact trivial)
        (first
          | (go_at_call 9
             refine (unhide HE).mono ?_
             rintro e w9 ⟨rfl, nq, rfl⟩))
      have hk9 := keeps_drewN w8 (1 + nq)
      have HK9 := hide ((unhide HK8).trans hk9)
      have HV9 := hide ((unhide HVQ) _ hk9)
      clear hk9 HVQ HE
      go_wp2_with fail
      generalize w8.drewN (1 + nq) = w9 at *
      refine (unhide HV9).mono ?_
      rintro e w10 ⟨rfl, hk10⟩
      have HK10 := hide ((unhide HK9).trans hk10)
      clear hk10
      go_wp2_with fail
      go_ret
      exact ⟨ret_bool (by simpa using htt), unhide HK10⟩
    · have HE := hide (eqBytes_any w8.drew _ _ _ _ ((unhide HCF) ba.length (Nat.le_refl _)) ((unhide HDF) ba.length (by omega)) (by rw [List.length_take]; unfold maxLen; omega))
      rw [decide_eq_false (fun h => hpq ((unhide HX2) ba.length (by omega) h))] at HE
      obtain ⟨na, HNA⟩ : ∃ n, Hid (n = ba.length) := ⟨_, rfl⟩
      obtain ⟨nb, HNB⟩ : ∃ n, Hid (n = bb.length) := ⟨_, rfl⟩
      rw [← unhide HNA] at ha0 ha2 room5 hcmp
      rw [← unhide HNB] at hb0 hb2' room6 hcmp
      rw [← unhide HNA] at HE
      rw [← unhide HNA, ← unhide HNB]
      have i1 : (na : Int) ≤ (ec : Int) := by omega
      have i2 : (na : Int) ≤ (fc : Int) := by omega
      have i3 : (0 : Int) ≤ (na : Int) := by omega
      clear HX1 HX2 HCF HDF hpq
      go_wp2_with fail
      go_region_held3 (fun _ => True)
        (exact trivial)
        (first
          | (go_at_call 9
             refine (unhide HE).mono ?_
             rintro e w9 ⟨rfl, nq, rfl⟩))
      have hk9 := keeps_drewN w8 (1 + nq)
      have HK9 := hide ((unhide HK8).trans hk9)
      have HV9 := hide ((unhide HVQ) _ hk9)
      clear hk9 HVQ HE
      go_wp2_with fail
      generalize w8.drewN (1 + nq) = w9 at *
      refine (unhide HV9).mono ?_
      rintro e w10 ⟨rfl, hk10⟩
      have HK10 := hide ((unhide HK9).trans hk10)
      clear hk10
      go_wp2_with fail
      go_ret
      exact ⟨ret_bool (by simpa using htt), unhide HK10⟩
end Go.Proofs.YtabjomgikljdhaaDoor
