import Derived.Test.YtabjomgikljdhaaDoorNv
namespace Go.Proofs.YtabjomgikljdhaaDoor
open Go.RowKit Go.Maps

theorem decodeV_ok {l : List FieldA} {t : Txt} (hs : schemaB l = true) : (∃ r, decodeV l t = (r, 0) ∧ errR l r = 0 ∧ InR r ∧ encodeB l r = t) ∨ decodeV l t = ([], 62) := by
  unfold decodeV
  rw [hs, if_neg (by simp)]
  cases h : decodeP l t with
  | none => right; rfl
  | some r =>
    left
    obtain ⟨h1, h2, h3⟩ := decodeP_sound hs h
    exact ⟨r, rfl, h1, h2, by unfold encodeB; rw [if_pos h1, h3]⟩
theorem decodeV_none {l : List FieldA} {t : Txt} (hs : schemaB l = true) (h : decodeP l t = none) : decodeV l t = ([], 62) := by
  unfold decodeV
  rw [hs, if_neg (by simp), h]
theorem encodeB_eq {l : List FieldA} {r : List ValA} (h : errR l r = 0) : encodeB l r = encB l r := by unfold encodeB; rw [if_pos h]

theorem FldsAt.keepB {w w' : World} {v : Value} {l : List FieldA} (h : FldsAt w v l) (h0 : 0 < l.length) (hk : Keeps (fun q => w.heap.size ≤ q) w w') : FldsAt w' v l :=
  RowAt.kept h hk (fun k e => by
    obtain ⟨b, off, cap, hv, hb, _⟩ := RowAt.cells h h0
    rw [hv] at e
    simp only [Value.ownBlock, Option.some.injEq] at e
    omega)

set_option maxRecDepth 100000 in
set_option maxHeartbeats 8000000 in
theorem valueOnly_walk (ns : List Int) (vs : List ValA) (raw : Txt) (a b c : Value) (w : World) (hT : Types w) (hN : IntsAt w a ns) (hV : ValsAt w b vs) (hR : BytesAt w c raw) (hn : ns.length ≤ 140737488355328) (hv : vs.length ≤ 140737488355328) (hr : raw.length ≤ 140737488355328) (hI : InR vs) :
    Calls Tryd.prog 3 #[a, b, c] w fun e w' => e = .returned (.bool true) ∧ Keeps (fun _ => False) w w' := by
  obtain ⟨i0, hi, hz0, hz1, hz2⟩ := info_parts Tryd.info5
  obtain ⟨ao, ac, rfl⟩ := RowAt.form hN
  obtain ⟨bo, bc, rfl⟩ := RowAt.form hV
  obtain ⟨co, cc, rfl⟩ := RowAt.form hR
  have HQ := hide (Shaped_v ns _ w hN hn)
  have hs := schemaB_shaped ns
  have HT := hide hT
  have HV := hide hV
  have HR := hide hR
  have HI := hide hI
  have HN0 := hide hn
  have HR0 := hide hr
  have HV0 := hide hv
  have hr' : (raw.length : Int) ≤ 140737488355328 := by omega
  obtain ⟨l, HL⟩ : ∃ l, Hid (shapedB ns = l) := ⟨_, rfl⟩
  rw [unhide HL] at HQ hs
  have hl8 := (schemaB_len hs).2
  have hl1 := (schemaB_len hs).1
  have HS := hide hs
  clear hT hN hV hR hI hs hn hr hv
  go_enter Tryd.func3, Tryd.ntmps3
  go_wp2_with fail
  refine (unhide HQ).mono ?_
  rintro e w1 ⟨s, rfl, ho, hk1⟩
  obtain ⟨so, sc, rfl⟩ := (rowAt_own ho).form
  obtain ⟨HB, hb, hbc⟩ := boxed w1 #[.slice so l.length sc] 27
  have hp := hbc 0 (.slice so l.length sc) rfl
  have HK := hide (hk1.trans (unhide HB))
  have HF := hide ((flds_own ho).keepF (unhide HB))
  have HT2 := hide ((unhide HT).keepF (unhide HK))
  have HV2 := hide ((unhide HV).keepF (unhide HK))
  have HR2 := hide ((unhide HR).keepF (unhide HK))
  have HQ1 := hide (law_decode l _ raw _ _ (unhide HT2) (unhide HF) (unhide HR2) (by omega) (unhide HR0))
  clear hbc ho hk1 HB HQ HT HV HR
  go_wp2_with fail
  generalize w1.alloc (.cells #[.slice so l.length sc] 27) = w2 at *
  generalize w1.heap.size = sb at *
  refine (unhide HQ1).mono ?_
  rintro e w3 ⟨q, rfl, ho3, hk3⟩
  have hp3 := (hk3.cell (o := 0) hb id).trans hp
  have hb3 := Nat.lt_of_lt_of_le hb hk3.size
  have HK3 := hide ((unhide HK).trans hk3)
  have HF3 := hide ((unhide HF).keepF hk3)
  have HT3 := hide ((unhide HT2).keepF hk3)
  have HV3 := hide ((unhide HV2).keepF hk3)
  have HR3 := hide ((unhide HR2).keepF hk3)
  clear hk3 HQ1 HK HF HT2 HV2 HR2 hp hb
  rcases decodeV_ok (t := raw) (unhide HS) with ⟨r0, hd0, he0, hI0, hb0⟩ | hd0
  case' inl =>
    rw [hd0] at ho3
    rw [hd0]
    obtain ⟨qo, qc, rfl⟩ := (rowAt_own ho3).form
    have HQ2 := hide (law_encode l _ r0 _ _ (unhide HT3) (unhide HF3) (vals_own ho3) (by omega) (by have := (errR_zero he0).2.1; omega) hI0)
    rw [he0, hb0] at HQ2
    clear hd0 he0 hI0 hb0 ho3
    go_wp2_with fail
    refine (unhide HQ2).mono ?_
    rintro e w4 ⟨c4, rfl, ho4, hk4⟩
    have HQ3 := hide (eqBytes_any w4 _ _ raw raw (bytes_own ho4) ((unhide HR3).keepF hk4) (by have := unhide HR0; unfold maxLen; omega))
    rw [decide_eq_true rfl] at HQ3
    have hp4 := (hk4.cell (o := 0) hb3 id).trans hp3
    have hb4 := Nat.lt_of_lt_of_le hb3 hk4.size
    have HK4 := hide ((unhide HK3).trans hk4)
    have HF4 := hide ((unhide HF3).keepF hk4)
    have HT4 := hide ((unhide HT3).keepF hk4)
    have HV4 := hide ((unhide HV3).keepF hk4)
    have HR4 := hide ((unhide HR3).keepF hk4)
    clear hk4 ho4 HQ2 HK3 HF3 HT3 HV3 HR3 hp3 hb3
    go_wp2_with fail
    refine (unhide HQ3).mono ?_
    rintro e w5 ⟨rfl, nq, rfl⟩
    have hk5 := keeps_drewN w4 nq
    have hp5 := (hk5.cell (o := 0) hb4 id).trans hp4
    have hb5 := Nat.lt_of_lt_of_le hb4 hk5.size
    have HK5 := hide ((unhide HK4).trans hk5)
    have HF5 := hide ((unhide HF4).keepF hk5)
    have HT5 := hide ((unhide HT4).keepF hk5)
    have HV5 := hide ((unhide HV4).keepF hk5)
    have HR5 := hide ((unhide HR4).keepF hk5)
    clear hk5 HQ3 HK4 HF4 HT4 HV4 HR4 hp4 hb4
    generalize w4.drewN nq = w5 at *
  case' inr =>
    rw [hd0]
    obtain ⟨qo, qc, rfl⟩ : ∃ qo qc, q = .slice qo 0 qc := by
      rw [hd0] at ho3
      exact (rowAt_own ho3).form
    have hp5 := hp3
    have hb5 := hb3
    have HK5 := hide (unhide HK3)
    have HF5 := hide (unhide HF3)
    have HT5 := hide (unhide HT3)
    have HV5 := hide (unhide HV3)
    have HR5 := hide (unhide HR3)
    clear hd0 ho3 HK3 HF3 HT3 HV3 HR3 hp3 hb3
  all_goals
    have HQ5 := hide (Fitted_v l _ vs _ _ (unhide HF5) (unhide HV5) hl8 (unhide HV0))
    have hrl := FittedB_length l vs
    have hre := FittedB_fits (unhide HS) vs
    have hri := FittedB_in (l := l) (unhide HI)
    generalize FittedB l vs = r at *
    have HRL := hide hrl
    have HRE := hide hre
    have HRI := hide hri
    clear hrl hre hri
    go_wp2_with fail
    refine (unhide HQ5).mono ?_
    rintro e w6 ⟨v6, rfl, ho6, hk6⟩
    obtain ⟨ro, rc, rfl⟩ := (rowAt_own ho6).form
    have ho6r : ValsAt w6 (.slice ro l.length rc) r := by
      unfold ValsAt
      rw [unhide HRL]
      exact rowAt_own ho6
    have HQ6 := hide (law_encode l _ r _ _ ((unhide HT5).keepF hk6) ((unhide HF5).keepF hk6) ho6r (by omega) (by have := unhide HRL; omega) (unhide HRI))
    rw [unhide HRE] at HQ6
    have HLE : Hid (∀ n, n < (encodeB l r).length → decodeV l ((encodeB l r).take n) = ([], 62)) := fun n hn => by
      rw [encodeB_eq (unhide HRE)] at hn ⊢
      exact decodeV_none (unhide HS) (decodeP_less (unhide HS) (unhide HRE) (unhide HRI) hn)
    have HMR : Hid (∀ x, decodeV l (encodeB l r ++ [x]) = ([], 62)) := fun x => by
      rw [encodeB_eq (unhide HRE)]
      exact decodeV_none (unhide HS) (decodeP_more (unhide HS) (unhide HRE) (unhide HRI) x)
    have HBL : Hid ((encodeB l r).length ≤ 200) := by
      rw [encodeB_eq (unhide HRE)]
      have h1 := errR_zero (unhide HRE)
      have h2 := encTo_le h1.2.1 h1.2.2 (unhide HRI) r.length
      have h3 : encTo l r r.length = encB l r := by unfold encTo encB; rw [List.take_length]
      rw [h3] at h2
      have := unhide HRL
      show _ ≤ _
      omega
    generalize encodeB l r = B at *
    have hp6 := (hk6.cell (o := 0) hb5 id).trans hp5
    have hb6 := Nat.lt_of_lt_of_le hb5 hk6.size
    have HK6 := hide ((unhide HK5).trans hk6)
    have HF6 := hide ((unhide HF5).keepF hk6)
    have HT6 := hide ((unhide HT5).keepF hk6)
    have HR6 := hide ((unhide HR5).keepF hk6)
    clear hk6 ho6 ho6r HQ5 HK5 HF5 HT5 HR5 HV5 hp5 hb5
    go_wp2_with fail
    refine (unhide HQ6).mono ?_
    rintro e w7 ⟨b7, rfl, ho7, hk7⟩
    have HFM := hide (form_own ho7)
    have HBT := hide (bytes_own ho7)
    obtain ⟨b7o, b7c, rfl⟩ := (rowAt_own ho7).form
    have hroom7 := RowAt.room (unhide HBT) _ _ _ rfl
    have hp7 := (hk7.cell (o := 0) hb6 id).trans hp6
    have hb7 := Nat.lt_of_lt_of_le hb6 hk7.size
    have HK7 := hide ((unhide HK6).trans hk7)
    have HF7 := hide ((unhide HF6).keepF hk7)
    have HT7 := hide ((unhide HT6).keepF hk7)
    have HR7 := hide ((unhide HR6).keepF hk7)
    have hBl := unhide HBL
    have hBi : (B.length : Int) ≤ 200 := by omega
    clear hk7 ho7 HQ6 HK6 HF6 HT6 HR6 hp6 hb6 hBl
    go_wp2_with fail
    go_loopw [15] (fun i wr => ∃ k : Nat, k ≤ B.length ∧ i = .int .i64 k ∧ Keeps (fun _ => False) w7 wr) (fun i _ => B.length - (intOf i).toNat)
    case atStart => exact ⟨0, Nat.zero_le _, rfl, Keeps.refl _ _⟩
    case round =>
      obtain ⟨k, hk, rfl, hkp⟩ := hrel
      have HKr := hide hkp
      by_cases hlt : k < B.length
      · obtain ⟨gb, goff, gc, hgf⟩ : ∃ b off cap, (Value.slice b7o B.length b7c) = .slice (some ⟨b, off, none⟩) B.length cap := by
          rcases unhide HFM with ⟨_, rfl⟩ | h
          · simp at hlt
          · exact h
        simp only [Value.slice.injEq] at hgf
        obtain ⟨rfl, _, rfl⟩ := hgf
        have hp8 := (hkp.cell (o := 0) hb7 id).trans hp7
        have HD8 := hide (law_decode l _ (B.take k) _ wr.drew ((unhide HT7).keepF hkp.drew) ((unhide HF7).keepF hkp.drew) ((first_bytes (unhide HBT) hk).keepF hkp.drew) (by omega) (by rw [List.length_take]; have := unhide HBL; omega))
        rw [unhide HLE k hlt] at HD8
        have i1 : (k : Int) < (B.length : Int) := by omega
        have i2 : (k : Int) ≤ (b7c : Int) := by omega
        have i3 : (0 : Int) ≤ (k : Int) := by omega
        have z8 : sb < wr.drew.heap.size := Nat.lt_of_lt_of_le hb7 hkp.size
        clear hkp
        go_wp2_with fail
        go_region_held3 (fun w' => w'.cell? ⟨sb, 0, none⟩ = some (.slice so l.length sc))
          (go_keep)
          (first
            | (go_at_call 7
               refine (unhide HD8).mono ?_
               rintro e w8 ⟨q8, rfl, _, hk8⟩
               have q0 := (hk8.cell (o := 0) z8 id).trans hp8
               have HK8 := hide (((unhide HKr).drewN 1).trans hk8)
               clear hk8))
        go_wp2_with fail
        go_roundw
        case rel => exact ⟨k + 1, by omega, by go_num, unhide HK8⟩
        case measure => simp [intOf]; omega
      · obtain rfl : k = B.length := by omega
        cases hx8 : raw[0]? with
        | none =>
          have hr0 : (raw.length : Int) ≤ 0 := by have := get_ge hx8; omega
          clear hx8
          have hk8 : Keeps (fun _ => False) w7 wr := unhide HKr
          have HKX := hide ((unhide HK7).trans hk8)
          have hp8 := (hk8.cell (o := 0) hb7 id).trans hp7
          have hb8 := Nat.lt_of_lt_of_le hb7 hk8.size
          have HF8 := hide ((unhide HF7).keepF hk8)
          have HT8 := hide ((unhide HT7).keepF hk8)
          have HR8 := hide ((unhide HR7).keepF hk8)
          have HBT8 := hide ((unhide HBT).keepF hk8)
          have HQ8 := hide (copyBytes_any _ _ B (unhide HBT8) (by have := unhide HBL; omega))
          clear hk8 HK7 HF7 HT7 HR7 HKr hkp hlt
          go_wp2_with fail
          refine (unhide HQ8).mono ?_
          rintro e w9 ⟨v9, rfl, ho9, hk9⟩
          have HO9 := hide ho9
          have HK9 := hide hk9
          have s9 := hk9.size
          clear ho9 hk9 HQ8
          go_wp2_with (at_builtin; refine wpList_append_lies _ rfl _ _ _ rfl wr.heap.size 5 i0 _ 1 1 Tryd.underlying24 hi hz0 hz1 hz2 rfl (by omega) v9 B.length (bs B) rfl ((unhide HO9).alloc _) ⟨w9.heap.size, 0, none⟩ 1 1 [.int .u8 0] rfl rfl (World.news_of_block (cs := #[.int .u8 0]) (t := 5) (fr := (0, 0)) (heap_alloc_new w9 _)) (by simp [Value.oneCell']) (by omega) (by have := unhide HBL; unfold maxLen; omega) (by have := unhide HBL; omega) (by simp; omega) (w9.heap.size + 1) (by simp) ?_; intro g9 cap9 w10 hown10 hgrow10 hat10 hlt10; have HKA : Hid (Keeps (fun q => wr.heap.size ≤ q) wr w10) := ((unhide HK9).any).trans (((Keeps.refl _ w9).alloc _).grown hgrow10 (fun q e _ => ((unhide HO9).lt q e).1)); have hp10 := ((unhide HKA).cell (o := 0) hb8 (by omega)).trans hp8; have HO10 := hide hown10; clear hown10 hgrow10 hat10)
          have HA10 := hide ((unhide HF8).keepB (by omega) (unhide HKA))
          have HT10 := hide ((unhide HT8).keep (unhide HKA) (by have := (unhide HT8).lt; omega))
          have HB10 : Hid (BytesAt w10 (.slice (some ⟨g9, 0, none⟩) (B.length + 1) cap9) (B ++ [0])) := by
            have := rowAt_own (unhide HO10)
            show BytesAt _ _ _
            unfold BytesAt
            rw [bs_append, List.length_append]
            simpa [bs, num] using this
          have HK10 := hide ((unhide HKX).narrowS (unhide HKA) (fun i hi => by have := (unhide HKX).size; omega))
          have HQ9 := hide (law_decode l _ (B ++ [0]) _ _ (unhide HT10) (unhide HA10) (unhide HB10) (by omega) (by rw [List.length_append]; have := unhide HBL; simp; omega))
          rw [unhide HMR 0] at HQ9
          go_wp2_with fail
          refine (unhide HQ9).mono ?_
          rintro e w11 ⟨q11, rfl, _, hk11⟩
          have HK11 := hide ((unhide HK10).trans hk11)
          clear hk11 HQ9
          go_wp2_with fail
          go_ret
          exact ⟨rfl, unhide HK11⟩
        | some x8 =>
          have hr1 : (0 : Int) < (raw.length : Int) := by have := get_lt hx8; omega
          have hr2 : 0 < raw.length := by omega
          have hk8 : Keeps (fun _ => False) w7 wr := unhide HKr
          have HKX := hide ((unhide HK7).trans hk8)
          have hp8 := (hk8.cell (o := 0) hb7 id).trans hp7
          have hb8 := Nat.lt_of_lt_of_le hb7 hk8.size
          have HF8 := hide ((unhide HF7).keepF hk8)
          have HT8 := hide ((unhide HT7).keepF hk8)
          have HR8 := hide ((unhide HR7).keepF hk8)
          have HBT8 := hide ((unhide HBT).keepF hk8)
          have HQ8 := hide (copyBytes_any _ _ B (unhide HBT8) (by have := unhide HBL; omega))
          clear hk8 HK7 HF7 HT7 HR7 HKr hkp hlt
          obtain ⟨rb, roff, rcc, e1, hblt, hcc⟩ := RowAt.cells (unhide HR8) (by omega)
          simp only [Value.slice.injEq] at e1
          obtain ⟨rfl, _, rfl⟩ := e1
          have hc0 : wr.cell? ⟨rb, roff, none⟩ = some (.int .u8 (num x8)) := by
            have := hcc 0 (.int .u8 (num x8)) (by rw [bs_get, hx8]; rfl)
            rw [Nat.add_zero] at this
            exact this
          clear hcc
          go_wp2_with fail
          refine (unhide HQ8).mono ?_
          rintro e w9 ⟨v9, rfl, ho9, hk9⟩
          have HO9 := hide ho9
          have HK9 := hide hk9
          have s9 := hk9.size
          clear ho9 hk9 HQ8
          go_wp2_with (at_builtin; refine wpList_append_lies _ rfl _ _ _ rfl wr.heap.size 5 i0 _ 1 1 Tryd.underlying24 hi hz0 hz1 hz2 rfl (by omega) v9 B.length (bs B) rfl ((unhide HO9).alloc _) ⟨w9.heap.size, 0, none⟩ 1 1 [.int .u8 (num x8)] rfl rfl (World.news_of_block (cs := #[.int .u8 (num x8)]) (t := 5) (fr := (0, 0)) (heap_alloc_new w9 _)) (by simp [Value.oneCell']) (by omega) (by have := unhide HBL; unfold maxLen; omega) (by have := unhide HBL; omega) (by simp; omega) (w9.heap.size + 1) (by simp) ?_; intro g9 cap9 w10 hown10 hgrow10 hat10 hlt10; have HKA : Hid (Keeps (fun q => wr.heap.size ≤ q) wr w10) := ((unhide HK9).any).trans (((Keeps.refl _ w9).alloc _).grown hgrow10 (fun q e _ => ((unhide HO9).lt q e).1)); have hp10 := ((unhide HKA).cell (o := 0) hb8 (by omega)).trans hp8; have HO10 := hide hown10; clear hown10 hgrow10 hat10)
          have HA10 := hide ((unhide HF8).keepB (by omega) (unhide HKA))
          have HT10 := hide ((unhide HT8).keep (unhide HKA) (by have := (unhide HT8).lt; omega))
          have HB10 : Hid (BytesAt w10 (.slice (some ⟨g9, 0, none⟩) (B.length + 1) cap9) (B ++ [x8])) := by
            have := rowAt_own (unhide HO10)
            show BytesAt _ _ _
            unfold BytesAt
            rw [bs_append, List.length_append]
            simpa [bs, num] using this
          have HK10 := hide ((unhide HKX).narrowS (unhide HKA) (fun i hi => by have := (unhide HKX).size; omega))
          have HQ9 := hide (law_decode l _ (B ++ [x8]) _ _ (unhide HT10) (unhide HA10) (unhide HB10) (by omega) (by rw [List.length_append]; have := unhide HBL; simp; omega))
          rw [unhide HMR x8] at HQ9
          go_wp2_with fail
          refine (unhide HQ9).mono ?_
          rintro e w11 ⟨q11, rfl, _, hk11⟩
          have HK11 := hide ((unhide HK10).trans hk11)
          clear hk11 HQ9
          go_wp2_with fail
          go_ret
          exact ⟨rfl, unhide HK11⟩

end Go.Proofs.YtabjomgikljdhaaDoor
