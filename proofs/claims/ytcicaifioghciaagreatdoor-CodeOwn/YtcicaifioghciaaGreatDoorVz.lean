import Derived.Test.YtcicaifioghciaaGreatDoorVy
namespace Go.Proofs.YtcicaifioghciaaGreatDoor
open Go.RowKit Go.Maps
set_option maxRecDepth 100000 in
set_option maxHeartbeats 8000000 in
theorem stacks_v (S : List FieldA) (so : Option Addr) (sc : Nat) (l : List ValA) (v : Value) (w : World) (hS : FldsAt w (.slice so S.length sc) S) (h : ValsAt w v l) (hl : l.length ≤ 96) (hK : ∀ f ∈ S, isK f.type) (hF : ∀ i ∈ l, formB i = 0 ∧ rightF S i = true) :
    Calls Tryz.prog 26 #[.agg #[.slice so S.length sc], v] w fun e w' => ∃ vb vs bad, e = .returned (.tuple #[vb, vs, .int .i64 bad]) ∧ Stacked w' vb vs bad (pullA S l 0 l []) ∧ Keeps (fun _ => False) w w' := by
  obtain ⟨ao, cap, rfl⟩ := RowAt.form h
  obtain ⟨j4, hj4, hz40, hz41, hz42⟩ := info_parts Tryz.info4
  obtain ⟨j9, hj9, hz90, hz91, hz92⟩ := info_parts Tryz.info9s
  obtain ⟨HB, hbb, hbc⟩ := boxed w #[.slice so S.length sc] 24
  have s0 := hbc 0 (.slice so S.length sc) rfl
  have HS := hide (hS.keepF (unhide HB))
  have HV := hide (h.keepF (unhide HB))
  generalize hR : pullA S l 0 l [] = R at *
  have HR0 : Hid (R = pullA S l 0 (l.drop 0) []) := hR.symm
  have HF := hide hF
  have HKI := hide hK
  generalize hWb : w.alloc (.cells #[.slice so S.length sc] 24) = Wb at *
  have HST := hide (rows_start Wb)
  have HK0 := hide (((Keeps.refl (fun _ => False) Wb).alloc (.cells #[.bool true] 4)).alloc (.cells #[.string ⟨#[]⟩] 9))
  clear hbc h hS hR hF hK
  go_enter Tryz.func26, Tryz.ntmps26
  go_wp2_with fail
  clear hWb
  go_loopw [7, 8, 9] (fun vr vh i wr => ∃ (p : Nat) (hv : List (Bool × List Int)), p ≤ l.length + 1 ∧ i = .int .i64 p ∧ hv.length = p ∧ Hid (if p ≤ l.length then R = pullA S l p (l.drop p) hv else R = (some hv, 0, 0)) ∧ RowsAt Wb.heap.size wr vr vh (rowsP hv).length (rowsP hv) ∧ Hid (p ≤ l.length → GoodH S l hv) ∧ Keeps (fun _ => False) Wb wr) (fun _ _ i _ => l.length + 1 - (intOf i).toNat)
  case atStart => exact ⟨0, [], Nat.zero_le _, rfl, rfl, by simpa [Hid] using (unhide HR0), unhide HST, fun _ => good_nil S l, unhide HK0⟩
  case round =>
    obtain ⟨p, hv, hp, rfl, hlen, HS0, hrow, HG0, hkp⟩ := hrel
    have HRW0 := hide hrow
    have HKP0 := hide hkp
    clear hrow hkp
    by_cases hple : p ≤ l.length
    · have HS1 : Hid (R = pullA S l p (l.drop p) hv) := by have := unhide HS0; rwa [if_pos hple] at this
      have HG := hide ((unhide HG0) hple)
      clear HS0 HG0
      have ile : (p : Int) ≤ (l.length : Int) := by omega
      obtain ⟨N, hN⟩ : ∃ N, p + 1 = N := ⟨_, rfl⟩
      have iN : (p : Int) < (N : Int) := by omega
      have ip0' : (0 : Int) ≤ (p : Int) := by omega
      by_cases hp0 : p = 0
      · have hpn : ¬ (0 : Int) < (p : Int) := by omega
        have HRW : Hid (RowsAt Wb.heap.size wr u7 u8 N (hv ++ [(decide (p = 0), [])])) := by
          have e0 : hv = [] := List.eq_nil_of_length_eq_zero (by omega)
          have := unhide HRW0
          rw [e0, rowsP] at this
          rw [e0, decide_eq_true hp0, show N = 1 by omega]
          exact this
        have HKP := HKP0
        clear HRW0 HKP0 hp0
        obtain ⟨g1, c1, g2, c2, rfl, rfl⟩ := (unhide HRW).form (by omega)
        go_wp2_with fail
        obtain ⟨hgl1, hgl2, hgne⟩ := (unhide HRW).lt
        go_loopw [10] (fun i wr => ∃ (k : Nat) (rz : Bool) (sz : List Int), k ≤ p ∧ i = .int .i64 k ∧ Hid (pullB S l hv p k = some (rz, sz)) ∧ RowsAt Wb.heap.size wr (.slice (some ⟨g1, 0, none⟩) N c1) (.slice (some ⟨g2, 0, none⟩) N c2) N (hv ++ [(rz, sz)]) ∧ Hid (sz.length ≤ 16 ∧ ∀ k ∈ sz, isK k) ∧ Keeps (fun _ => False) Wb wr) (fun i _ => p - (intOf i).toNat)
        case atStart => exact ⟨0, decide (p = 0), [], Nat.zero_le _, rfl, rfl, unhide HRW, ⟨by simp, by simp⟩, unhide HKP⟩
        case round =>
          obtain ⟨k, rz, sz, hk, rfl, HP, hrow, HZ, hkp⟩ := hrel
          have hzp : (hv ++ [(rz, sz)])[p]? = some (rz, sz) := by rw [List.getElem?_append_right (by omega), hlen, Nat.sub_self]; rfl
          obtain ⟨e1, e2⟩ := hrow.cell hzp
          obtain ⟨fz1, fz2⟩ := hrow.frozen p
          obtain ⟨⟨hb1, hg1l⟩, ⟨hb2, hg2l⟩, _⟩ := hrow.lt
          simp only at e1 e2
          have HRR := hide hrow
          have HKK := hide hkp
          have sb := (hkp.cell (o := 0) hbb id).trans s0
          have hbr : w.heap.size < wr.heap.size := Nat.lt_of_lt_of_le hbb hkp.size
          by_cases hlt : k < p
          · exfalso; omega
          · have HPP : Hid (pullB S l hv p p = some (rz, sz)) := by have := unhide HP; rwa [show k = p by omega] at this
            have inlt : ¬ (k : Int) < (p : Int) := by omega
            have HNH := hide (show (hv ++ [(rz, sz)]) ≠ [] by simp)
            have hln : (hv ++ [(rz, sz)]).length = p + 1 := by simp [hlen]
            clear HP hrow hkp hzp hlt
            cases rz with
            | false =>
              have HGN := hide ((unhide HG).snoc (z := (false, sz)) (unhide HZ) (fun st q => by cases q))
              have HE : Hid (if p + 1 ≤ l.length then R = pullA S l (p + 1) (l.drop (p + 1)) (hv ++ [(false, sz)]) else R = (some (hv ++ [(false, sz)]), 0, 0)) := by
                by_cases hpl : p + 1 ≤ l.length
                · show ite _ _ _
                  rw [if_pos hpl, unhide HS1, pullA_at (List.getElem?_eq_getElem (show p < l.length by omega)), unhide HPP]
                  simp
                · show ite _ _ _
                  rw [if_neg hpl, unhide HS1, show p = l.length by omega, List.drop_length, pullA_nil]
                  have := unhide HPP
                  rw [show p = l.length by omega] at this
                  rw [this]
                  simp
              go_wp2_with fail
              go_roundw
              case rel => exact ⟨p + 1, hv ++ [(false, sz)], by omega, by go_num, hln, HE, by rw [rowsP_of (unhide HNH), hln, hN]; exact unhide HRR, fun _ => unhide HGN, unhide HKK⟩
              case measure => simp [intOf]; omega
            | true =>
              by_cases hend : p = l.length
              · have ieq : ((p : Int) == (l.length : Int)) = true := by simp; omega
                have inl : ¬ (p : Int) < (l.length : Int) := by omega
                have HD : Hid (R = if (true = true ∧ sz ≠ []) then (none, p, 112) else (some (hv ++ [(true, sz)]), 0, 0)) := by
                  show _ = _
                  have hq := unhide HPP
                  rw [unhide HS1, show l.drop p = [] by rw [hend, List.drop_length], pullA_nil, hq]
                by_cases hsz : sz = []
                · have HE : Hid (R = (some (hv ++ [(true, sz)]), 0, 0)) := by show _ = _; rw [unhide HD, if_neg (fun q => q.2 hsz)]
                  have hqe : sz.map letR = [] := by rw [hsz]; rfl
                  rw [hqe] at e2
                  clear hsz HD hqe hend
                  go_wp2_with fail
                  go_roundw
                  case rel => exact ⟨p + 1, hv ++ [(true, sz)], by omega, by go_num, hln, by show ite _ _ _; rw [if_neg (by omega)]; exact unhide HE, by rw [rowsP_of (unhide HNH), hln, hN]; exact unhide HRR, fun q => absurd q (by omega), unhide HKK⟩
                  case measure => simp [intOf]; omega
                · have HE : Hid (R = (none, p, 112)) := by show _ = _; rw [unhide HD, if_pos ⟨rfl, hsz⟩]
                  obtain ⟨q1, hq1⟩ : ∃ q1, sz.map letR = q1 := ⟨_, rfl⟩
                  have hqn : ¬ q1 = [] := by rw [← hq1]; simpa using hsz
                  rw [hq1] at e2
                  clear hsz HD hq1 hend
                  cases q1 with
                  | nil => exact absurd rfl hqn
                  | cons c0 r0 =>
                    go_wp2_with fail
                    go_ret3
                    rw [unhide HE]
                    exact ⟨_, _, _, rfl, ⟨rfl, rfl, rfl⟩, (unhide HB).trans (unhide HKK)⟩
              · have ieq : ((p : Int) == (l.length : Int)) = false := by simp; omega
                have inl : (p : Int) < (l.length : Int) := by omega
                obtain ⟨x, hx⟩ : ∃ x, l[p]? = some x := ⟨_, List.getElem?_eq_getElem (by omega)⟩
                obtain ⟨hxf, hxr⟩ := (unhide HF) x (List.mem_of_getElem? hx)
                have HBR := hide ((behR_behB S x sz hxf (unhide HZ).2 (fun q => fldT_isK (unhide HKI) hxf hxr (Or.inl q))).1)
                obtain ⟨b, off, c, ee, hbl, hc⟩ := (unhide HV).cells (by omega)
                simp at ee
                obtain ⟨rfl, rfl⟩ := ee
                have a0 := ((unhide HKK).cell hbl id).trans (hc p x hx).1
                have a1 := ((unhide HKK).cell hbl id).trans (hc p x hx).2.1
                have a2 := ((unhide HKK).cell hbl id).trans (hc p x hx).2.2
                have hbl' : b < wr.heap.size := Nat.lt_of_lt_of_le hbl (unhide HKK).size
                have HQ := hide (behindR_v S so sc x (sz.map letR) wr.drew ((unhide HS).keepF ((unhide HKK).trans (Keeps.refl _ wr).drew)) hxf hxr (by rw [List.length_map]; have := (unhide HZ).1; omega))
                have HAT := hide (pullA_at (S := S) (hv := hv) hx)
                rw [unhide HPP] at HAT
                simp only [true_and] at HAT
                have hxl := (List.getElem?_eq_some_iff.1 hx).1
                have HGN := hide (fun st' (q : behB S x sz = some st') => (unhide HG).snoc (z := (true, sz)) (unhide HZ) (fun st e => ⟨x, st', by rw [hlen]; exact hx, by cases e; exact q⟩))
                rw [unhide HBR] at HQ
                generalize behB S x sz = BE at *
                obtain ⟨q1, hq1⟩ : ∃ q1, sz.map letR = q1 := ⟨_, rfl⟩
                rw [hq1] at HQ e2
                generalize (behR S x q1).1 = BT at *
                clear hq1 HBR
                obtain ⟨xk, xn, xs⟩ := x
                unfold ValA.v at HQ
                simp only at *
                clear hc hx hxf hxr hend
                go_wp2_with fail
                go_region_held3 (fun w' => w'.cell? ⟨w.heap.size, 0, none⟩ = some (.slice so S.length sc) ∧ w'.cell? ⟨b, off + p * 3, none⟩ = some (.int .i64 xk) ∧ w'.cell? ⟨b, off + p * 3 + 1, none⟩ = some (.int .i64 xn) ∧ w'.cell? ⟨b, off + p * 3 + 2, none⟩ = some (str xs) ∧ w'.cell? ⟨g2, p, none⟩ = some (str q1))
                  (go_keep)
                  (first
                    | (go_at_call 41
                       refine (unhide HQ).mono ?_
                       rintro e w4 ⟨rfl, hk4⟩
                       have y0 := (hk4.cell (o := 0) hbr id).trans sb
                       have y1 := (hk4.cell (o := off + p * 3) hbl' id).trans a0
                       have y2 := (hk4.cell (o := off + p * 3 + 1) hbl' id).trans a1
                       have y3 := (hk4.cell (o := off + p * 3 + 2) hbl' id).trans a2
                       have y4 := (hk4.cell (o := p) hg2l id).trans e2))
                have HK4 := hide (((unhide HKK).trans (Keeps.refl _ wr).drew).trans hk4)
                have HR4 := hide (((unhide HRR).keepF (Keeps.refl _ wr).drew).keepF hk4)
                clear hk4 HQ y0 y1 y2 y3 y4 a0 a1 a2 e1 e2 sb
                cases BE with
                | none =>
                  have HE : Hid (R = (none, p, 112)) := by show _ = _; rw [unhide HS1, unhide HAT]; simp
                  clear HAT HGN
                  simp only [Option.isSome_none]
                  go_wp2_with fail
                  go_ret3
                  rw [unhide HE]
                  exact ⟨_, _, _, rfl, ⟨rfl, rfl, rfl⟩, (unhide HB).trans (unhide HK4)⟩
                | some st' =>
                  have HE : Hid (R = pullA S l (p + 1) (l.drop (p + 1)) (hv ++ [(true, sz)])) := by show _ = _; rw [unhide HS1, unhide HAT]; simp
                  have HGM := hide ((unhide HGN) st' rfl)
                  clear HAT HGN
                  simp only [Option.isSome_some]
                  go_wp2_with fail
                  go_roundw
                  case rel => exact ⟨p + 1, hv ++ [(true, sz)], by omega, by go_num, hln, by show ite _ _ _; rw [if_pos (by omega)]; exact unhide HE, by rw [rowsP_of (unhide HNH), hln, hN]; exact unhide HR4, fun _ => unhide HGM, unhide HK4⟩
                  case measure => simp [intOf]; omega
      · have hpp : (0 : Int) < (p : Int) := by omega
        have hne : hv ≠ [] := fun q => by rw [q] at hlen; simp at hlen; omega
        rw [rowsP_of hne, hlen] at HRW0
        go_wp2_with (first
          | (at_builtin; refine wpList_append_lies _ rfl _ _ _ rfl Wb.heap.size 4 j4 _ 1 1 Tryz.underlying58 hj4 hz40 hz41 hz42 rfl (by omega) u7 p (rbs hv) rfl ((unhide HRW0).bs.alloc _) ⟨wr.heap.size, 0, none⟩ 1 1 [.bool false] rfl rfl (World.news_of_block (cs := #[.bool false]) (t := 4) (fr := (0, 0)) (heap_alloc_new wr _)) (by simp [Value.oneCell']) (by omega) (by unfold maxLen; omega) (by omega) (by have := (unhide HKP0).size; simp; omega) (wr.heap.size + 1) (by simp) ?_; intro g1 c1 w1 hown1 hgrow1 hat1 hlt1; have HO1 := hide hown1; have HG1 := hide hgrow1; have HSS1 := hide (World.ownsRow.kept ((unhide HRW0).ss.alloc _) hgrow1 (owns_apart (unhide HRW0).ss (unhide HRW0).bs (by decide))); have HKPS := hide (((unhide HKP0).alloc _).grown hgrow1 (fun q e hq => by have := ((unhide HRW0).bs.lt q e).1; omega)); clear hown1 hgrow1 hat1)
          | (at_builtin; refine wpList_append_lies _ rfl _ _ _ rfl Wb.heap.size 9 j9 _ 1 16 Tryz.underlying33 hj9 hz90 hz91 hz92 rfl (by omega) u8 p (rss hv) rfl ((unhide HSS1).alloc _) ⟨w1.heap.size, 0, none⟩ 1 1 [.string ⟨#[]⟩] rfl rfl (World.news_of_block (cs := #[.string ⟨#[]⟩]) (t := 9) (fr := (0, 0)) (heap_alloc_new w1 _)) (by simp [Value.oneCell']) (by omega) (by unfold maxLen; omega) (by omega) (by have := (unhide HKPS).size; simp; omega) (w1.heap.size + 1) (by simp) ?_; intro g2 c2 w2 hown2 hgrow2 hat2 hlt2; have HKP := hide (((unhide HKPS).alloc _).grown hgrow2 (fun q e hq => by have := ((unhide HSS1).lt q e).1; omega)); have HRW := hide (rows_more (unhide HRW0) (unhide HO1) (unhide HG1) hown2 hgrow2); clear hown2 hgrow2 hat2 HO1 HG1 HSS1 HKPS))
        rw [hN, show false = decide (p = 0) from (decide_eq_false hp0).symm] at HRW
        obtain ⟨hgl1, hgl2, hgne⟩ := (unhide HRW).lt
        go_loopw [10] (fun i wr => ∃ (k : Nat) (rz : Bool) (sz : List Int), k ≤ p ∧ i = .int .i64 k ∧ Hid (pullB S l hv p k = some (rz, sz)) ∧ RowsAt Wb.heap.size wr (.slice (some ⟨g1, 0, none⟩) N c1) (.slice (some ⟨g2, 0, none⟩) N c2) N (hv ++ [(rz, sz)]) ∧ Hid (sz.length ≤ 16 ∧ ∀ k ∈ sz, isK k) ∧ Keeps (fun _ => False) Wb wr) (fun i _ => p - (intOf i).toNat)
        case atStart => exact ⟨0, decide (p = 0), [], Nat.zero_le _, rfl, rfl, unhide HRW, ⟨by simp, by simp⟩, unhide HKP⟩
        case round =>
          obtain ⟨k, rz, sz, hk, rfl, HP, hrow, HZ, hkp⟩ := hrel
          have hzp : (hv ++ [(rz, sz)])[p]? = some (rz, sz) := by rw [List.getElem?_append_right (by omega), hlen, Nat.sub_self]; rfl
          obtain ⟨e1, e2⟩ := hrow.cell hzp
          obtain ⟨fz1, fz2⟩ := hrow.frozen p
          obtain ⟨⟨hb1, hg1l⟩, ⟨hb2, hg2l⟩, _⟩ := hrow.lt
          simp only at e1 e2
          have HRR := hide hrow
          have HKK := hide hkp
          have sb := (hkp.cell (o := 0) hbb id).trans s0
          have hbr : w.heap.size < wr.heap.size := Nat.lt_of_lt_of_le hbb hkp.size
          by_cases hlt : k < p
          · obtain ⟨⟨r0, st0⟩, hz0⟩ : ∃ z0, hv[k]? = some z0 := ⟨_, List.getElem?_eq_getElem (by omega)⟩
            obtain ⟨x, hx⟩ : ∃ x, l[k]? = some x := ⟨_, List.getElem?_eq_getElem (by omega)⟩
            obtain ⟨d1, d2⟩ := hrow.cell (show (hv ++ [(rz, sz)])[k]? = some (r0, st0) by rw [List.getElem?_append_left (by omega)]; exact hz0)
            simp only at d1 d2
            have HX := hide hx
            have HZ0 := hide hz0
            have ik : (k : Int) < (p : Int) := by omega
            have ik0 : (0 : Int) ≤ (k : Int) := by omega
            have ikN : (k : Int) < (N : Int) := by omega
            have ikl : (k : Int) < (l.length : Int) := by omega
            clear hrow hkp hx hz0 hzp
            cases r0 with
            | false =>
              go_wp2_with fail
              go_roundw
              case rel => exact ⟨k + 1, rz, sz, by omega, by go_num, pullB_off (unhide HP) (unhide HZ0), unhide HRR, HZ, unhide HKK⟩
              case measure => simp [intOf]; omega
            | true =>
              obtain ⟨hxf, hxr⟩ := (unhide HF) x (List.mem_of_getElem? (unhide HX))
              obtain ⟨x', st', hx', hbe⟩ := (unhide HG).beh k st0 (unhide HZ0)
              obtain rfl : x = x' := Option.some.inj ((unhide HX).symm.trans hx')
              have hsm := (unhide HG).small k _ (unhide HZ0)
              simp only at hsm
              have HBR := hide ((behR_behB S x st0 hxf hsm.2 (fun q => fldT_isK (unhide HKI) hxf hxr (Or.inl q))).2 st' hbe)
              have hst16 := behB_le hbe
              have HSK := hide (behB_isK (unhide HKI) hxf hxr hsm.2 hbe)
              have HON := hide (fun hld => pullB_on (unhide HP) (unhide HZ0) hx' hld hbe)
              have HBY := hide (fun hld => pullB_by (unhide HP) (unhide HZ0) hx' hld)
              obtain ⟨b, off, c, ee, hbl, hc⟩ := (unhide HV).cells (by omega)
              simp at ee
              obtain ⟨rfl, rfl⟩ := ee
              have a0 := ((unhide HKK).cell hbl id).trans (hc k x hx').1
              have a1 := ((unhide HKK).cell hbl id).trans (hc k x hx').2.1
              have a2 := ((unhide HKK).cell hbl id).trans (hc k x hx').2.2
              have hbl' : b < wr.heap.size := Nat.lt_of_lt_of_le hbl (unhide HKK).size
              have HLD := hide (leads_v l _ wr ((unhide HV).keepF (unhide HKK)) k p x (unhide HX) hl hxf (by omega))
              have HQF := hide (fun (W : World) (hW : Keeps (fun _ => False) Wb W) => behindR_v S so sc x (st0.map letR) W ((unhide HS).keepF hW) hxf hxr (by rw [List.length_map]; omega))
              have HQ1 : Hid (∃ q1, sz.map letR = q1) := ⟨_, rfl⟩
              obtain ⟨q1, hq1⟩ := unhide HQ1
              obtain ⟨q2, hq2⟩ : ∃ q2, st'.map letR = q2 := ⟨_, rfl⟩
              obtain ⟨q0, hq0⟩ : ∃ q0, st0.map letR = q0 := ⟨_, rfl⟩
              rw [hq0] at HBR HQF d2
              rw [hq1] at e2
              rw [hq2] at HBR
              rw [unhide HBR] at HQF
              have HE1 := hide hq1
              have HE2 := hide hq2
              generalize leadsB k x p = LD at *
              generalize (behR S x q0).2 = BO at *
              obtain ⟨xk, xn, xs⟩ := x
              unfold ValA.v at HQF
              simp only at *
              clear hc hx' hbe hsm hq1 hq2 hq0 HQ1 HBR hxf hxr HX
              go_wp2_with fail
              refine (unhide HLD).mono ?_
              rintro e w3 ⟨rfl, hk3⟩
              have HK3 := hide ((unhide HKK).trans hk3)
              have HR3 := hide ((unhide HRR).keepF hk3)
              have a0' := (hk3.cell hbl' id).trans a0
              have a1' := (hk3.cell hbl' id).trans a1
              have a2' := (hk3.cell hbl' id).trans a2
              have d2' := (hk3.cell hg2l id).trans d2
              have e1' := (hk3.cell hg1l id).trans e1
              have e2' := (hk3.cell hg2l id).trans e2
              have sb' := (hk3.cell hbr id).trans sb
              have hbl3 := Nat.lt_of_lt_of_le hbl' hk3.size
              have hg13 := Nat.lt_of_lt_of_le hg1l hk3.size
              have hg23 := Nat.lt_of_lt_of_le hg2l hk3.size
              have hbr3 := Nat.lt_of_lt_of_le hbr hk3.size
              clear hk3 HLD a0 a1 a2 d1 d2 e1 e2 sb fz1 fz2
              cases LD with
              | false =>
                go_wp2_with fail
                go_roundw
                case rel => exact ⟨k + 1, rz, sz, by omega, by go_num, (unhide HBY) trivial, unhide HR3, HZ, unhide HK3⟩
                case measure => simp [intOf]; omega
              | true =>
                have HQ := hide ((unhide HQF) w3.drew ((unhide HK3).trans (Keeps.refl _ w3).drew))
                go_wp2_with fail
                go_region_held3 (fun w' => w'.cell? ⟨w.heap.size, 0, none⟩ = some (.slice so S.length sc) ∧ w'.cell? ⟨b, off + k * 3, none⟩ = some (.int .i64 xk) ∧ w'.cell? ⟨b, off + k * 3 + 1, none⟩ = some (.int .i64 xn) ∧ w'.cell? ⟨b, off + k * 3 + 2, none⟩ = some (str xs) ∧ w'.cell? ⟨g2, k, none⟩ = some (str q0))
                  (go_keep)
                  (first
                    | (go_at_call 41
                       refine (unhide HQ).mono ?_
                       rintro e w4 ⟨rfl, hk4⟩
                       have y0 := (hk4.cell (o := 0) hbr3 id).trans sb'
                       have y1 := (hk4.cell (o := off + k * 3) hbl3 id).trans a0'
                       have y2 := (hk4.cell (o := off + k * 3 + 1) hbl3 id).trans a1'
                       have y3 := (hk4.cell (o := off + k * 3 + 2) hbl3 id).trans a2'
                       have y4 := (hk4.cell (o := k) hg23 id).trans d2'))
                have HK4 := hide (((unhide HK3).trans (Keeps.refl _ w3).drew).trans hk4)
                have HR4 := hide (((unhide HR3).keepF (Keeps.refl _ w3).drew).keepF hk4)
                obtain ⟨e1b, e2b⟩ := (unhide HR4).cell (show (hv ++ [(rz, sz)])[p]? = some (rz, sz) by rw [List.getElem?_append_right (by omega), hlen, Nat.sub_self]; rfl)
                obtain ⟨fz1, fz2⟩ := (unhide HR4).frozen p
                simp only at e1b e2b
                rw [unhide HE1] at e2b
                clear hk4 HQ y0 y1 y2 y3 y4 a0' a1' a2' d2' e1' e2' sb' HQF
                have HPUT := hide ((unhide HR4).put hlen st')
                have HKPUT := hide ((unhide HK4).then (keeps_two w4 g1 g2 p (.bool true) (str (st'.map letR))) (fun i hi q => by omega))
                rw [unhide HE2] at HPUT HKPUT
                cases rz with
                | false =>
                  have HN : Hid (pullB S l hv p (k + 1) = some (true, st')) := by show _ = _; rw [(unhide HON) trivial]; simp
                  clear HON HBY
                  go_wp2_with fail
                  go_roundw
                  case rel => exact ⟨k + 1, true, st', by omega, by go_num, HN, unhide HPUT, ⟨hst16, unhide HSK⟩, unhide HKPUT⟩
                  case measure => simp [intOf]; omega
                | true =>
                  by_cases heq : sz = st'
                  · have HN : Hid (pullB S l hv p (k + 1) = some (true, st')) := by show _ = _; rw [(unhide HON) trivial]; simp [heq]
                    have hqq : q1 = q2 := by rw [← unhide HE1, ← unhide HE2, heq]
                    clear HON HBY heq
                    rw [hqq] at e2b
                    clear hqq
                    go_wp2_with fail
                    go_roundw
                    case rel => exact ⟨k + 1, true, st', by omega, by go_num, HN, unhide HPUT, ⟨hst16, unhide HSK⟩, unhide HKPUT⟩
                    case measure => simp [intOf]; omega
                  · have bqq : (!q1 == q2) = true := by
                      have hne : ¬ q1 = q2 := fun q => heq (map_letR_inj (unhide HZ).2 (unhide HSK) (by rw [unhide HE1, unhide HE2]; exact q))
                      simpa using hne
                    have HN : Hid (pullB S l hv p (k + 1) = none) := by show _ = _; rw [(unhide HON) trivial]; simp [heq]
                    have HE : Hid (R = (none, p, 112)) := by
                      show _ = _
                      rw [unhide HS1, pullA_bad hple]
                      have := pullB_none (n := p - (k + 1)) (unhide HN)
                      rwa [show k + 1 + (p - (k + 1)) = p by omega] at this
                    clear HON HBY heq HN
                    go_wp2_with fail
                    go_ret3
                    rw [unhide HE]
                    exact ⟨_, _, _, rfl, ⟨rfl, rfl, rfl⟩, (unhide HB).trans (unhide HK4)⟩
          · have HPP : Hid (pullB S l hv p p = some (rz, sz)) := by have := unhide HP; rwa [show k = p by omega] at this
            have inlt : ¬ (k : Int) < (p : Int) := by omega
            have HNH := hide (show (hv ++ [(rz, sz)]) ≠ [] by simp)
            have hln : (hv ++ [(rz, sz)]).length = p + 1 := by simp [hlen]
            clear HP hrow hkp hzp hlt
            cases rz with
            | false =>
              have HGN := hide ((unhide HG).snoc (z := (false, sz)) (unhide HZ) (fun st q => by cases q))
              have HE : Hid (if p + 1 ≤ l.length then R = pullA S l (p + 1) (l.drop (p + 1)) (hv ++ [(false, sz)]) else R = (some (hv ++ [(false, sz)]), 0, 0)) := by
                by_cases hpl : p + 1 ≤ l.length
                · show ite _ _ _
                  rw [if_pos hpl, unhide HS1, pullA_at (List.getElem?_eq_getElem (show p < l.length by omega)), unhide HPP]
                  simp
                · show ite _ _ _
                  rw [if_neg hpl, unhide HS1, show p = l.length by omega, List.drop_length, pullA_nil]
                  have := unhide HPP
                  rw [show p = l.length by omega] at this
                  rw [this]
                  simp
              go_wp2_with fail
              go_roundw
              case rel => exact ⟨p + 1, hv ++ [(false, sz)], by omega, by go_num, hln, HE, by rw [rowsP_of (unhide HNH), hln, hN]; exact unhide HRR, fun _ => unhide HGN, unhide HKK⟩
              case measure => simp [intOf]; omega
            | true =>
              by_cases hend : p = l.length
              · have ieq : ((p : Int) == (l.length : Int)) = true := by simp; omega
                have inl : ¬ (p : Int) < (l.length : Int) := by omega
                have HD : Hid (R = if (true = true ∧ sz ≠ []) then (none, p, 112) else (some (hv ++ [(true, sz)]), 0, 0)) := by
                  show _ = _
                  have hq := unhide HPP
                  rw [unhide HS1, show l.drop p = [] by rw [hend, List.drop_length], pullA_nil, hq]
                by_cases hsz : sz = []
                · have HE : Hid (R = (some (hv ++ [(true, sz)]), 0, 0)) := by show _ = _; rw [unhide HD, if_neg (fun q => q.2 hsz)]
                  have hqe : sz.map letR = [] := by rw [hsz]; rfl
                  rw [hqe] at e2
                  clear hsz HD hqe hend
                  go_wp2_with fail
                  go_roundw
                  case rel => exact ⟨p + 1, hv ++ [(true, sz)], by omega, by go_num, hln, by show ite _ _ _; rw [if_neg (by omega)]; exact unhide HE, by rw [rowsP_of (unhide HNH), hln, hN]; exact unhide HRR, fun q => absurd q (by omega), unhide HKK⟩
                  case measure => simp [intOf]; omega
                · have HE : Hid (R = (none, p, 112)) := by show _ = _; rw [unhide HD, if_pos ⟨rfl, hsz⟩]
                  obtain ⟨q1, hq1⟩ : ∃ q1, sz.map letR = q1 := ⟨_, rfl⟩
                  have hqn : ¬ q1 = [] := by rw [← hq1]; simpa using hsz
                  rw [hq1] at e2
                  clear hsz HD hq1 hend
                  cases q1 with
                  | nil => exact absurd rfl hqn
                  | cons c0 r0 =>
                    go_wp2_with fail
                    go_ret3
                    rw [unhide HE]
                    exact ⟨_, _, _, rfl, ⟨rfl, rfl, rfl⟩, (unhide HB).trans (unhide HKK)⟩
              · have ieq : ((p : Int) == (l.length : Int)) = false := by simp; omega
                have inl : (p : Int) < (l.length : Int) := by omega
                obtain ⟨x, hx⟩ : ∃ x, l[p]? = some x := ⟨_, List.getElem?_eq_getElem (by omega)⟩
                obtain ⟨hxf, hxr⟩ := (unhide HF) x (List.mem_of_getElem? hx)
                have HBR := hide ((behR_behB S x sz hxf (unhide HZ).2 (fun q => fldT_isK (unhide HKI) hxf hxr (Or.inl q))).1)
                obtain ⟨b, off, c, ee, hbl, hc⟩ := (unhide HV).cells (by omega)
                simp at ee
                obtain ⟨rfl, rfl⟩ := ee
                have a0 := ((unhide HKK).cell hbl id).trans (hc p x hx).1
                have a1 := ((unhide HKK).cell hbl id).trans (hc p x hx).2.1
                have a2 := ((unhide HKK).cell hbl id).trans (hc p x hx).2.2
                have hbl' : b < wr.heap.size := Nat.lt_of_lt_of_le hbl (unhide HKK).size
                have HQ := hide (behindR_v S so sc x (sz.map letR) wr.drew ((unhide HS).keepF ((unhide HKK).trans (Keeps.refl _ wr).drew)) hxf hxr (by rw [List.length_map]; have := (unhide HZ).1; omega))
                have HAT := hide (pullA_at (S := S) (hv := hv) hx)
                rw [unhide HPP] at HAT
                simp only [true_and] at HAT
                have hxl := (List.getElem?_eq_some_iff.1 hx).1
                have HGN := hide (fun st' (q : behB S x sz = some st') => (unhide HG).snoc (z := (true, sz)) (unhide HZ) (fun st e => ⟨x, st', by rw [hlen]; exact hx, by cases e; exact q⟩))
                rw [unhide HBR] at HQ
                generalize behB S x sz = BE at *
                obtain ⟨q1, hq1⟩ : ∃ q1, sz.map letR = q1 := ⟨_, rfl⟩
                rw [hq1] at HQ e2
                generalize (behR S x q1).1 = BT at *
                clear hq1 HBR
                obtain ⟨xk, xn, xs⟩ := x
                unfold ValA.v at HQ
                simp only at *
                clear hc hx hxf hxr hend
                go_wp2_with fail
                go_region_held3 (fun w' => w'.cell? ⟨w.heap.size, 0, none⟩ = some (.slice so S.length sc) ∧ w'.cell? ⟨b, off + p * 3, none⟩ = some (.int .i64 xk) ∧ w'.cell? ⟨b, off + p * 3 + 1, none⟩ = some (.int .i64 xn) ∧ w'.cell? ⟨b, off + p * 3 + 2, none⟩ = some (str xs) ∧ w'.cell? ⟨g2, p, none⟩ = some (str q1))
                  (go_keep)
                  (first
                    | (go_at_call 41
                       refine (unhide HQ).mono ?_
                       rintro e w4 ⟨rfl, hk4⟩
                       have y0 := (hk4.cell (o := 0) hbr id).trans sb
                       have y1 := (hk4.cell (o := off + p * 3) hbl' id).trans a0
                       have y2 := (hk4.cell (o := off + p * 3 + 1) hbl' id).trans a1
                       have y3 := (hk4.cell (o := off + p * 3 + 2) hbl' id).trans a2
                       have y4 := (hk4.cell (o := p) hg2l id).trans e2))
                have HK4 := hide (((unhide HKK).trans (Keeps.refl _ wr).drew).trans hk4)
                have HR4 := hide (((unhide HRR).keepF (Keeps.refl _ wr).drew).keepF hk4)
                clear hk4 HQ y0 y1 y2 y3 y4 a0 a1 a2 e1 e2 sb
                cases BE with
                | none =>
                  have HE : Hid (R = (none, p, 112)) := by show _ = _; rw [unhide HS1, unhide HAT]; simp
                  clear HAT HGN
                  simp only [Option.isSome_none]
                  go_wp2_with fail
                  go_ret3
                  rw [unhide HE]
                  exact ⟨_, _, _, rfl, ⟨rfl, rfl, rfl⟩, (unhide HB).trans (unhide HK4)⟩
                | some st' =>
                  have HE : Hid (R = pullA S l (p + 1) (l.drop (p + 1)) (hv ++ [(true, sz)])) := by show _ = _; rw [unhide HS1, unhide HAT]; simp
                  have HGM := hide ((unhide HGN) st' rfl)
                  clear HAT HGN
                  simp only [Option.isSome_some]
                  go_wp2_with fail
                  go_roundw
                  case rel => exact ⟨p + 1, hv ++ [(true, sz)], by omega, by go_num, hln, by show ite _ _ _; rw [if_pos (by omega)]; exact unhide HE, by rw [rowsP_of (unhide HNH), hln, hN]; exact unhide HR4, fun _ => unhide HGM, unhide HK4⟩
                  case measure => simp [intOf]; omega
    · have ile : ¬ (p : Int) ≤ (l.length : Int) := by omega
      have hne : hv ≠ [] := fun q => by rw [q] at hlen; simp at hlen; omega
      have HE : Hid (R = (some hv, 0, 0)) := by have := unhide HS0; rwa [if_neg hple] at this
      rw [rowsP_of hne, hlen] at HRW0
      obtain ⟨g1, c1, g2, c2, rfl, rfl⟩ := (unhide HRW0).form (by omega)
      clear HS0 HG0 hple
      go_wp2_with fail
      go_ret3
      rw [unhide HE]
      refine ⟨_, _, _, rfl, ⟨rfl, ?_, ?_⟩, (unhide HB).trans (unhide HKP0)⟩
      · rw [hlen]; exact ownsRow_lower (unhide HRW0).bs (Nat.zero_le _)
      · rw [hlen]; exact ownsRow_lower (unhide HRW0).ss (Nat.zero_le _)

end Go.Proofs.YtcicaifioghciaaGreatDoor
