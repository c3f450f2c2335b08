import Derived.Test.YtbdlcaamanhapaaGreatDoorJzao
import Derived.Test.YtbdlcaamanhapaaGreatDoorJzag
import Derived.Test.YtbdlcaamanhapaaGreatDoorJzac
import Derived.Test.YtbdlcaamanhapaaGreatDoorJzab
namespace Go.Proofs.YtbdlcaamanhapaaGreatDoor
open Go.RowKit Go.Maps
set_option maxRecDepth 100000
set_option maxHeartbeats 8000000
theorem stacks_v (S : List Wq) (so : Option Addr) (sc : Nat) (l : List ValA) (v : Value) (w : World) (hS : Wt w (.slice so S.length sc) S) (h : Wr w v l) (hl : l.length ≤ 96) (hK : ∀ f ∈ S, isK f.type) (hF : ∀ i ∈ l, formB i = 0 ∧ rightF S i = true) :
  Calls Tryz.prog 56 #[.agg #[.slice so S.length sc], v] w fun e w' => ∃ vb vs bad, e = .returned (.tuple #[vb, vs, .int .i64 bad]) ∧ Stacked w' vb vs bad (pullA S l 0 l []) ∧ Wp (fun _ => False) w w' := by
 obtain ⟨ao, cap, rfl⟩ := Ws.form h
 obtain ⟨j4, hj4, hz40, hz41, hz42⟩ := info_parts Tryz.info4
 obtain ⟨j9, hj9, hz90, hz91, hz92⟩ := info_parts Tryz.info9s
 obtain ⟨HB, hbb, hbc⟩ := boxed w #[.slice so S.length sc] 24
 have s0 := hbc 0 (.slice so S.length sc) rfl
 have HS := zB (hS.keepF (zA HB))
 have HV := zB (h.keepF (zA HB))
 generalize hR : pullA S l 0 l [] = R at *
 have HR0 : Hid (R = pullA S l 0 (l.drop 0) []) := hR.symm
 have HF := zB hF
 have HKI := zB hK
 generalize hWb : w.alloc (.cells #[.slice so S.length sc] 24) = Wb at *
 have HST := zB (rows_start Wb)
 have HK0 := zB (((Wp.refl (fun _ => False) Wb).alloc (.cells #[.bool true] 4)).alloc (.cells #[.string ⟨#[]⟩] 9))
 clear hbc h hS hR hF hK
 go_enter Tryz.func56, Tryz.ntmps56
 go_wp2_with fail
 clear hWb
 go_loopw [7, 8, 9] (fun vr vh i wr => ∃ (p : Nat) (hv : List (Bool × List Int)), p ≤ l.length + 1 ∧ i = .int .i64 p ∧ hv.length = p ∧ Hid (if p ≤ l.length then R = pullA S l p (l.drop p) hv else R = (some hv, 0, 0)) ∧ RowsAt Wb.heap.size wr vr vh (rowsP hv).length (rowsP hv) ∧ Hid (p ≤ l.length → GoodH S l hv) ∧ Wp (fun _ => False) Wb wr) (fun _ _ i _ => l.length + 1 - (intOf i).toNat)
 case atStart => exact ⟨0, [], Nat.zero_le _, rfl, rfl, by simpa [Hid] using (zA HR0), zA HST, fun _ => good_nil S l, zA HK0⟩
 case round =>
  obtain ⟨p, hv, hp, rfl, hlen, HS0, hrow, HG0, hkp⟩ := hrel
  have HRW0 := zB hrow
  have HKP0 := zB hkp
  clear hrow hkp
  by_cases hple : p ≤ l.length
  ·have HS1 : Hid (R = pullA S l p (l.drop p) hv) := by have := zA HS0; rwa [if_pos hple] at this
   have HG := zB ((zA HG0) hple)
   clear HS0 HG0
   have ile : (p : Int) ≤ (l.length : Int) := by omega
   obtain ⟨N, hN⟩ : ∃ N, p + 1 = N := ⟨_, rfl⟩
   have iN : (p : Int) < (N : Int) := by omega
   have ip0' : (0 : Int) ≤ (p : Int) := by omega
   by_cases hp0 : p = 0
   ·have hpn : ¬ (0 : Int) < (p : Int) := by omega
    have HRW : Hid (RowsAt Wb.heap.size wr u7 u8 N (hv ++ [(decide (p = 0), [])])) := by
     have e0 : hv = [] := List.eq_nil_of_length_eq_zero (by omega)
     have := zA HRW0
     rw [e0, rowsP] at this
     rw [e0, decide_eq_true hp0, show N = 1 by omega]
     exact this
    have HKP := HKP0
    clear HRW0 HKP0 hp0
    obtain ⟨g1, c1, g2, c2, rfl, rfl⟩ := (zA HRW).form (by omega)
    go_wp2_with fail
    obtain ⟨hgl1, hgl2, hgne⟩ := (zA HRW).lt
    go_loopw [10] (fun i wr => ∃ (k : Nat) (rz : Bool) (sz : List Int), k ≤ p ∧ i = .int .i64 k ∧ Hid (pullB S l hv p k = some (rz, sz)) ∧ RowsAt Wb.heap.size wr (.slice (some ⟨g1, 0, none⟩) N c1) (.slice (some ⟨g2, 0, none⟩) N c2) N (hv ++ [(rz, sz)]) ∧ Hid (sz.length ≤ 16 ∧ ∀ k ∈ sz, isK k) ∧ Wp (fun _ => False) Wb wr) (fun i _ => p - (intOf i).toNat)
    case atStart => exact ⟨0, decide (p = 0), [], Nat.zero_le _, rfl, rfl, zA HRW, ⟨by simp, by simp⟩, zA HKP⟩
    case round =>
     obtain ⟨k, rz, sz, hk, rfl, HP, hrow, HZ, hkp⟩ := hrel
     have hzp : (hv ++ [(rz, sz)])[p]? = some (rz, sz) := by rw [List.getElem?_append_right (by omega), hlen, Nat.sub_self]; rfl
     obtain ⟨e1, e2⟩ := hrow.cell hzp
     obtain ⟨fz1, fz2⟩ := hrow.frozen p
     obtain ⟨⟨hb1, hg1l⟩, ⟨hb2, hg2l⟩, _⟩ := hrow.lt
     simp only at e1 e2
     have HRR := zB hrow
     have HKK := zB hkp
     have sb := (hkp.cell (o := 0) hbb id).trans s0
     have hbr : w.heap.size < wr.heap.size := Nat.lt_of_lt_of_le hbb hkp.size
     by_cases hlt : k < p
     ·exfalso; omega
     ·have HPP : Hid (pullB S l hv p p = some (rz, sz)) := by have := zA HP; rwa [show k = p by omega] at this
      have inlt : ¬ (k : Int) < (p : Int) := by omega
      have HNH := zB (show (hv ++ [(rz, sz)]) ≠ [] by simp)
      have hln : (hv ++ [(rz, sz)]).length = p + 1 := by simp [hlen]
      clear HP hrow hkp hzp hlt
      cases rz with
      | false =>
       have HGN := zB ((zA HG).snoc (z := (false, sz)) (zA HZ) (fun st q => by cases q))
       have HE : Hid (if p + 1 ≤ l.length then R = pullA S l (p + 1) (l.drop (p + 1)) (hv ++ [(false, sz)]) else R = (some (hv ++ [(false, sz)]), 0, 0)) := by
        by_cases hpl : p + 1 ≤ l.length
        ·show ite _ _ _
         rw [if_pos hpl, zA HS1, pullA_at (List.getElem?_eq_getElem (show p < l.length by omega)), zA HPP]
         simp
        ·show ite _ _ _
         rw [if_neg hpl, zA HS1, show p = l.length by omega, List.drop_length, pullA_nil]
         have := zA HPP
         rw [show p = l.length by omega] at this
         rw [this]
         simp
       go_wp2_with fail
       go_roundw
       case rel => exact ⟨p + 1, hv ++ [(false, sz)], by omega, by go_num, hln, HE, by rw [rowsP_of (zA HNH), hln, hN]; exact zA HRR, fun _ => zA HGN, zA HKK⟩
       case measure => simp [intOf]; omega
      | true =>
       by_cases hend : p = l.length
       ·have ieq : ((p : Int) == (l.length : Int)) = true := by simp; omega
        have inl : ¬ (p : Int) < (l.length : Int) := by omega
        have HD : Hid (R = if (true = true ∧ sz ≠ []) then (none, p, 112) else (some (hv ++ [(true, sz)]), 0, 0)) := by
         show _ = _
         have hq := zA HPP
         rw [zA HS1, show l.drop p = [] by rw [hend, List.drop_length], pullA_nil, hq]
        by_cases hsz : sz = []
        ·have HE : Hid (R = (some (hv ++ [(true, sz)]), 0, 0)) := by show _ = _; rw [zA HD, if_neg (fun q => q.2 hsz)]
         have hqe : sz.map letR = [] := by rw [hsz]; rfl
         rw [hqe] at e2
         clear hsz HD hqe hend
         go_wp2_with fail
         go_roundw
         case rel => exact ⟨p + 1, hv ++ [(true, sz)], by omega, by go_num, hln, by show ite _ _ _; rw [if_neg (by omega)]; exact zA HE, by rw [rowsP_of (zA HNH), hln, hN]; exact zA HRR, fun q => absurd q (by omega), zA HKK⟩
         case measure => simp [intOf]; omega
        ·have HE : Hid (R = (none, p, 112)) := by show _ = _; rw [zA HD, if_pos ⟨rfl, hsz⟩]
         obtain ⟨q1, hq1⟩ : ∃ q1, sz.map letR = q1 := ⟨_, rfl⟩
         have hqn : ¬ q1 = [] := by rw [← hq1]; simpa using hsz
         rw [hq1] at e2
         clear hsz HD hq1 hend
         cases q1 with
         | nil => exact absurd rfl hqn
         | cons c0 r0 =>
          go_wp2_with fail
          go_ret3
          rw [zA HE]
          exact ⟨_, _, _, rfl, ⟨rfl, rfl, rfl⟩, (zA HB).trans (zA HKK)⟩
       ·have ieq : ((p : Int) == (l.length : Int)) = false := by simp; omega
        have inl : (p : Int) < (l.length : Int) := by omega
        obtain ⟨x, hx⟩ : ∃ x, l[p]? = some x := ⟨_, List.getElem?_eq_getElem (by omega)⟩
        obtain ⟨hxf, hxr⟩ := (zA HF) x (List.mem_of_getElem? hx)
        have HBR := zB ((behR_behB S x sz hxf (zA HZ).2 (fun q => fldT_isK (zA HKI) hxf hxr (Or.inl q))).1)
        obtain ⟨b, off, c, ee, hbl, hc⟩ := (zA HV).cells (by omega)
        simp at ee
        obtain ⟨rfl, rfl⟩ := ee
        have a0 := ((zA HKK).cell hbl id).trans (hc p x hx).1
        have a1 := ((zA HKK).cell hbl id).trans (hc p x hx).2.1
        have a2 := ((zA HKK).cell hbl id).trans (hc p x hx).2.2
        have hbl' : b < wr.heap.size := Nat.lt_of_lt_of_le hbl (zA HKK).size
        have HQ := zB (behindR_v S so sc x (sz.map letR) wr.drew ((zA HS).keepF ((zA HKK).trans (Wp.refl _ wr).drew)) hxf hxr (by rw [List.length_map]; have := (zA HZ).1; omega))
        have HAT := zB (pullA_at (S := S) (hv := hv) hx)
        rw [zA HPP] at HAT
        simp only [true_and] at HAT
        have hxl := (List.getElem?_eq_some_iff.1 hx).1
        have HGN := zB (fun st' (q : behB S x sz = some st') => (zA HG).snoc (z := (true, sz)) (zA HZ) (fun st e => ⟨x, st', by rw [hlen]; exact hx, by cases e; exact q⟩))
        rw [zA HBR] at HQ
        generalize behB S x sz = BE at *
        obtain ⟨q1, hq1⟩ : ∃ q1, sz.map letR = q1 := ⟨_, rfl⟩
        rw [hq1] at HQ e2
        generalize (behR S x q1).1 = BT at *
        clear hq1 HBR
        obtain ⟨xk, xn, xs⟩ := x
        unfold ValA.v at HQ
        simp only at *
        clear hc hx hxf hxr hend
        go_wp2_with fail
        go_region_held3 (fun w' => w'.cell? ⟨w.heap.size, 0, none⟩ = some (.slice so S.length sc) ∧ w'.cell? ⟨b, off + p * 3, none⟩ = some (.int .i64 xk) ∧ w'.cell? ⟨b, off + p * 3 + 1, none⟩ = some (.int .i64 xn) ∧ w'.cell? ⟨b, off + p * 3 + 2, none⟩ = some (str xs) ∧ w'.cell? ⟨g2, p, none⟩ = some (str q1))
         (go_keep)
         (first
           | (go_at_call 86
              refine (zA HQ).mono ?_
              rintro e w4 ⟨rfl, hk4⟩
              have y0 := (hk4.cell (o := 0) hbr id).trans sb
              have y1 := (hk4.cell (o := off + p * 3) hbl' id).trans a0
              have y2 := (hk4.cell (o := off + p * 3 + 1) hbl' id).trans a1
              have y3 := (hk4.cell (o := off + p * 3 + 2) hbl' id).trans a2
              have y4 := (hk4.cell (o := p) hg2l id).trans e2))
        have HK4 := zB (((zA HKK).trans (Wp.refl _ wr).drew).trans hk4)
        have HR4 := zB (((zA HRR).keepF (Wp.refl _ wr).drew).keepF hk4)
        clear hk4 HQ y0 y1 y2 y3 y4 a0 a1 a2 e1 e2 sb
        cases BE with
        | none =>
         have HE : Hid (R = (none, p, 112)) := by show _ = _; rw [zA HS1, zA HAT]; simp
         clear HAT HGN
         simp only [Option.isSome_none]
         go_wp2_with fail
         go_ret3
         rw [zA HE]
         exact ⟨_, _, _, rfl, ⟨rfl, rfl, rfl⟩, (zA HB).trans (zA HK4)⟩
        | some st' =>
         have HE : Hid (R = pullA S l (p + 1) (l.drop (p + 1)) (hv ++ [(true, sz)])) := by show _ = _; rw [zA HS1, zA HAT]; simp
         have HGM := zB ((zA HGN) st' rfl)
         clear HAT HGN
         simp only [Option.isSome_some]
         go_wp2_with fail
         go_roundw
         case rel => exact ⟨p + 1, hv ++ [(true, sz)], by omega, by go_num, hln, by show ite _ _ _; rw [if_pos (by omega)]; exact zA HE, by rw [rowsP_of (zA HNH), hln, hN]; exact zA HR4, fun _ => zA HGM, zA HK4⟩
         case measure => simp [intOf]; omega
   ·have hpp : (0 : Int) < (p : Int) := by omega
    have hne : hv ≠ [] := fun q => by rw [q] at hlen; simp at hlen; omega
    rw [rowsP_of hne, hlen] at HRW0
    go_wp2_with (first
     | (at_builtin; refine wpList_append_lies _ rfl _ _ _ rfl Wb.heap.size 4 j4 _ 1 1 Tryz.underlying108 hj4 hz40 hz41 hz42 rfl (by omega) u7 p (rbs hv) rfl ((zA HRW0).bs.alloc _) ⟨wr.heap.size, 0, none⟩ 1 1 [.bool false] rfl rfl (World.news_of_block (cs := #[.bool false]) (t := 4) (fr := (0, 0)) (heap_alloc_new wr _)) (by simp [Value.oneCell']) (by omega) (by unfold maxLen; omega) (by omega) (by have := (zA HKP0).size; simp; omega) (wr.heap.size + 1) (by simp) ?_; intro g1 c1 w1 hown1 hgrow1 hat1 hlt1; have HO1 := zB hown1; have HG1 := zB hgrow1; have HSS1 := zB (World.ownsRow.kept ((zA HRW0).ss.alloc _) hgrow1 (owns_apart (zA HRW0).ss (zA HRW0).bs (by decide))); have HKPS := zB (((zA HKP0).alloc _).grown hgrow1 (fun q e hq => by have := ((zA HRW0).bs.lt q e).1; omega)); clear hown1 hgrow1 hat1)
     | (at_builtin; refine wpList_append_lies _ rfl _ _ _ rfl Wb.heap.size 9 j9 _ 1 16 Tryz.underlying109 hj9 hz90 hz91 hz92 rfl (by omega) u8 p (rss hv) rfl ((zA HSS1).alloc _) ⟨w1.heap.size, 0, none⟩ 1 1 [.string ⟨#[]⟩] rfl rfl (World.news_of_block (cs := #[.string ⟨#[]⟩]) (t := 9) (fr := (0, 0)) (heap_alloc_new w1 _)) (by simp [Value.oneCell']) (by omega) (by unfold maxLen; omega) (by omega) (by have := (zA HKPS).size; simp; omega) (w1.heap.size + 1) (by simp) ?_; intro g2 c2 w2 hown2 hgrow2 hat2 hlt2; have HKP := zB (((zA HKPS).alloc _).grown hgrow2 (fun q e hq => by have := ((zA HSS1).lt q e).1; omega)); have HRW := zB (rows_more (zA HRW0) (zA HO1) (zA HG1) hown2 hgrow2); clear hown2 hgrow2 hat2 HO1 HG1 HSS1 HKPS))
    rw [hN, show false = decide (p = 0) from (decide_eq_false hp0).symm] at HRW
    obtain ⟨hgl1, hgl2, hgne⟩ := (zA HRW).lt
    go_loopw [10] (fun i wr => ∃ (k : Nat) (rz : Bool) (sz : List Int), k ≤ p ∧ i = .int .i64 k ∧ Hid (pullB S l hv p k = some (rz, sz)) ∧ RowsAt Wb.heap.size wr (.slice (some ⟨g1, 0, none⟩) N c1) (.slice (some ⟨g2, 0, none⟩) N c2) N (hv ++ [(rz, sz)]) ∧ Hid (sz.length ≤ 16 ∧ ∀ k ∈ sz, isK k) ∧ Wp (fun _ => False) Wb wr) (fun i _ => p - (intOf i).toNat)
    case atStart => exact ⟨0, decide (p = 0), [], Nat.zero_le _, rfl, rfl, zA HRW, ⟨by simp, by simp⟩, zA HKP⟩
    case round =>
     obtain ⟨k, rz, sz, hk, rfl, HP, hrow, HZ, hkp⟩ := hrel
     have hzp : (hv ++ [(rz, sz)])[p]? = some (rz, sz) := by rw [List.getElem?_append_right (by omega), hlen, Nat.sub_self]; rfl
     obtain ⟨e1, e2⟩ := hrow.cell hzp
     obtain ⟨fz1, fz2⟩ := hrow.frozen p
     obtain ⟨⟨hb1, hg1l⟩, ⟨hb2, hg2l⟩, _⟩ := hrow.lt
     simp only at e1 e2
     have HRR := zB hrow
     have HKK := zB hkp
     have sb := (hkp.cell (o := 0) hbb id).trans s0
     have hbr : w.heap.size < wr.heap.size := Nat.lt_of_lt_of_le hbb hkp.size
     by_cases hlt : k < p
     ·obtain ⟨⟨r0, st0⟩, hz0⟩ : ∃ z0, hv[k]? = some z0 := ⟨_, List.getElem?_eq_getElem (by omega)⟩
      obtain ⟨x, hx⟩ : ∃ x, l[k]? = some x := ⟨_, List.getElem?_eq_getElem (by omega)⟩
      obtain ⟨d1, d2⟩ := hrow.cell (show (hv ++ [(rz, sz)])[k]? = some (r0, st0) by rw [List.getElem?_append_left (by omega)]; exact hz0)
      simp only at d1 d2
      have HX := zB hx
      have HZ0 := zB hz0
      have ik : (k : Int) < (p : Int) := by omega
      have ik0 : (0 : Int) ≤ (k : Int) := by omega
      have ikN : (k : Int) < (N : Int) := by omega
      have ikl : (k : Int) < (l.length : Int) := by omega
      clear hrow hkp hx hz0 hzp
      cases r0 with
      | false =>
       go_wp2_with fail
       go_roundw
       case rel => exact ⟨k + 1, rz, sz, by omega, by go_num, pullB_off (zA HP) (zA HZ0), zA HRR, HZ, zA HKK⟩
       case measure => simp [intOf]; omega
      | true =>
       obtain ⟨hxf, hxr⟩ := (zA HF) x (List.mem_of_getElem? (zA HX))
       obtain ⟨x', st', hx', hbe⟩ := (zA HG).beh k st0 (zA HZ0)
       obtain rfl : x = x' := Option.some.inj ((zA HX).symm.trans hx')
       have hsm := (zA HG).small k _ (zA HZ0)
       simp only at hsm
       have HBR := zB ((behR_behB S x st0 hxf hsm.2 (fun q => fldT_isK (zA HKI) hxf hxr (Or.inl q))).2 st' hbe)
       have hst16 := behB_le hbe
       have HSK := zB (behB_isK (zA HKI) hxf hxr hsm.2 hbe)
       have HON := zB (fun hld => pullB_on (zA HP) (zA HZ0) hx' hld hbe)
       have HBY := zB (fun hld => pullB_by (zA HP) (zA HZ0) hx' hld)
       obtain ⟨b, off, c, ee, hbl, hc⟩ := (zA HV).cells (by omega)
       simp at ee
       obtain ⟨rfl, rfl⟩ := ee
       have a0 := ((zA HKK).cell hbl id).trans (hc k x hx').1
       have a1 := ((zA HKK).cell hbl id).trans (hc k x hx').2.1
       have a2 := ((zA HKK).cell hbl id).trans (hc k x hx').2.2
       have hbl' : b < wr.heap.size := Nat.lt_of_lt_of_le hbl (zA HKK).size
       have HLD := zB (leads_v l _ wr ((zA HV).keepF (zA HKK)) k p x (zA HX) hl hxf (by omega))
       have HQF := zB (fun (W : World) (hW : Wp (fun _ => False) Wb W) => behindR_v S so sc x (st0.map letR) W ((zA HS).keepF hW) hxf hxr (by rw [List.length_map]; omega))
       have HQ1 : Hid (∃ q1, sz.map letR = q1) := ⟨_, rfl⟩
       obtain ⟨q1, hq1⟩ := zA HQ1
       obtain ⟨q2, hq2⟩ : ∃ q2, st'.map letR = q2 := ⟨_, rfl⟩
       obtain ⟨q0, hq0⟩ : ∃ q0, st0.map letR = q0 := ⟨_, rfl⟩
       rw [hq0] at HBR HQF d2
       rw [hq1] at e2
       rw [hq2] at HBR
       rw [zA HBR] at HQF
       have HE1 := zB hq1
       have HE2 := zB hq2
       generalize leadsB k x p = LD at *
       generalize (behR S x q0).2 = BO at *
       obtain ⟨xk, xn, xs⟩ := x
       unfold ValA.v at HQF
       simp only at *
       clear hc hx' hbe hsm hq1 hq2 hq0 HQ1 HBR hxf hxr HX
       go_wp2_with fail
       refine (zA HLD).mono ?_
       rintro e w3 ⟨rfl, hk3⟩
       have HK3 := zB ((zA HKK).trans hk3)
       have HR3 := zB ((zA HRR).keepF hk3)
       have a0' := (hk3.cell hbl' id).trans a0
       have a1' := (hk3.cell hbl' id).trans a1
       have a2' := (hk3.cell hbl' id).trans a2
       have d2' := (hk3.cell hg2l id).trans d2
       have e1' := (hk3.cell hg1l id).trans e1
       have e2' := (hk3.cell hg2l id).trans e2
       have sb' := (hk3.cell hbr id).trans sb
       have hbl3 := Nat.lt_of_lt_of_le hbl' hk3.size
       have hg13 := Nat.lt_of_lt_of_le hg1l hk3.size
       have hg23 := Nat.lt_of_lt_of_le hg2l hk3.size
       have hbr3 := Nat.lt_of_lt_of_le hbr hk3.size
       clear hk3 HLD a0 a1 a2 d1 d2 e1 e2 sb fz1 fz2
       cases LD with
       | false =>
        go_wp2_with fail
        go_roundw
        case rel => exact ⟨k + 1, rz, sz, by omega, by go_num, (zA HBY) trivial, zA HR3, HZ, zA HK3⟩
        case measure => simp [intOf]; omega
       | true =>
        have HQ := zB ((zA HQF) w3.drew ((zA HK3).trans (Wp.refl _ w3).drew))
        go_wp2_with fail
        go_region_held3 (fun w' => w'.cell? ⟨w.heap.size, 0, none⟩ = some (.slice so S.length sc) ∧ w'.cell? ⟨b, off + k * 3, none⟩ = some (.int .i64 xk) ∧ w'.cell? ⟨b, off + k * 3 + 1, none⟩ = some (.int .i64 xn) ∧ w'.cell? ⟨b, off + k * 3 + 2, none⟩ = some (str xs) ∧ w'.cell? ⟨g2, k, none⟩ = some (str q0))
         (go_keep)
         (first
           | (go_at_call 86
              refine (zA HQ).mono ?_
              rintro e w4 ⟨rfl, hk4⟩
              have y0 := (hk4.cell (o := 0) hbr3 id).trans sb'
              have y1 := (hk4.cell (o := off + k * 3) hbl3 id).trans a0'
              have y2 := (hk4.cell (o := off + k * 3 + 1) hbl3 id).trans a1'
              have y3 := (hk4.cell (o := off + k * 3 + 2) hbl3 id).trans a2'
              have y4 := (hk4.cell (o := k) hg23 id).trans d2'))
        have HK4 := zB (((zA HK3).trans (Wp.refl _ w3).drew).trans hk4)
        have HR4 := zB (((zA HR3).keepF (Wp.refl _ w3).drew).keepF hk4)
        obtain ⟨e1b, e2b⟩ := (zA HR4).cell (show (hv ++ [(rz, sz)])[p]? = some (rz, sz) by rw [List.getElem?_append_right (by omega), hlen, Nat.sub_self]; rfl)
        obtain ⟨fz1, fz2⟩ := (zA HR4).frozen p
        simp only at e1b e2b
        rw [zA HE1] at e2b
        clear hk4 HQ y0 y1 y2 y3 y4 a0' a1' a2' d2' e1' e2' sb' HQF
        have HPUT := zB ((zA HR4).put hlen st')
        have HKPUT := zB ((zA HK4).then (keeps_two w4 g1 g2 p (.bool true) (str (st'.map letR))) (fun i hi q => by omega))
        rw [zA HE2] at HPUT HKPUT
        cases rz with
        | false =>
         have HN : Hid (pullB S l hv p (k + 1) = some (true, st')) := by show _ = _; rw [(zA HON) trivial]; simp
         clear HON HBY
         go_wp2_with fail
         go_roundw
         case rel => exact ⟨k + 1, true, st', by omega, by go_num, HN, zA HPUT, ⟨hst16, zA HSK⟩, zA HKPUT⟩
         case measure => simp [intOf]; omega
        | true =>
         by_cases heq : sz = st'
         ·have HN : Hid (pullB S l hv p (k + 1) = some (true, st')) := by show _ = _; rw [(zA HON) trivial]; simp [heq]
          have hqq : q1 = q2 := by rw [← zA HE1, ← zA HE2, heq]
          clear HON HBY heq
          rw [hqq] at e2b
          clear hqq
          go_wp2_with fail
          go_roundw
          case rel => exact ⟨k + 1, true, st', by omega, by go_num, HN, zA HPUT, ⟨hst16, zA HSK⟩, zA HKPUT⟩
          case measure => simp [intOf]; omega
         ·have bqq : (!q1 == q2) = true := by
           have hne : ¬ q1 = q2 := fun q => heq (map_letR_inj (zA HZ).2 (zA HSK) (by rw [zA HE1, zA HE2]; exact q))
           simpa using hne
          have HN : Hid (pullB S l hv p (k + 1) = none) := by show _ = _; rw [(zA HON) trivial]; simp [heq]
          have HE : Hid (R = (none, p, 112)) := by
           show _ = _
           rw [zA HS1, pullA_bad hple]
           have := pullB_none (n := p - (k + 1)) (zA HN)
           rwa [show k + 1 + (p - (k + 1)) = p by omega] at this
          clear HON HBY heq HN
          go_wp2_with fail
          go_ret3
          rw [zA HE]
          exact ⟨_, _, _, rfl, ⟨rfl, rfl, rfl⟩, (zA HB).trans (zA HK4)⟩
     ·have HPP : Hid (pullB S l hv p p = some (rz, sz)) := by have := zA HP; rwa [show k = p by omega] at this
      have inlt : ¬ (k : Int) < (p : Int) := by omega
      have HNH := zB (show (hv ++ [(rz, sz)]) ≠ [] by simp)
      have hln : (hv ++ [(rz, sz)]).length = p + 1 := by simp [hlen]
      clear HP hrow hkp hzp hlt
      cases rz with
      | false =>
       have HGN := zB ((zA HG).snoc (z := (false, sz)) (zA HZ) (fun st q => by cases q))
       have HE : Hid (if p + 1 ≤ l.length then R = pullA S l (p + 1) (l.drop (p + 1)) (hv ++ [(false, sz)]) else R = (some (hv ++ [(false, sz)]), 0, 0)) := by
        by_cases hpl : p + 1 ≤ l.length
        ·show ite _ _ _
         rw [if_pos hpl, zA HS1, pullA_at (List.getElem?_eq_getElem (show p < l.length by omega)), zA HPP]
         simp
        ·show ite _ _ _
         rw [if_neg hpl, zA HS1, show p = l.length by omega, List.drop_length, pullA_nil]
         have := zA HPP
         rw [show p = l.length by omega] at this
         rw [this]
         simp
       go_wp2_with fail
       go_roundw
       case rel => exact ⟨p + 1, hv ++ [(false, sz)], by omega, by go_num, hln, HE, by rw [rowsP_of (zA HNH), hln, hN]; exact zA HRR, fun _ => zA HGN, zA HKK⟩
       case measure => simp [intOf]; omega
      | true =>
       by_cases hend : p = l.length
       ·have ieq : ((p : Int) == (l.length : Int)) = true := by simp; omega
        have inl : ¬ (p : Int) < (l.length : Int) := by omega
        have HD : Hid (R = if (true = true ∧ sz ≠ []) then (none, p, 112) else (some (hv ++ [(true, sz)]), 0, 0)) := by
         show _ = _
         have hq := zA HPP
         rw [zA HS1, show l.drop p = [] by rw [hend, List.drop_length], pullA_nil, hq]
        by_cases hsz : sz = []
        ·have HE : Hid (R = (some (hv ++ [(true, sz)]), 0, 0)) := by show _ = _; rw [zA HD, if_neg (fun q => q.2 hsz)]
         have hqe : sz.map letR = [] := by rw [hsz]; rfl
         rw [hqe] at e2
         clear hsz HD hqe hend
         go_wp2_with fail
         go_roundw
         case rel => exact ⟨p + 1, hv ++ [(true, sz)], by omega, by go_num, hln, by show ite _ _ _; rw [if_neg (by omega)]; exact zA HE, by rw [rowsP_of (zA HNH), hln, hN]; exact zA HRR, fun q => absurd q (by omega), zA HKK⟩
         case measure => simp [intOf]; omega
        ·have HE : Hid (R = (none, p, 112)) := by show _ = _; rw [zA HD, if_pos ⟨rfl, hsz⟩]
         obtain ⟨q1, hq1⟩ : ∃ q1, sz.map letR = q1 := ⟨_, rfl⟩
         have hqn : ¬ q1 = [] := by rw [← hq1]; simpa using hsz
         rw [hq1] at e2
         clear hsz HD hq1 hend
         cases q1 with
         | nil => exact absurd rfl hqn
         | cons c0 r0 =>
          go_wp2_with fail
          go_ret3
          rw [zA HE]
          exact ⟨_, _, _, rfl, ⟨rfl, rfl, rfl⟩, (zA HB).trans (zA HKK)⟩
       ·have ieq : ((p : Int) == (l.length : Int)) = false := by simp; omega
        have inl : (p : Int) < (l.length : Int) := by omega
        obtain ⟨x, hx⟩ : ∃ x, l[p]? = some x := ⟨_, List.getElem?_eq_getElem (by omega)⟩
        obtain ⟨hxf, hxr⟩ := (zA HF) x (List.mem_of_getElem? hx)
        have HBR := zB ((behR_behB S x sz hxf (zA HZ).2 (fun q => fldT_isK (zA HKI) hxf hxr (Or.inl q))).1)
        obtain ⟨b, off, c, ee, hbl, hc⟩ := (zA HV).cells (by omega)
        simp at ee
        obtain ⟨rfl, rfl⟩ := ee
        have a0 := ((zA HKK).cell hbl id).trans (hc p x hx).1
        have a1 := ((zA HKK).cell hbl id).trans (hc p x hx).2.1
        have a2 := ((zA HKK).cell hbl id).trans (hc p x hx).2.2
        have hbl' : b < wr.heap.size := Nat.lt_of_lt_of_le hbl (zA HKK).size
        have HQ := zB (behindR_v S so sc x (sz.map letR) wr.drew ((zA HS).keepF ((zA HKK).trans (Wp.refl _ wr).drew)) hxf hxr (by rw [List.length_map]; have := (zA HZ).1; omega))
        have HAT := zB (pullA_at (S := S) (hv := hv) hx)
        rw [zA HPP] at HAT
        simp only [true_and] at HAT
        have hxl := (List.getElem?_eq_some_iff.1 hx).1
        have HGN := zB (fun st' (q : behB S x sz = some st') => (zA HG).snoc (z := (true, sz)) (zA HZ) (fun st e => ⟨x, st', by rw [hlen]; exact hx, by cases e; exact q⟩))
        rw [zA HBR] at HQ
        generalize behB S x sz = BE at *
        obtain ⟨q1, hq1⟩ : ∃ q1, sz.map letR = q1 := ⟨_, rfl⟩
        rw [hq1] at HQ e2
        generalize (behR S x q1).1 = BT at *
        clear hq1 HBR
        obtain ⟨xk, xn, xs⟩ := x
        unfold ValA.v at HQ
        simp only at *
        clear hc hx hxf hxr hend
        go_wp2_with fail
        go_region_held3 (fun w' => w'.cell? ⟨w.heap.size, 0, none⟩ = some (.slice so S.length sc) ∧ w'.cell? ⟨b, off + p * 3, none⟩ = some (.int .i64 xk) ∧ w'.cell? ⟨b, off + p * 3 + 1, none⟩ = some (.int .i64 xn) ∧ w'.cell? ⟨b, off + p * 3 + 2, none⟩ = some (str xs) ∧ w'.cell? ⟨g2, p, none⟩ = some (str q1))
         (go_keep)
         (first
           | (go_at_call 86
              refine (zA HQ).mono ?_
              rintro e w4 ⟨rfl, hk4⟩
              have y0 := (hk4.cell (o := 0) hbr id).trans sb
              have y1 := (hk4.cell (o := off + p * 3) hbl' id).trans a0
              have y2 := (hk4.cell (o := off + p * 3 + 1) hbl' id).trans a1
              have y3 := (hk4.cell (o := off + p * 3 + 2) hbl' id).trans a2
              have y4 := (hk4.cell (o := p) hg2l id).trans e2))
        have HK4 := zB (((zA HKK).trans (Wp.refl _ wr).drew).trans hk4)
        have HR4 := zB (((zA HRR).keepF (Wp.refl _ wr).drew).keepF hk4)
        clear hk4 HQ y0 y1 y2 y3 y4 a0 a1 a2 e1 e2 sb
        cases BE with
        | none =>
         have HE : Hid (R = (none, p, 112)) := by show _ = _; rw [zA HS1, zA HAT]; simp
         clear HAT HGN
         simp only [Option.isSome_none]
         go_wp2_with fail
         go_ret3
         rw [zA HE]
         exact ⟨_, _, _, rfl, ⟨rfl, rfl, rfl⟩, (zA HB).trans (zA HK4)⟩
        | some st' =>
         have HE : Hid (R = pullA S l (p + 1) (l.drop (p + 1)) (hv ++ [(true, sz)])) := by show _ = _; rw [zA HS1, zA HAT]; simp
         have HGM := zB ((zA HGN) st' rfl)
         clear HAT HGN
         simp only [Option.isSome_some]
         go_wp2_with fail
         go_roundw
         case rel => exact ⟨p + 1, hv ++ [(true, sz)], by omega, by go_num, hln, by show ite _ _ _; rw [if_pos (by omega)]; exact zA HE, by rw [rowsP_of (zA HNH), hln, hN]; exact zA HR4, fun _ => zA HGM, zA HK4⟩
         case measure => simp [intOf]; omega
  ·have ile : ¬ (p : Int) ≤ (l.length : Int) := by omega
   have hne : hv ≠ [] := fun q => by rw [q] at hlen; simp at hlen; omega
   have HE : Hid (R = (some hv, 0, 0)) := by have := zA HS0; rwa [if_neg hple] at this
   rw [rowsP_of hne, hlen] at HRW0
   obtain ⟨g1, c1, g2, c2, rfl, rfl⟩ := (zA HRW0).form (by omega)
   clear HS0 HG0 hple
   go_wp2_with fail
   go_ret3
   rw [zA HE]
   refine ⟨_, _, _, rfl, ⟨rfl, ?_, ?_⟩, (zA HB).trans (zA HKP0)⟩
   ·rw [hlen]; exact ownsRow_lower (zA HRW0).bs (Nat.zero_le _)
   ·rw [hlen]; exact ownsRow_lower (zA HRW0).ss (Nat.zero_le _)
set_option maxHeartbeats 2000000
theorem pullA_tells (S : List Wq) (l : List ValA) : ∀ (rest : List ValA) (k : Nat) (hv : List (Bool × List Int)), (∃ k', pullA S l k rest hv = (none, k', 112)) ∨ ∃ hv', pullA S l k rest hv = (some hv', 0, 0) ∧ hv'.length = hv.length + rest.length + 1
 | [], k, hv => by
  rw [pullA_nil]
  cases pullB S l hv k k with
  | none => exact Or.inl ⟨_, rfl⟩
  | some z =>
   simp only
   split
   ·exact Or.inl ⟨_, rfl⟩
   ·exact Or.inr ⟨_, rfl, by simp⟩
 | x :: rest, k, hv => by
  rw [pullA_cons]
  cases pullB S l hv k k with
  | none => exact Or.inl ⟨_, rfl⟩
  | some z =>
   simp only
   split
   ·exact Or.inl ⟨_, rfl⟩
   ·rcases pullA_tells S l rest (k + 1) (hv ++ [z]) with h | ⟨hv', h, h2⟩
    ·exact Or.inl h
    ·exact Or.inr ⟨hv', h, by rw [h2]; simp; omega⟩
def deepH (hv : List (Bool × List Int)) : Nat := hv.foldl (fun d z => max d z.2.length) 0
theorem deepH_snoc {hv : List (Bool × List Int)} {k : Nat} {z : Bool × List Int} (h : hv[k]? = some z) : deepH (hv.take (k + 1)) = max (deepH (hv.take k)) z.2.length := by
 rw [take_snoc hv k z h]
 unfold deepH
 rw [List.foldl_append]
 rfl
theorem deepH_map (ps : List PlA) : deepH (ps.map pairP) = deepA ps := by
 unfold deepH deepA
 rw [List.foldl_map]
 rfl
def refA (S : List Wq) (l : List ValA) : Nat × Nat × Int :=
 if (soundA S l).2 ≠ 0 then (0, soundA S l) else (((pullA S l 0 l []).1.map deepH).getD 0, (pullA S l 0 l []).2)
theorem startA_get (S : List Wq) (l : List ValA) (t : Nat) (ht : t ≤ l.length) : (startA l)[t]? = some (pushB S l [] t 0) := by
 unfold startA
 rw [bringAt_get (P := plZ) (by rw [List.getElem?_replicate, if_pos (by omega)]), pushB]
 by_cases h : t = 0
 ·subst h; rfl
 ·rw [if_neg (fun q => h q.symm), if_neg h]
theorem verify_ref (S : List Wq) (l : List ValA) : verifyA S l = refA S l := by
 unfold verifyA refA lookA soundA
 by_cases h1 : errS S = 0
 ·rw [if_neg (show ¬ errS S ≠ 0 from fun q => q h1), if_neg (show ¬ errS S ≠ 0 from fun q => q h1)]
  by_cases h2 : (checkI S l).2 = 0
  ·rw [if_neg (show ¬ (checkI S l).2 ≠ 0 from fun q => q h2), if_neg (show ¬ (checkI S l).2 ≠ 0 from fun q => q h2)]
   by_cases h3 : (checkT l).2 = 0
   ·rw [if_neg (show ¬ (checkT l).2 ≠ 0 from fun q => q h3), if_neg (show ¬ (checkT l).2 ≠ 0 from fun q => q h3)]
    obtain ⟨hl, hF⟩ := checkI_zero h2
    obtain ⟨ha, hb⟩ := run_pull S l (fun i hi => (opd_kind _ (op_cases (formB_zero (hF i hi).1).1)).2.2.1) l 0 [] (startA l) rfl (Nat.zero_le _) rfl (by unfold startA; rw [bringAt_length, List.length_replicate]) (fun t ht => startA_get S l t ht) (fun j hj => absurd hj (Nat.not_lt_zero _))
    rw [ha, ← hb, Option.map_map]
    congr 2
    cases (runA S 0 l (startA l)).1 with
    | none => rfl
    | some ps => simp [deepH_map]
   ·rw [if_pos h3, if_pos h3]; rfl
  ·rw [if_pos h2, if_pos h2, if_pos h2]; rfl
 ·rw [if_pos h1, if_pos h1]
  simp
theorem refVerify_v (S : List Wq) (so : Option Addr) (sc : Nat) (l : List ValA) (v : Value) (w : World) (hS : Wt w (.slice so S.length sc) S) (h : Wr w v l) (hI : InR l) :
  Calls Tryz.prog 40 #[.agg #[.slice so S.length sc], v] w fun e w' => e = .returned (.tuple #[.int .i64 ((refA S l).1 : Int), .int .i64 ((refA S l).2.1 : Int), .int .i64 (refA S l).2.2]) ∧ Wp (fun _ => False) w w' := by
 obtain ⟨ao, cap, rfl⟩ := Ws.form h
 obtain ⟨HB, hbb, hbc⟩ := boxed w #[.slice so S.length sc] 24
 have s0 := hbc 0 (.slice so S.length sc) rfl
 have HQ := zB (sound_v S so sc l _ _ (hS.keepF (zA HB)) (h.keepF (zA HB)) hI)
 have HS := zB (hS.keepF (zA HB))
 have HV := zB (h.keepF (zA HB))
 have HL : Hid (refA S l = if (soundA S l).2 ≠ 0 then (0, soundA S l) else (((pullA S l 0 l []).1.map deepH).getD 0, (pullA S l 0 l []).2)) := rfl
 have HSO : Hid ((soundA S l).2 = 0 → (l.length ≤ 96 ∧ ∀ i ∈ l, formB i = 0 ∧ rightF S i = true) ∧ ∀ f ∈ S, isK f.type) := by
  intro hz
  unfold soundA at hz
  by_cases h1 : errS S = 0
  ·rw [if_neg (show ¬ errS S ≠ 0 from fun q => q h1)] at hz
   refine ⟨?_, schema_isK h1⟩
   by_cases h2 : (checkI S l).2 = 0
   ·exact checkI_zero h2
   ·rw [if_pos h2] at hz; exact absurd hz h2
  ·rw [if_pos h1] at hz; cases hz
 generalize refA S l = V at *
 generalize soundA S l = R at *
 generalize hWb : w.alloc (.cells #[.slice so S.length sc] 24) = Wb at *
 obtain ⟨ra, re⟩ := R
 simp only at *
 clear hbc h hS hI
 go_enter Tryz.func40, Tryz.ntmps40
 go_wp2_with fail
 refine (zA HQ).mono ?_
 rintro e w1 ⟨rfl, hk1⟩
 have HK1 := zB ((zA HB).trans hk1)
 have s1 := (hk1.cell hbb id).trans s0
 have HS1 := zB ((zA HS).keepF hk1)
 have HV1 := zB ((zA HV).keepF hk1)
 clear hk1 HQ HS HV
 by_cases hre : re = 0
 ·obtain ⟨⟨hl, hF⟩, hK⟩ := (zA HSO) hre
  rw [if_neg (show ¬ re ≠ 0 from fun q => q hre)] at HL
  have HQ := zB (stacks_v S so sc l _ w1 (zA HS1) (zA HV1) hl hK hF)
  have HT := zB (pullA_tells S l l 0 [])
  generalize pullA S l 0 l [] = PA at *
  subst hre
  clear HSO hF hK HS1 HV1
  go_wp2_with fail
  refine (zA HQ).mono ?_
  rintro e w2 ⟨vb, vs, bad, rfl, hst, hk2⟩
  have HK2 := zB ((zA HK1).trans hk2)
  clear hk2 HQ
  rcases zA HT with ⟨k', rfl⟩ | ⟨hv, rfl, hvl⟩
  ·obtain ⟨rfl, rfl, rfl⟩ := hst
   have HE : Hid (V = (0, k', 112)) := zA HL
   have i1 : (0 : Int) ≤ (k' : Int) := by omega
   clear HL HT
   go_wp2_with fail
   go_ret3
   rw [zA HE]
   exact ⟨rfl, zA HK2⟩
  ·obtain ⟨rfl, ho1, ho2⟩ := hst
   have HE : Hid (V = (deepH hv, 0, 0)) := zA HL
   simp only [List.length_nil, Nat.zero_add] at hvl
   have hpos : 0 < hv.length := by omega
   obtain ⟨g1, c1, rfl, _, _⟩ := World.ownsRow.form ho1 hpos
   obtain ⟨g2, c2, rfl, _, hg2⟩ := World.ownsRow.form ho2 hpos
   have HO2 := zB ho2
   have hN : (hv.length : Int) ≤ 97 := by omega
   clear HL HT ho1 ho2 hvl
   go_wp2_with fail
   go_loopw [12, 13] (fun d i wr => ∃ k : Nat, k ≤ hv.length ∧ i = .int .i64 k ∧ d = .int .i64 ((deepH (hv.take k) : Nat) : Int) ∧ wr = w2) (fun d i _ => hv.length - (intOf i).toNat)
   case atStart => exact ⟨0, Nat.zero_le _, rfl, rfl, rfl⟩
   case round =>
    obtain ⟨k, hk, rfl, rfl, rfl⟩ := hrel
    by_cases hlt : k < hv.length
    ·obtain ⟨z, hz⟩ : ∃ z, hv[k]? = some z := ⟨_, List.getElem?_eq_getElem hlt⟩
     have c0 := ((zA HO2).cellAt k (by omega)).trans (rss_get hz)
     have HD := zB (deepH_snoc hz)
     have hll : (z.2.map letR).length = z.2.length := List.length_map ..
     generalize z.2.map letR = q at *
     generalize z.2.length = ZL at *
     have i2 : (k : Int) < (hv.length : Int) := by omega
     have i0' : (0 : Int) ≤ (k : Int) := by omega
     generalize deepH (hv.take k) = D at *
     clear hz
     by_cases hd : D < ZL
     ·have id1 : (D : Int) < (ZL : Int) := by omega
      clear hd
      go_wp2_with fail
      go_roundw
      case rel => exact ⟨k + 1, by omega, by go_num, by rw [zA HD]; congr 1; omega, by first | rfl | trivial⟩
      case measure => simp [intOf]; omega
     ·have id1 : ¬ (D : Int) < (ZL : Int) := by omega
      clear hd
      go_wp2_with fail
      go_roundw
      case rel => exact ⟨k + 1, by omega, by go_num, by rw [zA HD]; congr 1; omega, by first | rfl | trivial⟩
      case measure => simp [intOf]; omega
    ·obtain rfl : k = hv.length := by omega
     have i2 : ¬ (hv.length : Int) < (hv.length : Int) := by omega
     rw [List.take_length]
     clear hlt
     go_wp2_with fail
     go_ret3
     rw [zA HE]
     exact ⟨rfl, zA HK2⟩
 ·have bre : (re != 0) = true := by rw [bne_iff_ne]; exact hre
  rw [if_pos hre] at HL
  have HE : Hid (V = (0, ra, re)) := zA HL
  clear HL hre HSO
  go_wp2_with fail
  go_ret3
  rw [zA HE]
  exact ⟨rfl, zA HK1⟩
end Go.Proofs.YtbdlcaamanhapaaGreatDoor
namespace Go.Proofs.YtbdlcaamanhapaaGreatDoor
open Go.RowKit Go.Maps
theorem brings_more {S : List Wq} {l : List ValA} {hv : List (Bool × List Int)} {z : Bool × List Int} {i t : Nat} (h : i < hv.length) : bringsB S l (hv ++ [z]) i t = bringsB S l hv i t := by
 unfold bringsB
 rw [List.getElem?_append_left h]
theorem pull_more (S : List Wq) (l : List ValA) (hv : List (Bool × List Int)) (z : Bool × List Int) (t : Nat) : ∀ k, k ≤ hv.length → pullB S l (hv ++ [z]) t k = pullB S l hv t k
 | 0, _ => rfl
 | k + 1, h => by rw [pullB, pullB, brings_more (by omega), pull_more S l hv z t k (by omega)]
theorem pull_brought {S : List Wq} {l : List ValA} {hv : List (Bool × List Int)} {t : Nat} : ∀ {k : Nat} {z : Bool × List Int}, pullB S l hv t k = some z → ∀ i st, i < k → bringsB S l hv i t = some st → z = (true, st)
 | 0, _, _, _, _, hi, _ => absurd hi (Nat.not_lt_zero _)
 | k + 1, z, h, i, st, hi, hb => by
  rw [pullB] at h
  cases hp : pullB S l hv t k with
  | none => rw [hp] at h; cases h
  | some y =>
   obtain ⟨r, s0⟩ := y
   rw [hp] at h
   by_cases hik : i = k
   ·subst hik
    rw [hb] at h
    simp only at h
    split at h
    ·cases h
    ·cases h; rfl
   ·have ih := pull_brought hp i st (by omega) hb
    cases ih
    cases hbk : bringsB S l hv k t with
    | none => rw [hbk] at h; cases h; rfl
    | some st2 =>
     rw [hbk] at h
     simp only [true_and] at h
     by_cases he : st = st2
     ·subst he; simp at h; exact h.symm
     ·rw [if_pos he] at h; cases h
structure HvOK (S : List Wq) (l : List ValA) (hv : List (Bool × List Int)) : Prop where
 len : hv.length = l.length + 1
 small : ∀ (k : Nat) (z : Bool × List Int), hv[k]? = some z → z.2.length ≤ 16 ∧ ∀ k ∈ z.2, isK k
 beh : ∀ (k : Nat) (st : List Int), k < l.length → hv[k]? = some (true, st) → ∃ x st', l[k]? = some x ∧ behB S x st = some st'
 pull : ∀ (j : Nat) (z : Bool × List Int), hv[j]? = some z → pullB S l hv j j = some z
 last : ∀ st, hv[l.length]? = some (true, st) → st = []
theorem brings_small {S : List Wq} {l : List ValA} {hv : List (Bool × List Int)} {i t : Nat} {st : List Int} (hS : ∀ f ∈ S, isK f.type) (hF : ∀ i ∈ l, formB i = 0 ∧ rightF S i = true) (hg : ∀ (k : Nat) (z : Bool × List Int), hv[k]? = some z → z.2.length ≤ 16 ∧ ∀ k ∈ z.2, isK k) (h : bringsB S l hv i t = some st) : st.length ≤ 16 ∧ ∀ k ∈ st, isK k := by
 unfold bringsB at h
 split at h
 ·rename_i s0 x h1 h2
  split at h
  ·obtain ⟨hf, hr⟩ := hF x (List.mem_of_getElem? h2)
   exact ⟨behB_le h, behB_isK hS hf hr (hg i _ h1).2 h⟩
  ·cases h
 ·cases h
theorem pull_small {S : List Wq} {l : List ValA} {hv : List (Bool × List Int)} {t : Nat} (hS : ∀ f ∈ S, isK f.type) (hF : ∀ i ∈ l, formB i = 0 ∧ rightF S i = true) (hg : ∀ (k : Nat) (z : Bool × List Int), hv[k]? = some z → z.2.length ≤ 16 ∧ ∀ k ∈ z.2, isK k) : ∀ {k : Nat} {z : Bool × List Int}, pullB S l hv t k = some z → z.2.length ≤ 16 ∧ ∀ k ∈ z.2, isK k
 | 0, z, h => by rw [pullB] at h; cases h; exact ⟨Nat.zero_le _, fun _ q => by cases q⟩
 | k + 1, z, h => by
  rw [pullB] at h
  cases hp : pullB S l hv t k with
  | none => rw [hp] at h; cases h
  | some y =>
   obtain ⟨r, s0⟩ := y
   rw [hp] at h
   cases hbk : bringsB S l hv k t with
   | none => rw [hbk] at h; cases h; exact pull_small hS hF hg hp
   | some st2 =>
    rw [hbk] at h
    simp only at h
    split at h
    ·cases h
    ·cases h; exact brings_small hS hF hg hbk
theorem snoc_all {α : Type} {P : Nat → α → Prop} {hv : List α} {z : α} (h : ∀ k y, hv[k]? = some y → P k y) (hz : P hv.length z) : ∀ k y, (hv ++ [z])[k]? = some y → P k y := by
 intro k y hy
 by_cases hk : k < hv.length
 ·rw [List.getElem?_append_left hk] at hy; exact h k y hy
 ·rw [List.getElem?_append_right (by omega)] at hy
  cases hj : k - hv.length with
  | zero =>
   rw [hj] at hy
   simp at hy
   subst hy
   rwa [show k = hv.length by omega]
  | succ j => rw [hj] at hy; simp at hy
theorem pullA_ok {S : List Wq} {l : List ValA} (hS : ∀ f ∈ S, isK f.type) (hF : ∀ i ∈ l, formB i = 0 ∧ rightF S i = true) : ∀ (rest : List ValA) (k : Nat) (hv hv' : List (Bool × List Int)), rest = l.drop k → k ≤ l.length → hv.length = k →
  (∀ (k : Nat) (z : Bool × List Int), hv[k]? = some z → z.2.length ≤ 16 ∧ ∀ k ∈ z.2, isK k) → (∀ (k : Nat) (st : List Int), hv[k]? = some (true, st) → ∃ x st', l[k]? = some x ∧ behB S x st = some st') → (∀ (j : Nat) (z : Bool × List Int), hv[j]? = some z → pullB S l hv j j = some z) →
  pullA S l k rest hv = (some hv', 0, 0) → HvOK S l hv'
 | [], k, hv, hv', hr, hkl, hlen, hsm, hbe, hpl, h => by
  have hk : k = l.length := by
   have := congrArg List.length hr
   rw [List.length_drop] at this
   simp at this
   omega
  rw [pullA_nil] at h
  cases hp : pullB S l hv k k with
  | none => rw [hp] at h; cases h
  | some z =>
   rw [hp] at h
   simp only at h
   split at h
   ·cases h
   ·rename_i hz
    cases h
    have hz2 := pull_small hS hF hsm hp
    refine ⟨by simp; omega, snoc_all hsm hz2, ?_, ?_, ?_⟩
    ·intro j st hj hy
     rw [List.getElem?_append_left (by omega)] at hy
     exact hbe j st hy
    ·refine snoc_all (P := fun j y => pullB S l (hv ++ [z]) j j = some y) (fun j y hy => ?_) ?_
     ·have := (List.getElem?_eq_some_iff.1 hy).1
      rw [pull_more S l hv z j j (by omega)]; exact hpl j y hy
     ·rw [pull_more S l hv z _ _ (Nat.le_refl _), hlen]; exact hp
    ·intro st hst
     rw [← hk, List.getElem?_append_right (by omega), hlen, Nat.sub_self] at hst
     simp at hst
     subst hst
     by_cases hs : st = []
     ·exact hs
     ·exact absurd ⟨rfl, hs⟩ hz
 | x :: rest, k, hv, hv', hr, hkl, hlen, hsm, hbe, hpl, h => by
  have hkl' : k < l.length := by
   have := congrArg List.length hr
   rw [List.length_drop] at this
   simp at this
   omega
  have hx : l[k]? = some x ∧ rest = l.drop (k + 1) := by
   rw [List.drop_eq_getElem_cons hkl'] at hr
   simp only [List.cons.injEq] at hr
   exact ⟨by rw [List.getElem?_eq_getElem hkl', hr.1], hr.2⟩
  obtain ⟨hxk, hrest⟩ := hx
  rw [pullA_cons] at h
  cases hp : pullB S l hv k k with
  | none => rw [hp] at h; cases h
  | some z =>
   rw [hp] at h
   simp only at h
   split at h
   ·cases h
   ·rename_i hz
    have hz2 := pull_small hS hF hsm hp
    refine pullA_ok hS hF rest (k + 1) (hv ++ [z]) hv' hrest hkl' (by simp [hlen]) (snoc_all hsm hz2) ?_ ?_ h
    ·intro j st hy
     refine snoc_all (P := fun j y => ∀ st, y = (true, st) → ∃ x st', l[j]? = some x ∧ behB S x st = some st') (fun j y hy st e => hbe j st (e ▸ hy)) (fun st e => ?_) j _ hy st rfl
     subst e
     rw [hlen]
     cases hb : behB S x st with
     | none => exact absurd ⟨rfl, hb⟩ hz
     | some st' => exact ⟨x, st', hxk, hb⟩
    ·refine snoc_all (P := fun j y => pullB S l (hv ++ [z]) j j = some y) (fun j y hy => ?_) ?_
     ·have := (List.getElem?_eq_some_iff.1 hy).1
      rw [pull_more S l hv z j j (by omega)]; exact hpl j y hy
     ·rw [pull_more S l hv z _ _ (Nat.le_refl _), hlen]; exact hp
theorem pullA_first {S : List Wq} {l : List ValA} {hv : List (Bool × List Int)} (h : HvOK S l hv) : hv[0]? = some (true, []) := by
 have h0 : 0 < hv.length := by rw [h.len]; omega
 have := h.pull 0 _ (List.getElem?_eq_getElem h0)
 rw [pullB] at this
 rw [List.getElem?_eq_getElem h0, ← this]
 rfl
theorem HvOK.next {S : List Wq} {l : List ValA} {hv : List (Bool × List Int)} (h : HvOK S l hv) {k t : Nat} {x : ValA} {st st' : List Int} (hk : hv[k]? = some (true, st)) (hx : l[k]? = some x) (hb : behB S x st = some st') (hl : leadsB k x t = true) (ht : t ≤ l.length) : hv[t]? = some (true, st') := by
 have hkt : k < t := by
  unfold leadsB at hl
  simp at hl
  omega
 have h0 : t < hv.length := by rw [h.len]; omega
 have hz := List.getElem?_eq_getElem h0
 have hp := h.pull t _ hz
 have hbr : bringsB S l hv k t = some st' := by
  unfold bringsB
  rw [hk, hx]
  simp [hl, hb]
 rw [hz, pull_brought hp k st' hkt hbr]
theorem deepH_le {hv : List (Bool × List Int)} {k : Nat} {z : Bool × List Int} (h : hv[k]? = some z) : z.2.length ≤ deepH hv := by
 have key : ∀ (l : List (Bool × List Int)) (d : Nat), d ≤ l.foldl (fun d z => max d z.2.length) d ∧ ∀ z ∈ l, z.2.length ≤ l.foldl (fun d z => max d z.2.length) d := by
  intro l
  induction l with
  | nil => intro d; exact ⟨Nat.le_refl _, fun z hz => by cases hz⟩
  | cons a r ih =>
   intro d
   have := ih (max d a.2.length)
   refine ⟨Nat.le_trans (Nat.le_max_left _ _) this.1, fun z hz => ?_⟩
   rcases List.mem_cons.1 hz with rfl | hz
   ·exact Nat.le_trans (Nat.le_max_right _ _) this.1
   ·exact this.2 z hz
 exact (key hv 0).2 z (List.mem_of_getElem? h)
def rowK (st : List Int) (k : Nat) : List Value := ((st.take k).map fun x => Value.int .u8 (num (letR x))) ++ List.replicate (st.length - k) (.int .u8 0)
theorem rowK_length {st : List Int} {k : Nat} (h : k ≤ st.length) : (rowK st k).length = st.length := by simp [rowK]; omega
theorem rowK_set {st : List Int} {k : Nat} {x : Int} (h : st[k]? = some x) : (rowK st k).set k (.int .u8 (num (letR x))) = rowK st (k + 1) := by
 have hk := (List.getElem?_eq_some_iff.1 h).1
 unfold rowK
 rw [take_snoc st k x h, show st.length - k = (st.length - (k + 1)) + 1 by omega, List.replicate_succ]
 rw [List.set_append_right _ _ (by simp; omega)]
 simp [Nat.min_eq_left (Nat.le_of_lt hk)]
theorem rowK_end (st : List Int) : rowK st st.length = bs (st.map letR) := by
 unfold rowK
 rw [Nat.sub_self, List.take_length]
 simp [bs]
end Go.Proofs.YtbdlcaamanhapaaGreatDoor
