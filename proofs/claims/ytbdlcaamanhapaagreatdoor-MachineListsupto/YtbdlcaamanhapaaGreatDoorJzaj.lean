import Derived.Test.YtbdlcaamanhapaaGreatDoorJzai
namespace Go.Proofs.YtbdlcaamanhapaaGreatDoor
open Go.RowKit Go.Maps
set_option maxRecDepth 100000
set_option maxHeartbeats 2000000
def fitE (S : List Wq) (i : ValA) : Int := if formB i ≠ 0 then formB i else if rightF S i = false then 113 else 0
theorem opd_kind : ∀ o ∈ ([1, 2, 3, 4, 5, 6, 7, 8, 9, 10, 11, 12, 13, 14, 15, 16, 17, 18, 19, 20, 21, 22, 23, 24, 25, 26] : List Int), ((opA o).opd = 4 ↔ (o = 6 ∨ o = 22)) ∧ ((opA o).opd = 5 ↔ o = 21) ∧ ((opA o).opd = 6 ↔ (o = 25 ∨ o = 26)) ∧ (opdB o = 3 ↔ ((opA o).opd = 3 ∨ (opA o).opd = 4 ∨ (opA o).opd = 5)) ∧ (opdB o = 4 ↔ (opA o).opd = 6) := by decide
theorem rightF_as {S : List Wq} {i : ValA} (hf : formB i = 0) : rightF S i = if opdB i.kind ≠ 3 then true else if (S.length : Int) ≤ i.n then false else if (i.kind = 6 ∨ i.kind = 22) ∧ ((S[i.n.toNat]?).map Wq.opt).getD false = false then false else if i.kind = 21 ∧ fldT S i ≠ 1 then false else true := by
 obtain ⟨h4, h5, _, h3, _⟩ := opd_kind _ (op_cases (formB_zero hf).1)
 unfold rightF
 by_cases h : opdB i.kind = 3
 ·rw [if_neg (show ¬ opdB i.kind ≠ 3 from fun q => q h)]
  by_cases hn : (S.length : Int) ≤ i.n
  ·rw [if_pos hn, decide_eq_false (show ¬ i.n < (S.length : Int) by omega)]
   rcases h3.1 h with e | e | e <;> simp [e]
  ·rw [if_neg hn, decide_eq_true (show i.n < (S.length : Int) by omega)]
   rcases h3.1 h with e | e | e
   ·have n4 : ¬ (i.kind = 6 ∨ i.kind = 22) := fun q => by have := h4.2 q; omega
    have n5 : ¬ i.kind = 21 := fun q => by have := h5.2 q; omega
    rw [if_pos e, if_neg (fun q => n4 q.1), if_neg (fun q => n5 q.1)]
   ·have n4 := h4.1 e
    have n5 : ¬ i.kind = 21 := by omega
    rw [if_neg (show ¬ (opA i.kind).opd = 3 by omega), if_pos e, if_neg (show ¬ (i.kind = 21 ∧ fldT S i ≠ 1) from fun q => n5 q.1)]
    cases hq : ((S[i.n.toNat]?).map Wq.opt).getD false with
    | false => rw [if_pos ⟨n4, rfl⟩]; rfl
    | true => rw [if_neg (fun q => by cases q.2)]; rfl
   ·have n5 := h5.1 e
    have n4 : ¬ (i.kind = 6 ∨ i.kind = 22) := by omega
    rw [if_neg (show ¬ (opA i.kind).opd = 3 by omega), if_neg (show ¬ (opA i.kind).opd = 4 by omega), if_pos e, if_neg (show ¬ ((i.kind = 6 ∨ i.kind = 22) ∧ ((S[i.n.toNat]?).map Wq.opt).getD false = false) from fun q => n4 q.1)]
    by_cases ht : fldT S i = 1
    ·rw [if_neg (fun q => q.2 ht), decide_eq_true ht]; rfl
    ·rw [if_pos ⟨n5, ht⟩, decide_eq_false ht]; rfl
 ·rw [if_pos (show opdB i.kind ≠ 3 from h)]
  have n3 : ¬ (opA i.kind).opd = 3 := fun q => h (h3.2 (Or.inl q))
  have n4 : ¬ (opA i.kind).opd = 4 := fun q => h (h3.2 (Or.inr (Or.inl q)))
  have n5 : ¬ (opA i.kind).opd = 5 := fun q => h (h3.2 (Or.inr (Or.inr q)))
  rw [if_neg n3, if_neg n4, if_neg n5]
theorem refFits_v (S : List Wq) (so : Option Addr) (sc : Nat) (i : ValA) (w : World) (hS : Wt w (.slice so S.length sc) S) : Calls Tryz.prog 81 #[.agg #[.slice so S.length sc], i.v] w fun e w' => e = .returned (.int .i64 (fitE S i)) ∧ Wp (fun _ => False) w w' := by
 have HE : Hid (fitE S i = if formB i ≠ 0 then formB i else if rightF S i = false then 113 else 0) := rfl
 generalize fitE S i = R at *
 have HR : Hid (formB i = 0 → rightF S i = if opdB i.kind ≠ 3 then true else if (S.length : Int) ≤ i.n then false else if (i.kind = 6 ∨ i.kind = 22) ∧ ((S[i.n.toNat]?).map Wq.opt).getD false = false then false else if i.kind = 21 ∧ fldT S i ≠ 1 then false else true) := fun q => rightF_as q
 have HNF : Hid (formB i = 0 → opdB i.kind = 3 → 0 ≤ i.n) := fun q q3 => (form_field q ((opd_kind _ (op_cases (formB_zero q).1)).2.2.2.1.1 q3)).1
 have HF := zB (fun w' => form_v i w')
 have HO := zB (fun w' => operand_v i.kind w')
 have HT : Hid (fldT S i = ((S[i.n.toNat]?).map Wq.type).getD 0) := rfl
 generalize fldT S i = FT at *
 generalize formB i = FB at *
 generalize rightF S i = RF at *
 obtain ⟨kd, n, s⟩ := i
 unfold ValA.v at *
 simp only at *
 generalize opdB kd = OB at *
 obtain ⟨HX, hxb, hxc⟩ := boxed w #[.slice so S.length sc] 24
 obtain ⟨HY, hyb, hyc⟩ := boxed (w.alloc (.cells #[.slice so S.length sc] 24)) #[.int .i64 kd, .int .i64 n, str s] 60
 have x0 := ((zA HY).cell hxb id).trans (hxc 0 (.slice so S.length sc) rfl)
 have y0 := hyc 0 (.int .i64 kd) rfl
 have y1 := hyc 1 (.int .i64 n) rfl
 have y2 := hyc 2 (str s) rfl
 rw [World.size_alloc] at y0 y1 y2
 have HK := zB ((zA HX).trans (zA HY))
 have HS := zB (hS.keepF (zA HK))
 have hz0 := Nat.lt_of_lt_of_le hxb (zA HY).size
 have hz1 : w.heap.size + 1 < ((w.alloc (.cells #[.slice so S.length sc] 24)).alloc (.cells #[.int .i64 kd, .int .i64 n, str s] 60)).heap.size := by simp
 generalize hW : ((w.alloc (.cells #[.slice so S.length sc] 24)).alloc (.cells #[.int .i64 kd, .int .i64 n, str s] 60)) = W at *
 clear hxc hyc HX HY hxb hyb hS
 go_enter Tryz.func81, Tryz.ntmps81
 go_wp2_with fail
 refine ((zA HF) _).mono ?_
 rintro e w1 ⟨rfl, hk1⟩
 have x1 := (hk1.cell (o := 0) hz0 id).trans x0
 have z0 := (hk1.cell (o := 0) hz1 id).trans y0
 have z1 := (hk1.cell (o := 1) hz1 id).trans y1
 have z2 := (hk1.cell (o := 2) hz1 id).trans y2
 have HK1 := zB ((zA HK).trans hk1)
 have HS1 := zB ((zA HS).keepF hk1)
 have hzz : w.heap.size + 1 < w1.heap.size := Nat.lt_of_lt_of_le hz1 hk1.size
 clear hk1 HF x0 y0 y1 y2 HK HS hz0 hz1 hW
 by_cases hf : FB = 0
 ·subst hf
  have HR2 := zB ((zA HR) rfl)
  have HN2 := zB ((zA HNF) rfl)
  have HE2 : Hid (R = if RF = false then 113 else 0) := zA HE
  clear HE HR HNF
  go_wp2_with fail
  refine ((zA HO) _).mono ?_
  rintro e w2 ⟨rfl, rfl⟩
  by_cases h3 : OB = 3
  ·subst h3
   have n0 := (zA HN2) rfl
   rw [if_neg (by simp)] at HR2
   obtain ⟨p, rfl⟩ := Int.eq_ofNat_of_zero_le n0
   by_cases hn : S.length ≤ p
   ·have j1 : (S.length : Int) ≤ (p : Int) := by omega
    have HZ : Hid (R = 113) := by show _ = _; rw [zA HE2, zA HR2, if_pos j1]; rfl
    clear HR2 HE2
    go_wp2_with fail
    go_ret
    exact ⟨ret_int (zA HZ).symm, zA HK1⟩
   ·have j1 : ¬ (S.length : Int) ≤ (p : Int) := by omega
    have j2 : (p : Int) < (S.length : Int) := by omega
    rw [if_neg j1] at HR2
    obtain ⟨f, hf⟩ : ∃ f, S[p]? = some f := ⟨_, List.getElem?_eq_getElem (by omega)⟩
    obtain ⟨fb, foff, fc, fe, hfb, hfc⟩ := (zA HS1).cells (by omega)
    simp only [Value.slice.injEq] at fe
    obtain ⟨rfl, _, rfl⟩ := fe
    have c0 := (hfc p f hf).1
    have c1 := (hfc p f hf).2.1
    have c2 := (hfc p f hf).2.2
    obtain ⟨HY, hyb, hyc⟩ := boxed w2 #[str f.name, .int .i64 f.type, .bool f.opt] 58
    have d1 := hyc 1 (.int .i64 f.type) rfl
    have d2 := hyc 2 (.bool f.opt) rfl
    have HFT : Hid (FT = f.type) := by show _ = _; rw [zA HT]; simp [hf]
    have HFO : Hid (((S[((p : Nat) : Int).toNat]?).map Wq.opt).getD false = f.opt) := by show _ = _; simp [hf]
    rw [zA HFO, zA HFT] at HR2
    have HKY := zB ((zA HK1).trans (zA HY))
    have y0 := ((zA HY).cell (o := 0) hzz id).trans z0
    generalize f.opt = FO at *
    generalize f.type = TY at *
    clear hfc hf hyc HY HT HFT HFO j1 hn
    by_cases h6 : kd = 6
    ·subst h6
     cases FO with
     | false =>
      have HZ : Hid (R = 113) := by show _ = _; rw [zA HE2, zA HR2]; simp
      clear HR2 HE2
      go_wp2_with fail
      go_ret
      exact ⟨ret_int (zA HZ).symm, zA HKY⟩
     | true =>
      have HZ : Hid (R = 0) := by show _ = _; rw [zA HE2, zA HR2]; simp
      clear HR2 HE2
      go_wp2_with fail
      go_ret
      exact ⟨ret_int (zA HZ).symm, zA HKY⟩
    ·by_cases h22 : kd = 22
     ·subst h22
      cases FO with
      | false =>
       have HZ : Hid (R = 113) := by show _ = _; rw [zA HE2, zA HR2]; simp
       clear HR2 HE2
       go_wp2_with fail
       go_ret
       exact ⟨ret_int (zA HZ).symm, zA HKY⟩
      | true =>
       have HZ : Hid (R = 0) := by show _ = _; rw [zA HE2, zA HR2]; simp
       clear HR2 HE2
       go_wp2_with fail
       go_ret
       exact ⟨ret_int (zA HZ).symm, zA HKY⟩
     ·have b6 : (kd == 6) = false := by simpa using h6
      have b22 : (kd == 22) = false := by simpa using h22
      by_cases h21 : kd = 21
      ·subst h21
       by_cases ht : TY = 1
       ·subst ht
        have HZ : Hid (R = 0) := by show _ = _; rw [zA HE2, zA HR2]; simp
        clear HR2 HE2
        go_wp2_with fail
        go_ret
        exact ⟨ret_int (zA HZ).symm, zA HKY⟩
       ·have bt : (TY != 1) = true := by simpa using ht
        have HZ : Hid (R = 113) := by show _ = _; rw [zA HE2, zA HR2]; simp [ht]
        clear HR2 HE2 ht
        go_wp2_with fail
        go_ret
        exact ⟨ret_int (zA HZ).symm, zA HKY⟩
      ·have b21 : (kd == 21) = false := by simpa using h21
       have HZ : Hid (R = 0) := by show _ = _; rw [zA HE2, zA HR2]; simp [h6, h22, h21]
       clear HR2 HE2 h6 h22 h21
       go_wp2_with fail
       go_ret
       exact ⟨ret_int (zA HZ).symm, zA HKY⟩
  ·have b3 : (OB != 3) = true := by simpa using h3
   have HZ : Hid (R = 0) := by show _ = _; rw [zA HE2, zA HR2, if_pos h3]; rfl
   clear h3 HR2 HE2
   go_wp2_with fail
   go_ret
   exact ⟨ret_int (zA HZ).symm, zA HK1⟩
 ·have bf : (FB != 0) = true := by simpa using hf
  rw [if_pos hf] at HE
  clear hf
  go_wp2_with fail
  go_ret
  exact ⟨ret_int (zA HE).symm, zA HK1⟩
set_option maxHeartbeats 4000000
def soundA (S : List Wq) (l : List ValA) : Nat × Int := if errS S ≠ 0 then (0, 60) else if (checkI S l).2 ≠ 0 then checkI S l else checkT l
theorem fitE_scan {S : List Wq} {l : List ValA} {k : Nat} {x : ValA} (h : l[k]? = some x) : scanI S k (l.drop k) = if fitE S x ≠ 0 then some (k, fitE S x) else scanI S (k + 1) (l.drop (k + 1)) := by
 rw [scanI_drop h]
 unfold fitE
 by_cases h1 : formB x = 0
 ·rw [if_neg (show ¬ formB x ≠ 0 from fun q => q h1), if_neg (show ¬ formB x ≠ 0 from fun q => q h1)]
  cases rightF S x <;> simp
 ·rw [if_pos (show formB x ≠ 0 from h1), if_pos (show formB x ≠ 0 from h1), if_pos h1]
theorem sound_v (S : List Wq) (so : Option Addr) (sc : Nat) (l : List ValA) (v : Value) (w : World) (hS : Wt w (.slice so S.length sc) S) (h : Wr w v l) (hI : InR l) :
  Calls Tryz.prog 55 #[.agg #[.slice so S.length sc], v] w fun e w' => e = .returned (.tuple #[.int .i64 ((soundA S l).1 : Int), .int .i64 (soundA S l).2]) ∧ Wp (fun _ => False) w w' := by
 obtain ⟨ao, cap, rfl⟩ := Ws.form h
 obtain ⟨HB, hbb, hbc⟩ := boxed w #[.slice so S.length sc] 24
 have s0 := hbc 0 (.slice so S.length sc) rfl
 have HS := zB (hS.keepF (zA HB))
 have HV := zB (h.keepF (zA HB))
 have HI := zB hI
 have HL : Hid (soundA S l = if errS S ≠ 0 then (0, 60) else if (checkI S l).2 ≠ 0 then checkI S l else checkT l) := rfl
 generalize soundA S l = R at *
 have HQ := zB (checkSchema_any S _ _ (zA HS))
 generalize hWb : w.alloc (.cells #[.slice so S.length sc] 24) = Wb at *
 clear hbc h hS hI
 go_enter Tryz.func55, Tryz.ntmps55
 go_wp2_with fail
 refine (zA HQ).mono ?_
 rintro e w1 ⟨rfl, hk1⟩
 have s1 := (hk1.cell hbb id).trans s0
 have hb1 := Nat.lt_of_lt_of_le hbb hk1.size
 have HK1 := zB ((zA HB).trans hk1)
 have HS1 := zB ((zA HS).keepF hk1)
 have HV1 := zB ((zA HV).keepF hk1)
 clear hk1 HQ HS HV s0 hbb hWb
 by_cases he : errS S = 0
 ·rw [he]
  rw [if_neg (show ¬ errS S ≠ 0 from fun q => q he)] at HL
  by_cases h96 : 96 < l.length
  ·have i1 : (96 : Int) < (l.length : Int) := by omega
   rw [checkI_long h96] at HL
   have HE : Hid (R = (l.length, 110)) := zA HL
   clear HL he
   go_wp2_with fail
   go_ret2
   rw [zA HE]
   exact ⟨rfl, zA HK1⟩
  ·have hl : l.length ≤ 96 := by omega
   have i1 : ¬ (96 : Int) < (l.length : Int) := by omega
   have HCS := zB (fun p q => checkI_some (S := S) (l := l) (p := p) hl q)
   have HCB := zB (fun q1 q2 => checkI_big (S := S) (l := l) hl q1 q2)
   have HCO := zB (fun q1 q2 => checkI_ok (S := S) (l := l) hl q1 q2)
   generalize checkI S l = CI at *
   clear he h96
   go_wp2_with fail
   go_loopw [6] (fun i wr => ∃ k : Nat, k ≤ l.length ∧ i = .int .i64 k ∧ Hid (scanI S 0 l = scanI S k (l.drop k)) ∧ Wp (fun _ => False) w1 wr) (fun i _ => l.length - (intOf i).toNat)
   case atStart => exact ⟨0, Nat.zero_le _, rfl, by simp [Hid], Wp.refl _ _⟩
   case round =>
    obtain ⟨k, hk, rfl, HS0, hkp⟩ := hrel
    have s2 := (hkp.cell hb1 id).trans s1
    have hb2 := Nat.lt_of_lt_of_le hb1 hkp.size
    have HK2 := zB ((zA HK1).trans hkp)
    have HS2 := zB ((zA HS1).keepF hkp)
    have HV2 := zB ((zA HV1).keepF hkp)
    by_cases hlt : k < l.length
    ·obtain ⟨x, hx⟩ : ∃ x, l[k]? = some x := ⟨_, List.getElem?_eq_getElem hlt⟩
     obtain ⟨b, off, c, e, hbl, hc⟩ := (zA HV2).cells (by omega)
     simp at e
     obtain ⟨rfl, rfl⟩ := e
     have c0 := (hc k x hx).1
     have c1 := (hc k x hx).2.1
     have c2 := (hc k x hx).2.2
     have HD := zB (fitE_scan (S := S) hx)
     have HF := zB (refFits_v S so sc x wr.drew ((zA HS2).keepF (Wp.refl _ wr).drew))
     unfold ValA.v at HF
     generalize fitE S x = FE at *
     have i2 : (k : Int) < (l.length : Int) := by omega
     have i0' : (0 : Int) ≤ (k : Int) := by omega
     have HKP := zB (hkp.trans (Wp.refl _ wr).drew)
     clear hc hx hkp
     go_wp2_with fail
     go_region_held3 (fun w' => w'.cell? ⟨w.heap.size, 0, none⟩ = some (.slice so S.length sc) ∧ w'.cell? ⟨b, off + k * 3, none⟩ = some (.int .i64 x.kind) ∧ w'.cell? ⟨b, off + k * 3 + 1, none⟩ = some (.int .i64 x.n) ∧ w'.cell? ⟨b, off + k * 3 + 2, none⟩ = some (str x.s))
      (go_keep)
      (first
        | (go_at_call 81
           refine (zA HF).mono ?_
           rintro e w3 ⟨rfl, hk3⟩
           have q0 := (hk3.cell (o := 0) hb2 id).trans s2
           have q1 := (hk3.cell hbl id).trans c0
           have q2 := (hk3.cell hbl id).trans c1
           have q3 := (hk3.cell hbl id).trans c2))
     have HKP3 := zB ((zA HKP).trans hk3)
     clear hk3 q0 q1 q2 q3 c0 c1 c2 HF HKP
     by_cases hfe : FE = 0
     ·have HE : Hid (scanI S 0 l = scanI S (k + 1) (l.drop (k + 1))) := by
       show _ = _
       rw [zA HS0, zA HD, if_neg (fun q => q hfe)]
      subst hfe
      clear HD HS0
      go_wp2_with fail
      go_roundw
      case rel => exact ⟨k + 1, by omega, by go_num, HE, zA HKP3⟩
      case measure => simp [intOf]; omega
     ·have bf : (FE != 0) = true := by simpa using hfe
      have HE0 : Hid (CI = (k, FE)) := (zA HCS) _ (by rw [zA HS0, zA HD, if_pos hfe])
      have HE : Hid (R = (k, FE)) := by
       show _ = _
       rw [zA HL, zA HE0, if_pos hfe]
      clear HD HS0 hfe HE0
      go_wp2_with fail
      go_ret2
      rw [zA HE]
      exact ⟨rfl, (zA HK1).trans (zA HKP3)⟩
    ·obtain rfl : k = l.length := by omega
     have i2 : ¬ (l.length : Int) < (l.length : Int) := by omega
     have hn : scanI S 0 l = none := by have := zA HS0; rw [List.drop_length] at this; exact this
     have hfm : ∀ i ∈ l, formB i = 0 := fun i hi => (scanI_none hn i hi).1
     have HQ := zB (bytes_v l (.slice ao l.length cap) wr (zA HV2) (by omega) (firstE_of hfm) (zA HI))
     have HEB : Hid (96 < (bytesC l).length → R = (l.length, 110)) := fun q => by rw [zA HL, (zA HCB) hn q]; rfl
     have HEO : Hid ((bytesC l).length ≤ 96 → R = checkT l) := fun q => by rw [zA HL, (zA HCO) hn q]; rfl
     have HFM := zB hfm
     clear hn HS0 hkp hlt hfm HL HCS HCB HCO s1 s2 hb1 hb2 HS1 HS2
     go_wp2_with fail
     refine (zA HQ).mono ?_
     rintro e w3 ⟨v', rfl, ho, hk3⟩
     obtain ⟨oo, oc, rfl⟩ := (zG ho).form
     have HK3 := zB ((zA HK2).trans hk3)
     have HV3 := zB ((zA HV2).keepF hk3)
     clear ho hk3 HQ HK2 HV2 HV1 HK1 HB
     by_cases hb : 96 < (bytesC l).length
     ·have HE := zB ((zA HEB) hb)
      have i3 : (96 : Int) < ((bytesC l).length : Int) := by omega
      clear HEB HEO
      generalize bytesC l = D at *
      go_wp2_with fail
      go_ret2
      rw [zA HE]
      exact ⟨rfl, zA HK3⟩
     ·have HE := zB ((zA HEO) (by omega))
      have i3 : ¬ (96 : Int) < ((bytesC l).length : Int) := by omega
      have HC : Hid (R = (scanT l.length 0 l).getD (0, 0)) := zA HE
      clear HEB HEO HE
      generalize bytesC l = D at *
      go_wp2_with fail
      go_loopw [8] (fun i wr => ∃ k : Nat, k ≤ l.length ∧ i = .int .i64 k ∧ Hid (scanT l.length 0 l = scanT l.length k (l.drop k)) ∧ Wp (fun _ => False) w3 wr) (fun i _ => l.length - (intOf i).toNat)
      case atStart => exact ⟨0, Nat.zero_le _, rfl, by simp [Hid], Wp.refl _ _⟩
      case round =>
       obtain ⟨k, hk, rfl, HS0, hkp⟩ := hrel
       have HK4 := zB hkp
       have HV4 := zB ((zA HV3).keepF hkp)
       by_cases hlt : k < l.length
       ·obtain ⟨x, hx⟩ : ∃ x, l[k]? = some x := ⟨_, List.getElem?_eq_getElem hlt⟩
        obtain ⟨b, off, c, e, hbl, hc⟩ := (zA HV4).cells (by omega)
        simp at e
        obtain ⟨rfl, rfl⟩ := e
        have c0 := (hc k x hx).1
        have hxf := (zA HFM) x (List.mem_of_getElem? hx)
        have HD := zB (scanT_drop (N := l.length) hx)
        have h46 := (opd_kind _ (op_cases (formB_zero hxf).1)).2.2.2.2
        have hxj := form_jump hxf
        have HOP := zB (fun w' => operand_v x.kind w')
        have i4 : (k : Int) < (l.length : Int) := by omega
        have i0' : (0 : Int) ≤ (k : Int) := by omega
        have HTG := zB (fun (q0 : 0 ≤ x.n) (q1 : x.n ≤ 255) w' (q2 : Wr w' (.slice (some ⟨b, off, none⟩) l.length cap) l) => refTarget_v l _ w' q2 k x hx hl q0 q1)
        generalize opdB x.kind = OB at *
        clear hc hx hkp
        go_wp2_with fail
        refine ((zA HOP) _).mono ?_
        rintro e w5 ⟨rfl, rfl⟩
        by_cases hj : OB = 4
        ·have h6 := h46.1 hj
         obtain ⟨n0, n1⟩ := hxj h6
         have HT2 := zB ((zA HTG) n0 n1 _ (zA HV4))
         obtain ⟨TG, hTG⟩ : ∃ TG : Nat, k + 1 + x.n.toNat = TG := ⟨_, rfl⟩
         rw [hTG] at HT2 HD
         have HJ := zB h6
         subst hj
         clear hTG HTG hxj h46 h6
         go_wp2_with fail
         refine (zA HT2).mono ?_
         rintro e w6 ⟨rfl, hk6⟩
         have HK6 := zB ((zA HK4).trans hk6)
         clear hk6 HT2
         by_cases hbig : l.length < TG
         ·have b1 : (l.length : Int) < (TG : Int) := by omega
          have HE : Hid (R = (k, 111)) := by
           show _ = _
           rw [zA HC, zA HS0, zA HD, if_pos ⟨zA HJ, hbig⟩]
           rfl
          go_wp2_with fail
          go_ret2
          rw [zA HE]
          exact ⟨rfl, (zA HK3).trans (zA HK6)⟩
         ·have b1 : ¬ (l.length : Int) < (TG : Int) := by omega
          have HE : Hid (scanT l.length 0 l = scanT l.length (k + 1) (l.drop (k + 1))) := by
           show _ = _
           rw [zA HS0, zA HD, if_neg (fun h => hbig h.2)]
          go_wp2_with fail
          go_roundw
          case rel => exact ⟨k + 1, by omega, by go_num, HE, zA HK6⟩
          case measure => simp [intOf]; omega
        ·have b4 : (OB == 4) = false := by simpa using hj
         have HE : Hid (scanT l.length 0 l = scanT l.length (k + 1) (l.drop (k + 1))) := by
          show _ = _
          rw [zA HS0, zA HD, if_neg (fun h => hj (h46.2 h.1))]
         clear hj h46 hxj HTG HD HS0
         go_wp2_with fail
         go_roundw
         case rel => exact ⟨k + 1, by omega, by go_num, HE, zA HK4⟩
         case measure => simp [intOf]; omega
       ·obtain rfl : k = l.length := by omega
        have i4 : ¬ (l.length : Int) < (l.length : Int) := by omega
        have HE : Hid (R = (0, 0)) := by
         show _ = _
         rw [zA HC, zA HS0, List.drop_length]
         rfl
        have HKE := zB ((zA HK3).trans hkp)
        clear hlt hkp
        go_wp2_with fail
        go_ret2
        rw [zA HE]
        exact ⟨rfl, zA HKE⟩
 ·have be : (errS S != 0) = true := by simpa using he
  rw [if_pos (show errS S ≠ 0 from he)] at HL
  generalize errS S = E at *
  clear he
  go_wp2_with fail
  go_ret2
  rw [zA HL]
  exact ⟨rfl, zA HK1⟩
def takesR (S : List Wq) (i : ValA) (t : Txt) : Txt × Txt :=
 (if i.kind = 15 ∨ i.kind = 16 ∨ i.kind = 17 then t ++ t else List.replicate (opA i.kind).takes (letR (ofF S i (opA i.kind).of)),
  if (opA i.kind).gives = 0 then [] else [letR (ofF S i (opA i.kind).gives)])
theorem takesR_v (S : List Wq) (so : Option Addr) (sc : Nat) (i : ValA) (t : Txt) (w : World) (hS : Wt w (.slice so S.length sc) S) (hf : formB i = 0) (hr : rightF S i = true) (ht : t.length ≤ 16) :
  Calls Tryz.prog 121 #[.agg #[.slice so S.length sc], i.v, str t] w fun e w' => e = .returned (.tuple #[str (takesR S i t).1, str (takesR S i t).2]) ∧ Wp (fun _ => False) w w' := by
 have hop := op_cases (formB_zero hf).1
 have hn1 := fun q : (opA i.kind).of = 4 ∨ (opA i.kind).gives = 4 => names_ok hf hr q
 have HT : Hid (takesR S i t = takesR S i t) := rfl
 have HFT : Hid (fldT S i = ((S[i.n.toNat]?).map Wq.type).getD 0) := rfl
 obtain ⟨kd, n, s⟩ := i
 unfold ValA.v
 simp only at *
 obtain ⟨HX, hxb, hxc⟩ := boxed w #[.slice so S.length sc] 24
 obtain ⟨HY, hyb, hyc⟩ := boxed (w.alloc (.cells #[.slice so S.length sc] 24)) #[.int .i64 kd, .int .i64 n, str s] 60
 have x0 := ((zA HY).cell hxb id).trans (hxc 0 (.slice so S.length sc) rfl)
 have y0 := hyc 0 (.int .i64 kd) rfl
 have y1 := hyc 1 (.int .i64 n) rfl
 rw [World.size_alloc] at y0 y1
 have HK := zB ((zA HX).trans (zA HY))
 have HS := zB (hS.keepF (zA HK))
 generalize hW : ((w.alloc (.cells #[.slice so S.length sc] 24)).alloc (.cells #[.int .i64 kd, .int .i64 n, str s] 60)) = W at *
 clear hxc hyc HX HY hxb hyb hS hf hr
 simp only [List.mem_cons, List.not_mem_nil, or_false] at hop
 by_cases h5 : kd = 5 ∨ kd = 20
 ·have hnn : 0 ≤ n ∧ n < S.length := hn1 (by rcases h5 with rfl | rfl; exact Or.inr rfl; exact Or.inl rfl)
  obtain ⟨n0, n1⟩ := hnn
  obtain ⟨p, rfl⟩ := Int.eq_ofNat_of_zero_le n0
  obtain ⟨f, hf⟩ : ∃ f, S[p]? = some f := ⟨_, List.getElem?_eq_getElem (by omega)⟩
  obtain ⟨fb, foff, fc, fe, hfb, hfc⟩ := (zA HS).cells (by omega)
  simp only [Value.slice.injEq] at fe
  obtain ⟨rfl, _, rfl⟩ := fe
  have c1 := (hfc p f hf).2.1
  have HFE : Hid (fldT S ⟨kd, p, s⟩ = f.type) := by show _ = _; rw [zA HFT]; simp [hf]
  have HKV := zB (fun w' => kind_v f.type w')
  clear hfc hf HFT hn1 HS
  rcases h5 with rfl | rfl
  ·have HTT : Hid (takesR S ⟨5, p, s⟩ t = ([], [letR f.type])) := by
    show _ = _
    rw [← zA HFE]
    rfl
   clear HFE HT
   go_enter Tryz.func121, Tryz.ntmps121
   go_wp2_with fail
   refine ((zA HKV) _).mono ?_
   rintro e w2 ⟨rfl, rfl⟩
   go_wp2_with fail
   go_ret2
   rw [zA HTT]
   exact ⟨rfl, zA HK⟩
  ·have HTT : Hid (takesR S ⟨20, p, s⟩ t = ([letR f.type], [])) := by
    show _ = _
    rw [← zA HFE]
    rfl
   clear HFE HT
   go_enter Tryz.func121, Tryz.ntmps121
   go_wp2_with fail
   refine ((zA HKV) _).mono ?_
   rintro e w2 ⟨rfl, rfl⟩
   go_wp2_with fail
   go_ret2
   rw [zA HTT]
   exact ⟨rfl, zA HK⟩
 ·by_cases h15 : kd = 15 ∨ kd = 16 ∨ kd = 17
  ·have hadd : ∀ w' : World, (Op.stringOp .add (ByteArray.mk t.toArray) (ByteArray.mk t.toArray)).run Tryz.prog w' = .ok (str (t ++ t)) w' := fun w' => add_str w' t t (by omega)
   clear hn1 HS HFT x0 y1
   rcases h15 with rfl | rfl | rfl
   all_goals
    go_enter Tryz.func121, Tryz.ntmps121
    go_wp2_with fail
    go_ret2
    exact ⟨rfl, zA HK⟩
  ·clear hn1 HS HFT x0 y1
   rcases hop with rfl | rfl | rfl | rfl | rfl | rfl | rfl | rfl | rfl | rfl | rfl | rfl | rfl | rfl | rfl | rfl | rfl | rfl | rfl | rfl | rfl | rfl | rfl | rfl | rfl | rfl
   all_goals first
    | (exfalso; omega)
    | (go_enter Tryz.func121, Tryz.ntmps121
       go_wp2_with fail
       go_ret2
       exact ⟨rfl, zA HK⟩)
set_option maxHeartbeats 1000000
theorem ext_drop (q : Txt) (U : Nat) : ((ByteArray.mk q.toArray).extract U q.length).toList = q.drop U := by
 rw [ext_str, List.take_of_length_le (by rw [List.length_drop]; omega)]
 simp
def endsB (q r : Txt) : Bool := decide (r.length ≤ q.length) && decide (q.drop (q.length - r.length) = r)
theorem ends_v (q r : Txt) (w : World) (hq : q.length ≤ 4096) (hr : r.length ≤ 4096) : Calls Tryz.prog 122 #[str q, str r] w fun e w' => e = .returned (.bool (endsB q r)) ∧ Wp (fun _ => False) w w' := by
 by_cases h : r.length ≤ q.length
 ·have j1 : (r.length : Int) ≤ (q.length : Int) := by omega
  have j2 : (0 : Int) ≤ (q.length : Int) - (r.length : Int) := by omega
  have j3 : (q.length : Int) - (r.length : Int) ≤ (q.length : Int) := by omega
  obtain ⟨U, hU⟩ : ∃ U, U + r.length = q.length := ⟨q.length - r.length, by omega⟩
  have hUT : (q.length : Int) - (r.length : Int) = (U : Int) := by omega
  have HE : Hid (endsB q r = decide (q.drop U = r)) := by
   show _ = _
   unfold endsB
   rw [decide_eq_true h, show q.length - r.length = U by omega]
   rfl
  go_enter Tryz.func122, Tryz.ntmps122
  go_wp2
  go_ret
  refine ⟨ret_bool ?_, Wp.refl _ _⟩
  rw [zA HE, ext_drop, Bool.eq_iff_iff, beq_iff_eq, decide_eq_true_iff]
 ·have j1 : ¬ (r.length : Int) ≤ (q.length : Int) := by omega
  have HE : Hid (endsB q r = false) := by show _ = _; unfold endsB; rw [decide_eq_false h]; rfl
  go_enter Tryz.func122, Tryz.ntmps122
  go_wp2
  go_ret
  exact ⟨ret_bool (zA HE).symm, Wp.refl _ _⟩
set_option maxHeartbeats 4000000
def topR (i : ValA) (q : Txt) : Txt := if (if q = [] then [105] else q.drop (q.length - 1)) = [98] ∧ i.kind ≠ 17 then [105] else if q = [] then [105] else q.drop (q.length - 1)
def behR (S : List Wq) (i : ValA) (q : Txt) : Txt × Bool :=
 if endsB q (takesR S i (topR i q)).1 = false then ([], false)
 else (q.take (q.length - (takesR S i (topR i q)).1.length) ++ (takesR S i (topR i q)).2, decide ((q.take (q.length - (takesR S i (topR i q)).1.length) ++ (takesR S i (topR i q)).2).length ≤ 16))
theorem str_from (q : Txt) (U : Nat) (h : U ≤ q.length) (W : World) : (Instr.sliceAt 9 (str q) (some (.int .i64 (U : Int))) none none).run Tryz.prog W = .ok (str (q.drop U)) W := by
 have j0 : (0 : Int) ≤ (U : Int) := by omega
 have j1 : (U : Int) ≤ (q.length : Int) := by omega
 have e : (ByteArray.mk q.toArray).extract U q.length = ⟨(q.drop U).toArray⟩ := by rw [ext_str, List.take_of_length_le (by rw [List.length_drop]; omega)]
 simp [go_sem, j0, j1, e, str]
theorem str_to (q : Txt) (U : Nat) (h : U ≤ q.length) (W : World) : (Instr.sliceAt 9 (str q) none (some (.int .i64 (U : Int))) none).run Tryz.prog W = .ok (str (q.take U)) W := by
 have j0 : (0 : Int) ≤ (U : Int) := by omega
 have j1 : (U : Int) ≤ (q.length : Int) := by omega
 have e : (ByteArray.mk q.toArray).extract 0 U = ⟨(q.take U).toArray⟩ := by rw [ext_str]; simp
 simp [go_sem, j0, j1, e, str]
theorem behindR_v (S : List Wq) (so : Option Addr) (sc : Nat) (i : ValA) (q : Txt) (w : World) (hS : Wt w (.slice so S.length sc) S) (hf : formB i = 0) (hr : rightF S i = true) (hq : q.length ≤ 4096) :
  Calls Tryz.prog 86 #[.agg #[.slice so S.length sc], i.v, str q] w fun e w' => e = .returned (.tuple #[str (behR S i q).1, .bool (behR S i q).2]) ∧ Wp (fun _ => False) w w' := by
 have HQ := zB (fun (t : Txt) (w' : World) (b : Wt w' (.slice so S.length sc) S) (c : t.length ≤ 16) => takesR_v S so sc i t w' b hf hr c)
 have htk := op_small _ (op_cases (formB_zero hf).1)
 have HTL : Hid (∀ t : Txt, t.length ≤ 1 → (takesR S i t).1.length ≤ 4096 ∧ (takesR S i t).2.length ≤ 4096) := fun t ht => by
  unfold takesR
  constructor
  ·show List.length (if _ then _ else _) ≤ 4096
   split
   ·simp; omega
   ·simp; omega
  ·show List.length (if _ then _ else _) ≤ 4096
   split <;> simp
 have HBR : Hid (behR S i q = if endsB q (takesR S i (topR i q)).1 = false then ([], false) else (q.take (q.length - (takesR S i (topR i q)).1.length) ++ (takesR S i (topR i q)).2, decide ((q.take (q.length - (takesR S i (topR i q)).1.length) ++ (takesR S i (topR i q)).2).length ≤ 16))) := rfl
 have HTQ : Hid (topR i q = if (if q = [] then [105] else q.drop (q.length - 1)) = [98] ∧ i.kind ≠ 17 then [105] else if q = [] then [105] else q.drop (q.length - 1)) := rfl
 obtain ⟨kd, n, s⟩ := i
 unfold ValA.v at *
 simp only at *
 generalize topR ⟨kd, n, s⟩ q = TP at *
 generalize behR S ⟨kd, n, s⟩ q = R at *
 obtain ⟨HX, hxb, hxc⟩ := boxed w #[.slice so S.length sc] 24
 obtain ⟨HY, hyb, hyc⟩ := boxed (w.alloc (.cells #[.slice so S.length sc] 24)) #[.int .i64 kd, .int .i64 n, str s] 60
 have x0 := ((zA HY).cell hxb id).trans (hxc 0 (.slice so S.length sc) rfl)
 have y0 := hyc 0 (.int .i64 kd) rfl
 have y1 := hyc 1 (.int .i64 n) rfl
 have y2 := hyc 2 (str s) rfl
 rw [World.size_alloc] at y0 y1 y2
 have HK := zB ((zA HX).trans (zA HY))
 have HS := zB (hS.keepF (zA HK))
 generalize hW : ((w.alloc (.cells #[.slice so S.length sc] 24)).alloc (.cells #[.int .i64 kd, .int .i64 n, str s] 60)) = W at *
 clear hxc hyc HX HY hxb hyb hS hf hr htk
 by_cases h0 : q = []
 ·have HTP : Hid (TP = [105]) := by show _ = _; rw [zA HTQ, if_neg (by rw [if_pos h0]; intro h; cases h.1), if_pos h0]
  have j0 : ¬ (0 : Int) < (q.length : Int) := by rw [h0]; simp
  clear HTQ h0
  go_enter Tryz.func86, Tryz.ntmps86
  have HT0 := zB ((zA HQ) [105] W (zA HS) (by simp))
  go_wp2_with fail
  refine (zA HT0).mono ?_
  rintro e w2 ⟨rfl, hk2⟩
  have HK2 := zB ((zA HK).trans hk2)
  have HEN := zB (ends_v q (takesR S ⟨kd, n, s⟩ [105]).1 w2 hq ((zA HTL) [105] (by simp)).1)
  have htl := (zA HTL) [105] (by simp)
  have HB2 : Hid (R = if endsB q (takesR S ⟨kd, n, s⟩ [105]).1 = false then ([], false) else (q.take (q.length - (takesR S ⟨kd, n, s⟩ [105]).1.length) ++ (takesR S ⟨kd, n, s⟩ [105]).2, decide ((q.take (q.length - (takesR S ⟨kd, n, s⟩ [105]).1.length) ++ (takesR S ⟨kd, n, s⟩ [105]).2).length ≤ 16))) := by
   show _ = _
   rw [zA HBR, zA HTP]
  have hle : endsB q (takesR S ⟨kd, n, s⟩ [105]).1 = true → (takesR S ⟨kd, n, s⟩ [105]).1.length ≤ q.length := fun h => by
   unfold endsB at h
   simp at h
   exact h.1
  generalize endsB q (takesR S ⟨kd, n, s⟩ [105]).1 = EB at *
  generalize takesR S ⟨kd, n, s⟩ [105] = TK at *
  obtain ⟨ti, to⟩ := TK
  simp only at *
  clear hk2 HT0 HBR HTP HQ HTL
  go_wp2_with fail
  refine (zA HEN).mono ?_
  rintro e w3 ⟨rfl, hk3⟩
  have HK3 := zB ((zA HK2).trans hk3)
  clear hk3 HEN HK2
  cases EB with
  | false =>
   have HE : Hid (R = ([], false)) := zA HB2
   clear HB2
   go_wp2_with fail
   go_ret2
   rw [zA HE]
   exact ⟨rfl, zA HK3⟩
  | true =>
   have hlq := hle rfl
   have HE : Hid (R = (q.take (q.length - ti.length) ++ to, decide ((q.take (q.length - ti.length) ++ to).length ≤ 16))) := zA HB2
   obtain ⟨V, hV⟩ : ∃ V, V + ti.length = q.length := ⟨q.length - ti.length, by omega⟩
   have hVT : (q.length : Int) - (ti.length : Int) = (V : Int) := by omega
   rw [show q.length - ti.length = V by omega] at HE
   have hsl := str_to q V (by omega)
   have hadd : ∀ w' : World, (Op.stringOp .add (ByteArray.mk (q.take V).toArray) (ByteArray.mk to.toArray)).run Tryz.prog w' = .ok (str (q.take V ++ to)) w' := fun w' => add_str w' _ _ (by rw [List.length_take]; omega)
   generalize q.take V ++ to = Q2 at *
   rw [show decide (Q2.length ≤ 16) = decide ((Q2.length : Int) ≤ 16) from decide_eq_decide.2 (by omega)] at HE
   clear HB2 hle
   go_wp2_with fail
   go_ret2
   rw [zA HE]
   exact ⟨rfl, zA HK3⟩
 ·have hpos : 0 < q.length := by rcases Nat.eq_zero_or_pos q.length with h | h; exact absurd (List.eq_nil_of_length_eq_zero h) h0; exact h
  obtain ⟨U, hU⟩ : ∃ U, U + 1 = q.length := ⟨q.length - 1, by omega⟩
  have j0 : (0 : Int) < (q.length : Int) := by omega
  have hUT : (q.length : Int) - 1 = (U : Int) := by omega
  have hfr := str_from q U (by omega)
  obtain ⟨c, hc⟩ : ∃ c, q.drop U = [c] := by
   have h1 : (q.drop U).length = 1 := by rw [List.length_drop]; omega
   match hd : q.drop U, h1 with
   | [c], _ => exact ⟨c, rfl⟩
  rw [hc] at hfr
  have HTQ2 : Hid (TP = if [c] = [98] ∧ kd ≠ 17 then [105] else [c]) := by
   show _ = _
   rw [zA HTQ, if_neg h0, show q.length - 1 = U by omega, hc]
  clear HTQ h0 hc
  by_cases hb : c = 98
  ·subst hb
   by_cases hk : kd = 17
   ·have HTP : Hid (TP = [98]) := by show _ = _; rw [zA HTQ2, if_neg (fun h => h.2 hk)]
    have bk : (kd != 17) = false := by simpa using hk
    clear HTQ2 hk
    go_enter Tryz.func86, Tryz.ntmps86
    have HT0 := zB ((zA HQ) [98] W (zA HS) (by simp))
    go_wp2_with fail
    refine (zA HT0).mono ?_
    rintro e w2 ⟨rfl, hk2⟩
    have HK2 := zB ((zA HK).trans hk2)
    have HEN := zB (ends_v q (takesR S ⟨kd, n, s⟩ [98]).1 w2 hq ((zA HTL) [98] (by simp)).1)
    have htl := (zA HTL) [98] (by simp)
    have HB2 : Hid (R = if endsB q (takesR S ⟨kd, n, s⟩ [98]).1 = false then ([], false) else (q.take (q.length - (takesR S ⟨kd, n, s⟩ [98]).1.length) ++ (takesR S ⟨kd, n, s⟩ [98]).2, decide ((q.take (q.length - (takesR S ⟨kd, n, s⟩ [98]).1.length) ++ (takesR S ⟨kd, n, s⟩ [98]).2).length ≤ 16))) := by
     show _ = _
     rw [zA HBR, zA HTP]
    have hle : endsB q (takesR S ⟨kd, n, s⟩ [98]).1 = true → (takesR S ⟨kd, n, s⟩ [98]).1.length ≤ q.length := fun h => by
     unfold endsB at h
     simp at h
     exact h.1
    generalize endsB q (takesR S ⟨kd, n, s⟩ [98]).1 = EB at *
    generalize takesR S ⟨kd, n, s⟩ [98] = TK at *
    obtain ⟨ti, to⟩ := TK
    simp only at *
    clear hk2 HT0 HBR HTP HQ HTL
    go_wp2_with fail
    refine (zA HEN).mono ?_
    rintro e w3 ⟨rfl, hk3⟩
    have HK3 := zB ((zA HK2).trans hk3)
    clear hk3 HEN HK2
    cases EB with
    | false =>
     have HE : Hid (R = ([], false)) := zA HB2
     clear HB2
     go_wp2_with fail
     go_ret2
     rw [zA HE]
     exact ⟨rfl, zA HK3⟩
    | true =>
     have hlq := hle rfl
     have HE : Hid (R = (q.take (q.length - ti.length) ++ to, decide ((q.take (q.length - ti.length) ++ to).length ≤ 16))) := zA HB2
     obtain ⟨V, hV⟩ : ∃ V, V + ti.length = q.length := ⟨q.length - ti.length, by omega⟩
     have hVT : (q.length : Int) - (ti.length : Int) = (V : Int) := by omega
     rw [show q.length - ti.length = V by omega] at HE
     have hsl := str_to q V (by omega)
     have hadd : ∀ w' : World, (Op.stringOp .add (ByteArray.mk (q.take V).toArray) (ByteArray.mk to.toArray)).run Tryz.prog w' = .ok (str (q.take V ++ to)) w' := fun w' => add_str w' _ _ (by rw [List.length_take]; omega)
     generalize q.take V ++ to = Q2 at *
     rw [show decide (Q2.length ≤ 16) = decide ((Q2.length : Int) ≤ 16) from decide_eq_decide.2 (by omega)] at HE
     clear HB2 hle
     go_wp2_with fail
     go_ret2
     rw [zA HE]
     exact ⟨rfl, zA HK3⟩
   ·have HTP : Hid (TP = [105]) := by show _ = _; rw [zA HTQ2, if_pos ⟨rfl, hk⟩]
    have bk : (kd != 17) = true := by simpa using hk
    clear HTQ2 hk
    go_enter Tryz.func86, Tryz.ntmps86
    have HT0 := zB ((zA HQ) [105] W (zA HS) (by simp))
    go_wp2_with fail
    refine (zA HT0).mono ?_
    rintro e w2 ⟨rfl, hk2⟩
    have HK2 := zB ((zA HK).trans hk2)
    have HEN := zB (ends_v q (takesR S ⟨kd, n, s⟩ [105]).1 w2 hq ((zA HTL) [105] (by simp)).1)
    have htl := (zA HTL) [105] (by simp)
    have HB2 : Hid (R = if endsB q (takesR S ⟨kd, n, s⟩ [105]).1 = false then ([], false) else (q.take (q.length - (takesR S ⟨kd, n, s⟩ [105]).1.length) ++ (takesR S ⟨kd, n, s⟩ [105]).2, decide ((q.take (q.length - (takesR S ⟨kd, n, s⟩ [105]).1.length) ++ (takesR S ⟨kd, n, s⟩ [105]).2).length ≤ 16))) := by
     show _ = _
     rw [zA HBR, zA HTP]
    have hle : endsB q (takesR S ⟨kd, n, s⟩ [105]).1 = true → (takesR S ⟨kd, n, s⟩ [105]).1.length ≤ q.length := fun h => by
     unfold endsB at h
     simp at h
     exact h.1
    generalize endsB q (takesR S ⟨kd, n, s⟩ [105]).1 = EB at *
    generalize takesR S ⟨kd, n, s⟩ [105] = TK at *
    obtain ⟨ti, to⟩ := TK
    simp only at *
    clear hk2 HT0 HBR HTP HQ HTL
    go_wp2_with fail
    refine (zA HEN).mono ?_
    rintro e w3 ⟨rfl, hk3⟩
    have HK3 := zB ((zA HK2).trans hk3)
    clear hk3 HEN HK2
    cases EB with
    | false =>
     have HE : Hid (R = ([], false)) := zA HB2
     clear HB2
     go_wp2_with fail
     go_ret2
     rw [zA HE]
     exact ⟨rfl, zA HK3⟩
    | true =>
     have hlq := hle rfl
     have HE : Hid (R = (q.take (q.length - ti.length) ++ to, decide ((q.take (q.length - ti.length) ++ to).length ≤ 16))) := zA HB2
     obtain ⟨V, hV⟩ : ∃ V, V + ti.length = q.length := ⟨q.length - ti.length, by omega⟩
     have hVT : (q.length : Int) - (ti.length : Int) = (V : Int) := by omega
     rw [show q.length - ti.length = V by omega] at HE
     have hsl := str_to q V (by omega)
     have hadd : ∀ w' : World, (Op.stringOp .add (ByteArray.mk (q.take V).toArray) (ByteArray.mk to.toArray)).run Tryz.prog w' = .ok (str (q.take V ++ to)) w' := fun w' => add_str w' _ _ (by rw [List.length_take]; omega)
     generalize q.take V ++ to = Q2 at *
     rw [show decide (Q2.length ≤ 16) = decide ((Q2.length : Int) ≤ 16) from decide_eq_decide.2 (by omega)] at HE
     clear HB2 hle
     go_wp2_with fail
     go_ret2
     rw [zA HE]
     exact ⟨rfl, zA HK3⟩
  ·have HTP : Hid (TP = [c]) := by show _ = _; rw [zA HTQ2, if_neg (fun h => hb (by simpa using h.1))]
   have bc : (c == 98) = false := by simpa using hb
   clear HTQ2
   go_enter Tryz.func86, Tryz.ntmps86
   have HT0 := zB ((zA HQ) [c] W (zA HS) (by simp))
   go_wp2_with fail
   refine (zA HT0).mono ?_
   rintro e w2 ⟨rfl, hk2⟩
   have HK2 := zB ((zA HK).trans hk2)
   have HEN := zB (ends_v q (takesR S ⟨kd, n, s⟩ [c]).1 w2 hq ((zA HTL) [c] (by simp)).1)
   have htl := (zA HTL) [c] (by simp)
   have HB2 : Hid (R = if endsB q (takesR S ⟨kd, n, s⟩ [c]).1 = false then ([], false) else (q.take (q.length - (takesR S ⟨kd, n, s⟩ [c]).1.length) ++ (takesR S ⟨kd, n, s⟩ [c]).2, decide ((q.take (q.length - (takesR S ⟨kd, n, s⟩ [c]).1.length) ++ (takesR S ⟨kd, n, s⟩ [c]).2).length ≤ 16))) := by
    show _ = _
    rw [zA HBR, zA HTP]
   have hle : endsB q (takesR S ⟨kd, n, s⟩ [c]).1 = true → (takesR S ⟨kd, n, s⟩ [c]).1.length ≤ q.length := fun h => by
    unfold endsB at h
    simp at h
    exact h.1
   generalize endsB q (takesR S ⟨kd, n, s⟩ [c]).1 = EB at *
   generalize takesR S ⟨kd, n, s⟩ [c] = TK at *
   obtain ⟨ti, to⟩ := TK
   simp only at *
   clear hk2 HT0 HBR HTP HQ HTL
   go_wp2_with fail
   refine (zA HEN).mono ?_
   rintro e w3 ⟨rfl, hk3⟩
   have HK3 := zB ((zA HK2).trans hk3)
   clear hk3 HEN HK2
   cases EB with
   | false =>
    have HE : Hid (R = ([], false)) := zA HB2
    clear HB2
    go_wp2_with fail
    go_ret2
    rw [zA HE]
    exact ⟨rfl, zA HK3⟩
   | true =>
    have hlq := hle rfl
    have HE : Hid (R = (q.take (q.length - ti.length) ++ to, decide ((q.take (q.length - ti.length) ++ to).length ≤ 16))) := zA HB2
    obtain ⟨V, hV⟩ : ∃ V, V + ti.length = q.length := ⟨q.length - ti.length, by omega⟩
    have hVT : (q.length : Int) - (ti.length : Int) = (V : Int) := by omega
    rw [show q.length - ti.length = V by omega] at HE
    have hsl := str_to q V (by omega)
    have hadd : ∀ w' : World, (Op.stringOp .add (ByteArray.mk (q.take V).toArray) (ByteArray.mk to.toArray)).run Tryz.prog w' = .ok (str (q.take V ++ to)) w' := fun w' => add_str w' _ _ (by rw [List.length_take]; omega)
    generalize q.take V ++ to = Q2 at *
    rw [show decide (Q2.length ≤ 16) = decide ((Q2.length : Int) ≤ 16) from decide_eq_decide.2 (by omega)] at HE
    clear HB2 hle
    go_wp2_with fail
    go_ret2
    rw [zA HE]
    exact ⟨rfl, zA HK3⟩
set_option maxHeartbeats 2000000
def leadsB (k : Nat) (x : ValA) (p : Nat) : Bool := (decide (x.kind = 25 ∨ x.kind = 26) && decide (k + 1 + x.n.toNat = p)) || (decide (x.kind ≠ 25) && decide (k + 1 = p))
theorem leads_v (l : List ValA) (v : Value) (w : World) (h : Wr w v l) (k p : Nat) (x : ValA) (hx : l[k]? = some x) (hl : l.length ≤ 96) (hf : formB x = 0) (hp : p ≤ 4096) :
  Calls Tryz.prog 85 #[v, .int .i64 (k : Int), .int .i64 (p : Int)] w fun e w' => e = .returned (.bool (leadsB k x p)) ∧ Wp (fun _ => False) w w' := by
 obtain ⟨ao, cap, rfl⟩ := Ws.form h
 have hk := (List.getElem?_eq_some_iff.1 hx).1
 have HV := zB h
 obtain ⟨b, off, c, e, hbl, hc⟩ := h.cells (by omega)
 simp at e
 obtain ⟨rfl, rfl⟩ := e
 have c0 := (hc k x hx).1
 have i2 : (k : Int) < (l.length : Int) := by omega
 have i0' : (0 : Int) ≤ (k : Int) := by omega
 have h6 := (opd_kind _ (op_cases (formB_zero hf).1)).2.2.1
 have HTV : Hid (x.kind = 25 ∨ x.kind = 26 → Calls Tryz.prog 84 #[.slice (some ⟨b, off, none⟩) l.length cap, .int .i64 (k : Int)] w fun e w' => e = .returned (.int .i64 ((k + 1 + x.n.toNat : Nat) : Int)) ∧ Wp (fun _ => False) w w') := fun q => refTarget_v l _ w h k x hx hl (form_jump hf (h6.2 q)).1 (form_jump hf (h6.2 q)).2
 have HL : Hid (leadsB k x p = ((decide (x.kind = 25 ∨ x.kind = 26) && decide (k + 1 + x.n.toNat = p)) || (decide (x.kind ≠ 25) && decide (k + 1 = p)))) := rfl
 generalize leadsB k x p = R at *
 generalize k + 1 + x.n.toNat = TG at *
 generalize x.kind = kd at *
 clear hc hx hf h6 h
 by_cases hj : kd = 25 ∨ kd = 26
 ·have HT := zB ((zA HTV) hj)
  clear HTV
  by_cases ht : TG = p
  ·have HE : Hid (R = true) := by show _ = _; rw [zA HL, decide_eq_true hj, decide_eq_true ht]; rfl
   subst ht
   clear HL
   rcases hj with rfl | rfl
   all_goals
    go_enter Tryz.func85, Tryz.ntmps85
    go_wp2_with fail
    refine (zA HT).mono ?_
    rintro e w2 ⟨rfl, hk2⟩
    go_wp2_with fail
    go_ret
    exact ⟨ret_bool (zA HE).symm, hk2⟩
  ·have HN := zB ht
   have bt : ((TG : Int) == (p : Int)) = false := by simp; omega
   rcases hj with rfl | rfl
   ·have HE : Hid (R = false) := by show _ = _; rw [zA HL, decide_eq_false (zA HN)]; rfl
    clear HL ht
    go_enter Tryz.func85, Tryz.ntmps85
    go_wp2_with fail
    refine (zA HT).mono ?_
    rintro e w2 ⟨rfl, hk2⟩
    have c0' := (hk2.cell hbl id).trans c0
    go_wp2_with fail
    go_ret
    exact ⟨ret_bool (zA HE).symm, hk2⟩
   ·have HE : Hid (R = decide (k + 1 = p)) := by show _ = _; rw [zA HL, decide_eq_false (zA HN)]; rfl
    clear HL ht
    go_enter Tryz.func85, Tryz.ntmps85
    go_wp2_with fail
    refine (zA HT).mono ?_
    rintro e w2 ⟨rfl, hk2⟩
    have c0' := (hk2.cell hbl id).trans c0
    go_wp2_with fail
    go_ret
    refine ⟨ret_bool ?_, hk2⟩
    rw [zA HE, Bool.eq_iff_iff]
    simp
    omega
 ·have HE : Hid (R = decide (k + 1 = p)) := by show _ = _; rw [zA HL, decide_eq_false hj, decide_eq_true (show kd ≠ 25 from fun q => hj (Or.inl q))]; simp
  have b1 : (kd == 25) = false := by simp; omega
  have b2 : (kd == 26) = false := by simp; omega
  have b3 : (kd != 25) = true := by simp; omega
  clear HL hj HTV
  go_enter Tryz.func85, Tryz.ntmps85
  go_wp2_with fail
  go_ret
  refine ⟨ret_bool ?_, Wp.refl _ _⟩
  rw [zA HE, Bool.eq_iff_iff]
  simp
  omega
end Go.Proofs.YtbdlcaamanhapaaGreatDoor
