import Derived.Test.YtcfnlnceoalnoaaDoorJn
import Derived.Test.YtcfnlnceoalnoaaDoorJh
namespace Go.Proofs.YtcfnlnceoalnoaaDoor
open Go.RowKit Go.Maps

/-- The letter of a type. -/
def letR (t : Int) : UInt8 := if t = 1 then 105 else if t = 2 then 98 else 115
theorem kind_v (t : Int) (w : World) : Calls Tryd.prog 92 #[.int .i64 t] w fun e w' => e = .returned (str [letR t]) ∧ w' = w := by
  by_cases h1 : t = 1
  · subst h1
    go_enter Tryd.func92, Tryd.ntmps92
    go_wp2
    go_ret
    exact ⟨rfl, rfl⟩
  · by_cases h2 : t = 2
    · subst h2
      go_enter Tryd.func92, Tryd.ntmps92
      go_wp2
      go_ret
      exact ⟨rfl, rfl⟩
    · have b1 : (t == 1) = false := by simpa using h1
      have b2 : (t == 2) = false := by simpa using h2
      have HE : Hid (letR t = 115) := by show _ = _; unfold letR; rw [if_neg h1, if_neg h2]
      clear h1 h2
      go_enter Tryd.func92, Tryd.ntmps92
      go_wp2
      go_ret
      rw [unhide HE]
      exact ⟨rfl, rfl⟩
set_option maxRecDepth 100000 in
theorem refTarget_v (l : List ValA) (v : Value) (w : World) (h : ValsAt w v l) (k : Nat) (x : ValA) (hx : l[k]? = some x) (hl : l.length ≤ 96) (h0 : 0 ≤ x.n) (h1 : x.n ≤ 255) : Calls Tryd.prog 66 #[v, .int .i64 (k : Int)] w fun e w' => e = .returned (.int .i64 ((k + 1 + x.n.toNat : Nat) : Int)) ∧ Keeps (fun _ => False) w w' := by
  obtain ⟨ao, cap, rfl⟩ := RowAt.form h
  have hk := (List.getElem?_eq_some_iff.1 hx).1
  obtain ⟨b, off, c, e, hbl, hc⟩ := h.cells (by omega)
  simp at e
  obtain ⟨rfl, rfl⟩ := e
  have c1 := (hc k x hx).2.1
  have i2 : (k : Int) < (l.length : Int) := by omega
  have i0' : (0 : Int) ≤ (k : Int) := by omega
  clear hc
  go_enter Tryd.func66, Tryd.ntmps66
  go_wp2
  go_ret
  exact ⟨ret_int (by omega), Keeps.refl _ _⟩

end Go.Proofs.YtcfnlnceoalnoaaDoor
namespace Go.Proofs.YtcfnlnceoalnoaaDoor
open Go.RowKit Go.Maps

def fitE (S : List FieldA) (i : ValA) : Int := if formB i ≠ 0 then formB i else if rightF S i = false then 113 else 0
/-- The operations that ask for more than a field. -/
theorem opd_kind : ∀ o ∈ ([1, 2, 3, 4, 5, 6, 7, 8, 9, 10, 11, 12, 13, 14, 15, 16, 17, 18, 19, 20, 21, 22, 23, 24, 25, 26] : List Int), ((opA o).opd = 4 ↔ (o = 6 ∨ o = 22)) ∧ ((opA o).opd = 5 ↔ o = 21) ∧ ((opA o).opd = 6 ↔ (o = 25 ∨ o = 26)) ∧ (opdB o = 3 ↔ ((opA o).opd = 3 ∨ (opA o).opd = 4 ∨ (opA o).opd = 5)) ∧ (opdB o = 4 ↔ (opA o).opd = 6) := by decide
theorem rightF_as {S : List FieldA} {i : ValA} (hf : formB i = 0) : rightF S i = if opdB i.kind ≠ 3 then true else if (S.length : Int) ≤ i.n then false else if (i.kind = 6 ∨ i.kind = 22) ∧ ((S[i.n.toNat]?).map FieldA.opt).getD false = false then false else if i.kind = 21 ∧ fldT S i ≠ 1 then false else true := by
  obtain ⟨h4, h5, _, h3, _⟩ := opd_kind _ (op_cases (formB_zero hf).1)
  unfold rightF
  by_cases h : opdB i.kind = 3
  · rw [if_neg (show ¬ opdB i.kind ≠ 3 from fun q => q h)]
    by_cases hn : (S.length : Int) ≤ i.n
    · rw [if_pos hn, decide_eq_false (show ¬ i.n < (S.length : Int) by omega)]
      rcases h3.1 h with e | e | e <;> simp [e]
    · rw [if_neg hn, decide_eq_true (show i.n < (S.length : Int) by omega)]
      rcases h3.1 h with e | e | e
      · have n4 : ¬ (i.kind = 6 ∨ i.kind = 22) := fun q => by have := h4.2 q; omega
        have n5 : ¬ i.kind = 21 := fun q => by have := h5.2 q; omega
        rw [if_pos e, if_neg (fun q => n4 q.1), if_neg (fun q => n5 q.1)]
      · have n4 := h4.1 e
        have n5 : ¬ i.kind = 21 := by omega
        rw [if_neg (show ¬ (opA i.kind).opd = 3 by omega), if_pos e, if_neg (show ¬ (i.kind = 21 ∧ fldT S i ≠ 1) from fun q => n5 q.1)]
        cases hq : ((S[i.n.toNat]?).map FieldA.opt).getD false with
        | false => rw [if_pos ⟨n4, rfl⟩]; rfl
        | true => rw [if_neg (fun q => by cases q.2)]; rfl
      · have n5 := h5.1 e
        have n4 : ¬ (i.kind = 6 ∨ i.kind = 22) := by omega
        rw [if_neg (show ¬ (opA i.kind).opd = 3 by omega), if_neg (show ¬ (opA i.kind).opd = 4 by omega), if_pos e, if_neg (show ¬ ((i.kind = 6 ∨ i.kind = 22) ∧ ((S[i.n.toNat]?).map FieldA.opt).getD false = false) from fun q => n4 q.1)]
        by_cases ht : fldT S i = 1
        · rw [if_neg (fun q => q.2 ht), decide_eq_true ht]; rfl
        · rw [if_pos ⟨n5, ht⟩, decide_eq_false ht]; rfl
  · rw [if_pos (show opdB i.kind ≠ 3 from h)]
    have n3 : ¬ (opA i.kind).opd = 3 := fun q => h (h3.2 (Or.inl q))
    have n4 : ¬ (opA i.kind).opd = 4 := fun q => h (h3.2 (Or.inr (Or.inl q)))
    have n5 : ¬ (opA i.kind).opd = 5 := fun q => h (h3.2 (Or.inr (Or.inr q)))
    rw [if_neg n3, if_neg n4, if_neg n5]
set_option maxRecDepth 100000 in
set_option maxHeartbeats 2000000 in
theorem refFits_v (S : List FieldA) (so : Option Addr) (sc : Nat) (i : ValA) (w : World) (hS : FldsAt w (.slice so S.length sc) S) : Calls Tryd.prog 65 #[.agg #[.slice so S.length sc], i.v] w fun e w' => e = .returned (.int .i64 (fitE S i)) ∧ Keeps (fun _ => False) w w' := by
  have HE : Hid (fitE S i = if formB i ≠ 0 then formB i else if rightF S i = false then 113 else 0) := rfl
  generalize fitE S i = R at *
  have HR : Hid (formB i = 0 → rightF S i = if opdB i.kind ≠ 3 then true else if (S.length : Int) ≤ i.n then false else if (i.kind = 6 ∨ i.kind = 22) ∧ ((S[i.n.toNat]?).map FieldA.opt).getD false = false then false else if i.kind = 21 ∧ fldT S i ≠ 1 then false else true) := fun q => rightF_as q
  have HNF : Hid (formB i = 0 → opdB i.kind = 3 → 0 ≤ i.n) := fun q q3 => (form_field q ((opd_kind _ (op_cases (formB_zero q).1)).2.2.2.1.1 q3)).1
  have HF := hide (fun w' => form_v i w')
  have HO := hide (fun w' => operand_v i.kind w')
  have HT : Hid (fldT S i = ((S[i.n.toNat]?).map FieldA.type).getD 0) := rfl
  generalize fldT S i = FT at *
  generalize formB i = FB at *
  generalize rightF S i = RF at *
  obtain ⟨kd, n, s⟩ := i
  unfold ValA.v at *
  simp only at *
  generalize opdB kd = OB at *
  obtain ⟨HX, hxb, hxc⟩ := boxed w #[.slice so S.length sc] 24
  obtain ⟨HY, hyb, hyc⟩ := boxed (w.alloc (.cells #[.slice so S.length sc] 24)) #[.int .i64 kd, .int .i64 n, str s] 70
  have x0 := ((unhide HY).cell hxb id).trans (hxc 0 (.slice so S.length sc) rfl)
  have y0 := hyc 0 (.int .i64 kd) rfl
  have y1 := hyc 1 (.int .i64 n) rfl
  have y2 := hyc 2 (str s) rfl
  rw [World.size_alloc] at y0 y1 y2
  have HK := hide ((unhide HX).trans (unhide HY))
  have HS := hide (hS.keepF (unhide HK))
  have hz0 := Nat.lt_of_lt_of_le hxb (unhide HY).size
  have hz1 : w.heap.size + 1 < ((w.alloc (.cells #[.slice so S.length sc] 24)).alloc (.cells #[.int .i64 kd, .int .i64 n, str s] 70)).heap.size := by simp
  generalize hW : ((w.alloc (.cells #[.slice so S.length sc] 24)).alloc (.cells #[.int .i64 kd, .int .i64 n, str s] 70)) = W at *
  clear hxc hyc HX HY hxb hyb hS
  go_enter Tryd.func65, Tryd.ntmps65
  go_wp2_with fail
  refine ((unhide HF) _).mono ?_
  rintro e w1 ⟨rfl, hk1⟩
  have x1 := (hk1.cell (o := 0) hz0 id).trans x0
  have z0 := (hk1.cell (o := 0) hz1 id).trans y0
  have z1 := (hk1.cell (o := 1) hz1 id).trans y1
  have z2 := (hk1.cell (o := 2) hz1 id).trans y2
  have HK1 := hide ((unhide HK).trans hk1)
  have HS1 := hide ((unhide HS).keepF hk1)
  have hzz : w.heap.size + 1 < w1.heap.size := Nat.lt_of_lt_of_le hz1 hk1.size
  clear hk1 HF x0 y0 y1 y2 HK HS hz0 hz1 hW
  by_cases hf : FB = 0
  · subst hf
    have HR2 := hide ((unhide HR) rfl)
    have HN2 := hide ((unhide HNF) rfl)
    have HE2 : Hid (R = if RF = false then 113 else 0) := unhide HE
    clear HE HR HNF
    go_wp2_with fail
    refine ((unhide HO) _).mono ?_
    rintro e w2 ⟨rfl, rfl⟩
    by_cases h3 : OB = 3
    · subst h3
      have n0 := (unhide HN2) rfl
      rw [if_neg (by simp)] at HR2
      obtain ⟨p, rfl⟩ := Int.eq_ofNat_of_zero_le n0
      by_cases hn : S.length ≤ p
      · have j1 : (S.length : Int) ≤ (p : Int) := by omega
        have HZ : Hid (R = 113) := by show _ = _; rw [unhide HE2, unhide HR2, if_pos j1]; rfl
        clear HR2 HE2
        go_wp2_with fail
        go_ret
        exact ⟨ret_int (unhide HZ).symm, unhide HK1⟩
      · have j1 : ¬ (S.length : Int) ≤ (p : Int) := by omega
        have j2 : (p : Int) < (S.length : Int) := by omega
        rw [if_neg j1] at HR2
        obtain ⟨f, hf⟩ : ∃ f, S[p]? = some f := ⟨_, List.getElem?_eq_getElem (by omega)⟩
        obtain ⟨fb, foff, fc, fe, hfb, hfc⟩ := (unhide HS1).cells (by omega)
        simp only [Value.slice.injEq] at fe
        obtain ⟨rfl, _, rfl⟩ := fe
        have c0 := (hfc p f hf).1
        have c1 := (hfc p f hf).2.1
        have c2 := (hfc p f hf).2.2
        obtain ⟨HY, hyb, hyc⟩ := boxed w2 #[str f.name, .int .i64 f.type, .bool f.opt] 37
        have d1 := hyc 1 (.int .i64 f.type) rfl
        have d2 := hyc 2 (.bool f.opt) rfl
        have HFT : Hid (FT = f.type) := by show _ = _; rw [unhide HT]; simp [hf]
        have HFO : Hid (((S[((p : Nat) : Int).toNat]?).map FieldA.opt).getD false = f.opt) := by show _ = _; simp [hf]
        rw [unhide HFO, unhide HFT] at HR2
        have HKY := hide ((unhide HK1).trans (unhide HY))
        have y0 := ((unhide HY).cell (o := 0) hzz id).trans z0
        generalize f.opt = FO at *
        generalize f.type = TY at *
        clear hfc hf hyc HY HT HFT HFO j1 hn
        by_cases h6 : kd = 6
        · subst h6
          cases FO with
          | false =>
            have HZ : Hid (R = 113) := by show _ = _; rw [unhide HE2, unhide HR2]; simp
            clear HR2 HE2
            go_wp2_with fail
            go_ret
            exact ⟨ret_int (unhide HZ).symm, unhide HKY⟩
          | true =>
            have HZ : Hid (R = 0) := by show _ = _; rw [unhide HE2, unhide HR2]; simp
            clear HR2 HE2
            go_wp2_with fail
            go_ret
            exact ⟨ret_int (unhide HZ).symm, unhide HKY⟩
        · by_cases h22 : kd = 22
          · subst h22
            cases FO with
            | false =>
              have HZ : Hid (R = 113) := by show _ = _; rw [unhide HE2, unhide HR2]; simp
              clear HR2 HE2
              go_wp2_with fail
              go_ret
              exact ⟨ret_int (unhide HZ).symm, unhide HKY⟩
            | true =>
              have HZ : Hid (R = 0) := by show _ = _; rw [unhide HE2, unhide HR2]; simp
              clear HR2 HE2
              go_wp2_with fail
              go_ret
              exact ⟨ret_int (unhide HZ).symm, unhide HKY⟩
          · have b6 : (kd == 6) = false := by simpa using h6
            have b22 : (kd == 22) = false := by simpa using h22
            by_cases h21 : kd = 21
            · subst h21
              by_cases ht : TY = 1
              · subst ht
                have HZ : Hid (R = 0) := by show _ = _; rw [unhide HE2, unhide HR2]; simp
                clear HR2 HE2
                go_wp2_with fail
                go_ret
                exact ⟨ret_int (unhide HZ).symm, unhide HKY⟩
              · have bt : (TY != 1) = true := by simpa using ht
                have HZ : Hid (R = 113) := by show _ = _; rw [unhide HE2, unhide HR2]; simp [ht]
                clear HR2 HE2 ht
                go_wp2_with fail
                go_ret
                exact ⟨ret_int (unhide HZ).symm, unhide HKY⟩
            · have b21 : (kd == 21) = false := by simpa using h21
              have HZ : Hid (R = 0) := by show _ = _; rw [unhide HE2, unhide HR2]; simp [h6, h22, h21]
              clear HR2 HE2 h6 h22 h21
              go_wp2_with fail
              go_ret
              exact ⟨ret_int (unhide HZ).symm, unhide HKY⟩
    · have b3 : (OB != 3) = true := by simpa using h3
      have HZ : Hid (R = 0) := by show _ = _; rw [unhide HE2, unhide HR2, if_pos h3]; rfl
      clear h3 HR2 HE2
      go_wp2_with fail
      go_ret
      exact ⟨ret_int (unhide HZ).symm, unhide HK1⟩
  · have bf : (FB != 0) = true := by simpa using hf
    rw [if_pos hf] at HE
    clear hf
    go_wp2_with fail
    go_ret
    exact ⟨ret_int (unhide HE).symm, unhide HK1⟩

end Go.Proofs.YtcfnlnceoalnoaaDoor
namespace Go.Proofs.YtcfnlnceoalnoaaDoor
open Go.RowKit Go.Maps
def soundA (S : List FieldA) (l : List ValA) : Nat × Int := if errS S ≠ 0 then (0, 60) else if (checkI S l).2 ≠ 0 then checkI S l else checkT l
theorem fitE_scan {S : List FieldA} {l : List ValA} {k : Nat} {x : ValA} (h : l[k]? = some x) : scanI S k (l.drop k) = if fitE S x ≠ 0 then some (k, fitE S x) else scanI S (k + 1) (l.drop (k + 1)) := by
  rw [scanI_drop h]
  unfold fitE
  by_cases h1 : formB x = 0
  · rw [if_neg (show ¬ formB x ≠ 0 from fun q => q h1), if_neg (show ¬ formB x ≠ 0 from fun q => q h1)]
    cases rightF S x <;> simp
  · rw [if_pos (show formB x ≠ 0 from h1), if_pos (show formB x ≠ 0 from h1), if_pos h1]
set_option maxRecDepth 100000 in
set_option maxHeartbeats 4000000 in
theorem sound_v (S : List FieldA) (so : Option Addr) (sc : Nat) (l : List ValA) (v : Value) (w : World) (hS : FldsAt w (.slice so S.length sc) S) (h : ValsAt w v l) (hI : InR l) :
    Calls Tryd.prog 49 #[.agg #[.slice so S.length sc], v] w fun e w' => e = .returned (.tuple #[.int .i64 ((soundA S l).1 : Int), .int .i64 (soundA S l).2]) ∧ Keeps (fun _ => False) w w' := by
  obtain ⟨ao, cap, rfl⟩ := RowAt.form h
  obtain ⟨HB, hbb, hbc⟩ := boxed w #[.slice so S.length sc] 24
  have s0 := hbc 0 (.slice so S.length sc) rfl
  have HS := hide (hS.keepF (unhide HB))
  have HV := hide (h.keepF (unhide HB))
  have HI := hide hI
  have HL : Hid (soundA S l = if errS S ≠ 0 then (0, 60) else if (checkI S l).2 ≠ 0 then checkI S l else checkT l) := rfl
  generalize soundA S l = R at *
  have HQ := hide (checkSchema_any S _ _ (unhide HS))
  generalize hWb : w.alloc (.cells #[.slice so S.length sc] 24) = Wb at *
  clear hbc h hS hI
  go_enter Tryd.func49, Tryd.ntmps49
  go_wp2_with fail
  refine (unhide HQ).mono ?_
  rintro e w1 ⟨rfl, hk1⟩
  have s1 := (hk1.cell hbb id).trans s0
  have hb1 := Nat.lt_of_lt_of_le hbb hk1.size
  have HK1 := hide ((unhide HB).trans hk1)
  have HS1 := hide ((unhide HS).keepF hk1)
  have HV1 := hide ((unhide HV).keepF hk1)
  clear hk1 HQ HS HV s0 hbb hWb
  by_cases he : errS S = 0
  · rw [he]
    rw [if_neg (show ¬ errS S ≠ 0 from fun q => q he)] at HL
    by_cases h96 : 96 < l.length
    · have i1 : (96 : Int) < (l.length : Int) := by omega
      rw [checkI_long h96] at HL
      have HE : Hid (R = (l.length, 110)) := unhide HL
      clear HL he
      go_wp2_with fail
      go_ret2
      rw [unhide HE]
      exact ⟨rfl, unhide HK1⟩
    · have hl : l.length ≤ 96 := by omega
      have i1 : ¬ (96 : Int) < (l.length : Int) := by omega
      have HCS := hide (fun p q => checkI_some (S := S) (l := l) (p := p) hl q)
      have HCB := hide (fun q1 q2 => checkI_big (S := S) (l := l) hl q1 q2)
      have HCO := hide (fun q1 q2 => checkI_ok (S := S) (l := l) hl q1 q2)
      generalize checkI S l = CI at *
      clear he h96
      go_wp2_with fail
      go_loopw [6] (fun i wr => ∃ k : Nat, k ≤ l.length ∧ i = .int .i64 k ∧ Hid (scanI S 0 l = scanI S k (l.drop k)) ∧ Keeps (fun _ => False) w1 wr) (fun i _ => l.length - (intOf i).toNat)
      case atStart => exact ⟨0, Nat.zero_le _, rfl, by simp [Hid], Keeps.refl _ _⟩
      case round =>
        obtain ⟨k, hk, rfl, HS0, hkp⟩ := hrel
        have s2 := (hkp.cell hb1 id).trans s1
        have hb2 := Nat.lt_of_lt_of_le hb1 hkp.size
        have HK2 := hide ((unhide HK1).trans hkp)
        have HS2 := hide ((unhide HS1).keepF hkp)
        have HV2 := hide ((unhide HV1).keepF hkp)
        by_cases hlt : k < l.length
        · obtain ⟨x, hx⟩ : ∃ x, l[k]? = some x := ⟨_, List.getElem?_eq_getElem hlt⟩
          obtain ⟨b, off, c, e, hbl, hc⟩ := (unhide HV2).cells (by omega)
          simp at e
          obtain ⟨rfl, rfl⟩ := e
          have c0 := (hc k x hx).1
          have c1 := (hc k x hx).2.1
          have c2 := (hc k x hx).2.2
          have HD := hide (fitE_scan (S := S) hx)
          have HF := hide (refFits_v S so sc x wr.drew ((unhide HS2).keepF (Keeps.refl _ wr).drew))
          unfold ValA.v at HF
          generalize fitE S x = FE at *
          have i2 : (k : Int) < (l.length : Int) := by omega
          have i0' : (0 : Int) ≤ (k : Int) := by omega
          have HKP := hide (hkp.trans (Keeps.refl _ wr).drew)
          clear hc hx hkp
          go_wp2_with fail
          go_region_held3 (fun w' => w'.cell? ⟨w.heap.size, 0, none⟩ = some (.slice so S.length sc) ∧ w'.cell? ⟨b, off + k * 3, none⟩ = some (.int .i64 x.kind) ∧ w'.cell? ⟨b, off + k * 3 + 1, none⟩ = some (.int .i64 x.n) ∧ w'.cell? ⟨b, off + k * 3 + 2, none⟩ = some (str x.s))
            (go_keep)
            (first
              | (go_at_call 65
                 refine (unhide HF).mono ?_
                 rintro e w3 ⟨rfl, hk3⟩
                 have q0 := (hk3.cell (o := 0) hb2 id).trans s2
                 have q1 := (hk3.cell hbl id).trans c0
                 have q2 := (hk3.cell hbl id).trans c1
                 have q3 := (hk3.cell hbl id).trans c2))
          have HKP3 := hide ((unhide HKP).trans hk3)
          clear hk3 q0 q1 q2 q3 c0 c1 c2 HF HKP
          by_cases hfe : FE = 0
          · have HE : Hid (scanI S 0 l = scanI S (k + 1) (l.drop (k + 1))) := by
              show _ = _
              rw [unhide HS0, unhide HD, if_neg (fun q => q hfe)]
            subst hfe
            clear HD HS0
            go_wp2_with fail
            go_roundw
            case rel => exact ⟨k + 1, by omega, by go_num, HE, unhide HKP3⟩
            case measure => simp [intOf]; omega
          · have bf : (FE != 0) = true := by simpa using hfe
            have HE0 : Hid (CI = (k, FE)) := (unhide HCS) _ (by rw [unhide HS0, unhide HD, if_pos hfe])
            have HE : Hid (R = (k, FE)) := by
              show _ = _
              rw [unhide HL, unhide HE0, if_pos hfe]
            clear HD HS0 hfe HE0
            go_wp2_with fail
            go_ret2
            rw [unhide HE]
            exact ⟨rfl, (unhide HK1).trans (unhide HKP3)⟩
        · obtain rfl : k = l.length := by omega
          have i2 : ¬ (l.length : Int) < (l.length : Int) := by omega
          have hn : scanI S 0 l = none := by have := unhide HS0; rw [List.drop_length] at this; exact this
          have hfm : ∀ i ∈ l, formB i = 0 := fun i hi => (scanI_none hn i hi).1
          have HQ := hide (bytes_v l (.slice ao l.length cap) wr (unhide HV2) (by omega) (firstE_of hfm) (unhide HI))
          have HEB : Hid (96 < (bytesC l).length → R = (l.length, 110)) := fun q => by rw [unhide HL, (unhide HCB) hn q]; rfl
          have HEO : Hid ((bytesC l).length ≤ 96 → R = checkT l) := fun q => by rw [unhide HL, (unhide HCO) hn q]; rfl
          have HFM := hide hfm
          clear hn HS0 hkp hlt hfm HL HCS HCB HCO s1 s2 hb1 hb2 HS1 HS2
          go_wp2_with fail
          refine (unhide HQ).mono ?_
          rintro e w3 ⟨v', rfl, ho, hk3⟩
          obtain ⟨oo, oc, rfl⟩ := (rowAt_own ho).form
          have HK3 := hide ((unhide HK2).trans hk3)
          have HV3 := hide ((unhide HV2).keepF hk3)
          clear ho hk3 HQ HK2 HV2 HV1 HK1 HB
          by_cases hb : 96 < (bytesC l).length
          · have HE := hide ((unhide HEB) hb)
            have i3 : (96 : Int) < ((bytesC l).length : Int) := by omega
            clear HEB HEO
            generalize bytesC l = D at *
            go_wp2_with fail
            go_ret2
            rw [unhide HE]
            exact ⟨rfl, unhide HK3⟩
          · have HE := hide ((unhide HEO) (by omega))
            have i3 : ¬ (96 : Int) < ((bytesC l).length : Int) := by omega
            have HC : Hid (R = (scanT l.length 0 l).getD (0, 0)) := unhide HE
            clear HEB HEO HE
            generalize bytesC l = D at *
            go_wp2_with fail
            go_loopw [8] (fun i wr => ∃ k : Nat, k ≤ l.length ∧ i = .int .i64 k ∧ Hid (scanT l.length 0 l = scanT l.length k (l.drop k)) ∧ Keeps (fun _ => False) w3 wr) (fun i _ => l.length - (intOf i).toNat)
            case atStart => exact ⟨0, Nat.zero_le _, rfl, by simp [Hid], Keeps.refl _ _⟩
            case round =>
              obtain ⟨k, hk, rfl, HS0, hkp⟩ := hrel
              have HK4 := hide hkp
              have HV4 := hide ((unhide HV3).keepF hkp)
              by_cases hlt : k < l.length
              · obtain ⟨x, hx⟩ : ∃ x, l[k]? = some x := ⟨_, List.getElem?_eq_getElem hlt⟩
                obtain ⟨b, off, c, e, hbl, hc⟩ := (unhide HV4).cells (by omega)
                simp at e
                obtain ⟨rfl, rfl⟩ := e
                have c0 := (hc k x hx).1
                have hxf := (unhide HFM) x (List.mem_of_getElem? hx)
                have HD := hide (scanT_drop (N := l.length) hx)
                have h46 := (opd_kind _ (op_cases (formB_zero hxf).1)).2.2.2.2
                have hxj := form_jump hxf
                have HOP := hide (fun w' => operand_v x.kind w')
                have i4 : (k : Int) < (l.length : Int) := by omega
                have i0' : (0 : Int) ≤ (k : Int) := by omega
                have HTG := hide (fun (q0 : 0 ≤ x.n) (q1 : x.n ≤ 255) w' (q2 : ValsAt w' (.slice (some ⟨b, off, none⟩) l.length cap) l) => refTarget_v l _ w' q2 k x hx hl q0 q1)
                generalize opdB x.kind = OB at *
                clear hc hx hkp
                go_wp2_with fail
                refine ((unhide HOP) _).mono ?_
                rintro e w5 ⟨rfl, rfl⟩
                by_cases hj : OB = 4
                · have h6 := h46.1 hj
                  obtain ⟨n0, n1⟩ := hxj h6
                  have HT2 := hide ((unhide HTG) n0 n1 _ (unhide HV4))
                  obtain ⟨TG, hTG⟩ : ∃ TG : Nat, k + 1 + x.n.toNat = TG := ⟨_, rfl⟩
                  rw [hTG] at HT2 HD
                  have HJ := hide h6
                  subst hj
                  clear hTG HTG hxj h46 h6
                  go_wp2_with fail
                  refine (unhide HT2).mono ?_
                  rintro e w6 ⟨rfl, hk6⟩
                  have HK6 := hide ((unhide HK4).trans hk6)
                  clear hk6 HT2
                  by_cases hbig : l.length < TG
                  · have b1 : (l.length : Int) < (TG : Int) := by omega
                    have HE : Hid (R = (k, 111)) := by
                      show _ = _
                      rw [unhide HC, unhide HS0, unhide HD, if_pos ⟨unhide HJ, hbig⟩]
                      rfl
                    go_wp2_with fail
                    go_ret2
                    rw [unhide HE]
                    exact ⟨rfl, (unhide HK3).trans (unhide HK6)⟩
                  · have b1 : ¬ (l.length : Int) < (TG : Int) := by omega
                    have HE : Hid (scanT l.length 0 l = scanT l.length (k + 1) (l.drop (k + 1))) := by
                      show _ = _
                      rw [unhide HS0, unhide HD, if_neg (fun h => hbig h.2)]
                    go_wp2_with fail
                    go_roundw
                    case rel => exact ⟨k + 1, by omega, by go_num, HE, unhide HK6⟩
                    case measure => simp [intOf]; omega
                · have b4 : (OB == 4) = false := by simpa using hj
                  have HE : Hid (scanT l.length 0 l = scanT l.length (k + 1) (l.drop (k + 1))) := by
                    show _ = _
                    rw [unhide HS0, unhide HD, if_neg (fun h => hj (h46.2 h.1))]
                  clear hj h46 hxj HTG HD HS0
                  go_wp2_with fail
                  go_roundw
                  case rel => exact ⟨k + 1, by omega, by go_num, HE, unhide HK4⟩
                  case measure => simp [intOf]; omega
              · obtain rfl : k = l.length := by omega
                have i4 : ¬ (l.length : Int) < (l.length : Int) := by omega
                have HE : Hid (R = (0, 0)) := by
                  show _ = _
                  rw [unhide HC, unhide HS0, List.drop_length]
                  rfl
                have HKE := hide ((unhide HK3).trans hkp)
                clear hlt hkp
                go_wp2_with fail
                go_ret2
                rw [unhide HE]
                exact ⟨rfl, unhide HKE⟩
  · have be : (errS S != 0) = true := by simpa using he
    rw [if_pos (show errS S ≠ 0 from he)] at HL
    generalize errS S = E at *
    clear he
    go_wp2_with fail
    go_ret2
    rw [unhide HL]
    exact ⟨rfl, unhide HK1⟩

end Go.Proofs.YtcfnlnceoalnoaaDoor
