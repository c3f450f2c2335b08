import Derived.Test.YtafniangljmjeabDoorVl
namespace Go.Proofs.YtafniangljmjeabDoor
open Go.RowKit Go.Maps

def fitE (S : List FieldA) (i : ValA) : Int := if formB i ≠ 0 then formB i else if rightF S i = false then 113 else 0
/-- The operations that ask for more than a field. -/
theorem opd_kind : ∀ o ∈ ([1, 2, 3, 4, 5, 6, 7, 8, 9, 10, 11, 12, 13, 14, 15, 16, 17, 18, 19, 20, 21, 22, 23, 24, 25, 26] : List Int), ((opA o).opd = 4 ↔ (o = 6 ∨ o = 22)) ∧ ((opA o).opd = 5 ↔ o = 21) ∧ ((opA o).opd = 6 ↔ (o = 25 ∨ o = 26)) ∧ (opdB o = 3 ↔ ((opA o).opd = 3 ∨ (opA o).opd = 4 ∨ (opA o).opd = 5)) ∧ (opdB o = 4 ↔ (opA o).opd = 6) := by decide
theorem rightF_as {S : List FieldA} {i : ValA} (hf : formB i = 0) : rightF S i = if opdB i.kind ≠ 3 then true else if (S.length : Int) ≤ i.n then false else if (i.kind = 6 ∨ i.kind = 22) ∧ ((S[i.n.toNat]?).map FieldA.opt).getD false = false then false else if i.kind = 21 ∧ fldT S i ≠ 1 then false else true := by
  obtain ⟨h4, h5, _, h3, _⟩ := opd_kind _ (op_cases (formB_zero hf).1)
  unfold rightF
  by_cases h : opdB i.kind = 3
  · rw [if_neg (show ¬ opdB i.kind ≠ 3 from fun q => q h)]
    by_cases hn : (S.length : Int) ≤ i.n
    · rw [if_pos hn, decide_eq_false (show ¬ i.n < (S.length : Int) by omega)]
      rcases h3.1 h with e | e | e <;> simp [e]
    · rw [if_neg hn, decide_eq_true (show i.n < (S.length : Int) by omega)]
      rcases h3.1 h with e | e | e
      · have n4 : ¬ (i.kind = 6 ∨ i.kind = 22) := fun q => by have := h4.2 q; omega
        have n5 : ¬ i.kind = 21 := fun q => by have := h5.2 q; omega
        rw [if_pos e, if_neg (fun q => n4 q.1), if_neg (fun q => n5 q.1)]
      · have n4 := h4.1 e
        have n5 : ¬ i.kind = 21 := by omega
        rw [if_neg (show ¬ (opA i.kind).opd = 3 by omega), if_pos e, if_neg (show ¬ (i.kind = 21 ∧ fldT S i ≠ 1) from fun q => n5 q.1)]
        cases hq : ((S[i.n.toNat]?).map FieldA.opt).getD false with
        | false => rw [if_pos ⟨n4, rfl⟩]; rfl
        | true => rw [if_neg (fun q => by cases q.2)]; rfl
      · have n5 := h5.1 e
        have n4 : ¬ (i.kind = 6 ∨ i.kind = 22) := by omega
        rw [if_neg (show ¬ (opA i.kind).opd = 3 by omega), if_neg (show ¬ (opA i.kind).opd = 4 by omega), if_pos e, if_neg (show ¬ ((i.kind = 6 ∨ i.kind = 22) ∧ ((S[i.n.toNat]?).map FieldA.opt).getD false = false) from fun q => n4 q.1)]
        by_cases ht : fldT S i = 1
        · rw [if_neg (fun q => q.2 ht), decide_eq_true ht]; rfl
        · rw [if_pos ⟨n5, ht⟩, decide_eq_false ht]; rfl
  · rw [if_pos (show opdB i.kind ≠ 3 from h)]
    have n3 : ¬ (opA i.kind).opd = 3 := fun q => h (h3.2 (Or.inl q))
    have n4 : ¬ (opA i.kind).opd = 4 := fun q => h (h3.2 (Or.inr (Or.inl q)))
    have n5 : ¬ (opA i.kind).opd = 5 := fun q => h (h3.2 (Or.inr (Or.inr q)))
    rw [if_neg n3, if_neg n4, if_neg n5]
set_option maxRecDepth 100000 in
set_option maxHeartbeats 2000000 in
theorem refFits_v (S : List FieldA) (so : Option Addr) (sc : Nat) (i : ValA) (w : World) (hS : FldsAt w (.slice so S.length sc) S) : Calls Tryd.prog 40 #[.agg #[.slice so S.length sc], i.v] w fun e w' => e = .returned (.int .i64 (fitE S i)) ∧ Keeps (fun _ => False) w w' := by
  have HE : Hid (fitE S i = if formB i ≠ 0 then formB i else if rightF S i = false then 113 else 0) := rfl
  generalize fitE S i = R at *
  have HR : Hid (formB i = 0 → rightF S i = if opdB i.kind ≠ 3 then true else if (S.length : Int) ≤ i.n then false else if (i.kind = 6 ∨ i.kind = 22) ∧ ((S[i.n.toNat]?).map FieldA.opt).getD false = false then false else if i.kind = 21 ∧ fldT S i ≠ 1 then false else true) := fun q => rightF_as q
  have HNF : Hid (formB i = 0 → opdB i.kind = 3 → 0 ≤ i.n) := fun q q3 => (form_field q ((opd_kind _ (op_cases (formB_zero q).1)).2.2.2.1.1 q3)).1
  have HF := hide (fun w' => form_v i w')
  have HO := hide (fun w' => operand_v i.kind w')
  have HT : Hid (fldT S i = ((S[i.n.toNat]?).map FieldA.type).getD 0) := rfl
  generalize fldT S i = FT at *
  generalize formB i = FB at *
  generalize rightF S i = RF at *
  obtain ⟨kd, n, s⟩ := i
  unfold ValA.v at *
  simp only at *
  generalize opdB kd = OB at *
  obtain ⟨HX, hxb, hxc⟩ := boxed w #[.slice so S.length sc] 24
  obtain ⟨HY, hyb, hyc⟩ := boxed (w.alloc (.cells #[.slice so S.length sc] 24)) #[.int .i64 kd, .int .i64 n, str s] 54
  have x0 := ((unhide HY).cell hxb id).trans (hxc 0 (.slice so S.length sc) rfl)
  have y0 := hyc 0 (.int .i64 kd) rfl
  have y1 := hyc 1 (.int .i64 n) rfl
  have y2 := hyc 2 (str s) rfl
  rw [World.size_alloc] at y0 y1 y2
  have HK := hide ((unhide HX).trans (unhide HY))
  have HS := hide (hS.keepF (unhide HK))
  have hz0 := Nat.lt_of_lt_of_le hxb (unhide HY).size
  have hz1 : w.heap.size + 1 < ((w.alloc (.cells #[.slice so S.length sc] 24)).alloc (.cells #[.int .i64 kd, .int .i64 n, str s] 54)).heap.size := by simp
  generalize hW : ((w.alloc (.cells #[.slice so S.length sc] 24)).alloc (.cells #[.int .i64 kd, .int .i64 n, str s] 54)) = W at *
  clear hxc hyc HX HY hxb hyb hS
  go_enter Tryd.func40, Tryd.ntmps40
  go_wp2_with fail
  refine ((unhide HF) _).mono ?_
  rintro e w1 ⟨rfl, hk1⟩
  have x1 := (hk1.cell (o := 0) hz0 id).trans x0
  have z0 := (hk1.cell (o := 0) hz1 id).trans y0
  have z1 := (hk1.cell (o := 1) hz1 id).trans y1
  have z2 := (hk1.cell (o := 2) hz1 id).trans y2
  have HK1 := hide ((unhide HK).trans hk1)
  have HS1 := hide ((unhide HS).keepF hk1)
  have hzz : w.heap.size + 1 < w1.heap.size := Nat.lt_of_lt_of_le hz1 hk1.size
  clear hk1 HF x0 y0 y1 y2 HK HS hz0 hz1 hW
  by_cases hf : FB = 0
  · subst hf
    have HR2 := hide ((unhide HR) rfl)
    have HN2 := hide ((unhide HNF) rfl)
    have HE2 : Hid (R = if RF = false then 113 else 0) := unhide HE
    clear HE HR HNF
    go_wp2_with fail
    refine ((unhide HO) _).mono ?_
    rintro e w2 ⟨rfl, rfl⟩
    by_cases h3 : OB = 3
    · subst h3
      have n0 := (unhide HN2) rfl
      rw [if_neg (by simp)] at HR2
      obtain ⟨p, rfl⟩ := Int.eq_ofNat_of_zero_le n0
      by_cases hn : S.length ≤ p
      · have j1 : (S.length : Int) ≤ (p : Int) := by omega
        have HZ : Hid (R = 113) := by show _ = _; rw [unhide HE2, unhide HR2, if_pos j1]; rfl
        clear HR2 HE2
        go_wp2_with fail
        go_ret
        exact ⟨ret_int (unhide HZ).symm, unhide HK1⟩
      · have j1 : ¬ (S.length : Int) ≤ (p : Int) := by omega
        have j2 : (p : Int) < (S.length : Int) := by omega
        rw [if_neg j1] at HR2
        obtain ⟨f, hf⟩ : ∃ f, S[p]? = some f := ⟨_, List.getElem?_eq_getElem (by omega)⟩
        obtain ⟨fb, foff, fc, fe, hfb, hfc⟩ := (unhide HS1).cells (by omega)
        simp only [Value.slice.injEq] at fe
        obtain ⟨rfl, _, rfl⟩ := fe
        have c0 := (hfc p f hf).1
        have c1 := (hfc p f hf).2.1
        have c2 := (hfc p f hf).2.2
        obtain ⟨HY, hyb, hyc⟩ := boxed w2 #[str f.name, .int .i64 f.type, .bool f.opt] 45
        have d1 := hyc 1 (.int .i64 f.type) rfl
        have d2 := hyc 2 (.bool f.opt) rfl
        have HFT : Hid (FT = f.type) := by show _ = _; rw [unhide HT]; simp [hf]
        have HFO : Hid (((S[((p : Nat) : Int).toNat]?).map FieldA.opt).getD false = f.opt) := by show _ = _; simp [hf]
        rw [unhide HFO, unhide HFT] at HR2
        have HKY := hide ((unhide HK1).trans (unhide HY))
        have y0 := ((unhide HY).cell (o := 0) hzz id).trans z0
        generalize f.opt = FO at *
        generalize f.type = TY at *
        clear hfc hf hyc HY HT HFT HFO j1 hn
        by_cases h6 : kd = 6
        · subst h6
          cases FO with
          | false =>
            have HZ : Hid (R = 113) := by show _ = _; rw [unhide HE2, unhide HR2]; simp
            clear HR2 HE2
            go_wp2_with fail
            go_ret
            exact ⟨ret_int (unhide HZ).symm, unhide HKY⟩
          | true =>
            have HZ : Hid (R = 0) := by show _ = _; rw [unhide HE2, unhide HR2]; simp
            clear HR2 HE2
            go_wp2_with fail
            go_ret
            exact ⟨ret_int (unhide HZ).symm, unhide HKY⟩
        · by_cases h22 : kd = 22
          · subst h22
            cases FO with
            | false =>
              have HZ : Hid (R = 113) := by show _ = _; rw [unhide HE2, unhide HR2]; simp
              clear HR2 HE2
              go_wp2_with fail
              go_ret
              exact ⟨ret_int (unhide HZ).symm, unhide HKY⟩
            | true =>
              have HZ : Hid (R = 0) := by show _ = _; rw [unhide HE2, unhide HR2]; simp
              clear HR2 HE2
              go_wp2_with fail
              go_ret
              exact ⟨ret_int (unhide HZ).symm, unhide HKY⟩
          · have b6 : (kd == 6) = false := by simpa using h6
            have b22 : (kd == 22) = false := by simpa using h22
            by_cases h21 : kd = 21
            · subst h21
              by_cases ht : TY = 1
              · subst ht
                have HZ : Hid (R = 0) := by show _ = _; rw [unhide HE2, unhide HR2]; simp
                clear HR2 HE2
                go_wp2_with fail
                go_ret
                exact ⟨ret_int (unhide HZ).symm, unhide HKY⟩
              · have bt : (TY != 1) = true := by simpa using ht
                have HZ : Hid (R = 113) := by show _ = _; rw [unhide HE2, unhide HR2]; simp [ht]
                clear HR2 HE2 ht
                go_wp2_with fail
                go_ret
                exact ⟨ret_int (unhide HZ).symm, unhide HKY⟩
            · have b21 : (kd == 21) = false := by simpa using h21
              have HZ : Hid (R = 0) := by show _ = _; rw [unhide HE2, unhide HR2]; simp [h6, h22, h21]
              clear HR2 HE2 h6 h22 h21
              go_wp2_with fail
              go_ret
              exact ⟨ret_int (unhide HZ).symm, unhide HKY⟩
    · have b3 : (OB != 3) = true := by simpa using h3
      have HZ : Hid (R = 0) := by show _ = _; rw [unhide HE2, unhide HR2, if_pos h3]; rfl
      clear h3 HR2 HE2
      go_wp2_with fail
      go_ret
      exact ⟨ret_int (unhide HZ).symm, unhide HK1⟩
  · have bf : (FB != 0) = true := by simpa using hf
    rw [if_pos hf] at HE
    clear hf
    go_wp2_with fail
    go_ret
    exact ⟨ret_int (unhide HE).symm, unhide HK1⟩

end Go.Proofs.YtafniangljmjeabDoor
