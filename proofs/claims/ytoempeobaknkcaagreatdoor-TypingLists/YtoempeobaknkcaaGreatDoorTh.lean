import Derived.Test.YtoempeobaknkcaaGreatDoorJzaz
import Derived.Test.YtoempeobaknkcaaGreatDoorTp
import Derived.Test.YtoempeobaknkcaaGreatDoorJzax
namespace Go.Proofs.YtoempeobaknkcaaGreatDoor
open Go.RowKit Go.Maps

theorem chg_val {E : Int} {K : KA} {d : FieldA} (hE : E = 0) : orL [0, E, ofI ⟨d.type, d.opt⟩ [1], plainI K [1]] = if d.type ≠ 1 then 91 else if K.t ≠ 1 then 91 else if K.o then 92 else 0 := by
  subst hE
  obtain ⟨nm, DT, DO⟩ := d
  obtain ⟨T, O⟩ := K
  by_cases h1 : DT = 1
  · subst h1
    by_cases h2 : T = 1
    · subst h2
      cases O <;> rfl
    · simp [orL, ofI, plainI, orI, h2]
  · simp [orL, ofI, h1]
theorem set_val {E : Int} {K : KA} {d : FieldA} (hE : E = 0) : orL [0, E, ofI K [d.type], if K.o = true ∧ d.opt = false then 92 else 0] = if K.t ≠ d.type then 91 else if K.o = true ∧ d.opt = false then 92 else 0 := by
  subst hE
  obtain ⟨nm, DT, DO⟩ := d
  obtain ⟨T, O⟩ := K
  by_cases h1 : T = DT
  · subst h1
    cases O <;> cases DO <;> simp [orL, ofI]
  · simp [orL, ofI, h1]
theorem if_val {E : Int} {K : KA} (hE : E = 0) : orL [E, plainI K [2]] = if K.t ≠ 2 then 91 else if K.o then 92 else 0 := by
  subst hE
  obtain ⟨T, O⟩ := K
  by_cases h1 : T = 2
  · subst h1
    cases O <;> rfl
  · simp [orL, plainI, orI, ofI, h1]
/-- The reference's own check of a statement. -/
theorem refOwn_v (Z : Zone) (S : List FieldA) (hS : schemaB S = true) (so : Option Addr) (sc : Nat) (op : Int) (f : Txt) (x : EL) (t e : SL) (xv tv ev : Value) (up : Nat) (w : World) (hf : FldsAt w (.slice so S.length sc) S)
    (hx : SlE Z w up xv x) (hv : ∃ to tn tc eo en ec, tv = .slice to tn tc ∧ ev = .slice eo en ec) (hh : headS op f x.len t.len e.len = true) (hw : wellE x = true) :
    Calls Tryz.prog 43 #[.agg #[.slice so S.length sc], stV op f xv tv ev] w fun e w' => e = .returned (.int .i64 (ownP S op f x)) ∧ Keeps (fun _ => False) w w' := by
  obtain ⟨to, tn, tc, eo, en, ec, rfl, rfl⟩ := hv
  rcases head_open hh with ⟨h1, _, hl⟩ | ⟨rfl, _, rfl⟩ | ⟨h1, rfl⟩ | ⟨rfl, hl⟩
  · obtain ⟨o, n, s, kids, rfl⟩ := EL.one_of hl
    simp only [wellE, Bool.and_eq_true] at hw
    have hhk : headK S (.cons o n s kids .nil) = kindP S o s kids := rfl
    obtain ⟨xo, xc, rfl, _⟩ := hx.head
    cases hfo : fieldOf S f with
    | none =>
      have hn : namedK S f = (⟨0, false⟩, 90) := by unfold namedK; rw [hfo]
      have ho : ownP S op f (.cons o n s kids .nil) = 90 := by
        unfold ownP
        rcases h1 with rfl | rfl | rfl | rfl
        · rw [if_pos rfl, hn]; rfl
        all_goals rw [if_neg (by decide), if_pos (by decide), hn]; rfl
      rw [ho]
      exact ownX op h1 S hS so sc f xo to eo _ xc tn tc en ec w hf hfo
    | some d =>
      have hn : namedK S f = (⟨d.type, d.opt⟩, 0) := by unfold namedK; rw [hfo]
      obtain ⟨kf, hkf⟩ := field_at hfo
      by_cases hE : (kindP S o s kids).2 = 0
      · have hk : kindP S o s kids = (⟨(kindP S o s kids).1.t, (kindP S o s kids).1.o⟩, 0) := by rw [← hE]
        have hgo := fun r (hr : OwnA op (kindP S o s kids).1.t (kindP S o s kids).1.o 0 d.type d.opt r) => ownA op h1 Z S hS so sc f o n s kids _ up to eo tn tc en ec w hf hx hw.1 hw.2.1 kf d.name d.type d.opt hkf hfo _ _ _ (zeroK_ok hk) r hr
        rcases h1 with rfl | h1
        · have ho : ownP S 1 f (.cons o n s kids .nil) = if (kindP S o s kids).1.t ≠ d.type then 91 else if (kindP S o s kids).1.o = true ∧ d.opt = false then 92 else 0 := by
            unfold ownP
            rw [if_pos rfl, hn, hhk]
            exact set_val hE
          rw [ho]
          refine hgo _ ?_
          unfold OwnA
          by_cases hT : (kindP S o s kids).1.t = d.type
          · cases hO : (kindP S o s kids).1.o <;> cases hD : d.opt <;> simp [hT]
          · simp [hT]
        · have ho : ownP S op f (.cons o n s kids .nil) = if d.type ≠ 1 then 91 else if (kindP S o s kids).1.t ≠ 1 then 91 else if (kindP S o s kids).1.o then 92 else 0 := by
            unfold ownP
            rw [if_neg (by omega), if_pos h1, hn, hhk]
            exact chg_val hE
          rw [ho]
          refine hgo _ ?_
          unfold OwnA
          have hn1 : ¬ op = 1 := by omega
          by_cases hD : d.type = 1
          · by_cases hT : (kindP S o s kids).1.t = 1
            · cases hO : (kindP S o s kids).1.o <;> simp [hT, hD, hn1]
            · simp [hT, hD, hn1]
          · simp [hD, hn1]
      · have ho : ownP S op f (.cons o n s kids .nil) = (kindP S o s kids).2 := by
          unfold ownP
          rcases h1 with rfl | h1
          · rw [if_pos rfl, hn, hhk, orL_skip, orL_head hE]
          · rw [if_neg (by omega), if_pos h1, hn, hhk, orL_skip, orL_head hE]
        rw [ho]
        exact ownA op h1 Z S hS so sc f o n s kids _ up to eo tn tc en ec w hf hx hw.1 hw.2.1 kf d.name d.type d.opt hkf hfo _ _ _ (zeroK_err rfl hE) _ (Or.inl ⟨hE, rfl⟩)
  · obtain ⟨xo, xc, rfl, _⟩ := hx.head
    have ho : ownP S 5 f .nil = orL [(namedK S f).2, optI (namedK S f).1] := rfl
    rw [ho]
    cases hfo : fieldOf S f with
    | none =>
      rw [show namedK S f = (⟨0, false⟩, 90) from by unfold namedK; rw [hfo]]
      exact own5x S hS so sc f xo to eo _ xc tn tc en ec w hf hfo
    | some d =>
      obtain ⟨kf, hkf⟩ := field_at hfo
      rw [show namedK S f = (⟨d.type, d.opt⟩, 0) from by unfold namedK; rw [hfo]]
      cases hD : d.opt with
      | true => exact own5true S hS so sc f xo to eo _ xc tn tc en ec w hf kf d.name d.type d.opt hD hkf hfo
      | false => exact own5false S hS so sc f xo to eo _ xc tn tc en ec w hf kf d.name d.type d.opt hD hkf hfo
  · obtain ⟨xo, xc, rfl, _⟩ := hx.head
    rcases h1 with rfl | rfl
    · exact own6 S hS so sc f xo to eo _ xc tn tc en ec w hf
    · exact own7 S hS so sc f xo to eo _ xc tn tc en ec w hf
  · obtain ⟨o, n, s, kids, rfl⟩ := EL.one_of hl
    simp only [wellE, Bool.and_eq_true] at hw
    have ho : ownP S 8 f (.cons o n s kids .nil) = orL [(kindP S o s kids).2, plainI (kindP S o s kids).1 [2]] := rfl
    rw [ho]
    by_cases hE : (kindP S o s kids).2 = 0
    · have hk : kindP S o s kids = (⟨(kindP S o s kids).1.t, (kindP S o s kids).1.o⟩, 0) := by rw [← hE]
      rw [if_val hE]
      refine ownB Z S hS so sc f o n s kids xv up to eo tn tc en ec w hf hx hw.1 hw.2.1 _ _ _ (zeroK_ok hk) _ ?_
      unfold OwnB
      by_cases hT : (kindP S o s kids).1.t = 2
      · cases hO : (kindP S o s kids).1.o <;> simp [hT]
      · simp [hT]
    · rw [orL_head hE]
      exact ownB Z S hS so sc f o n s kids xv up to eo tn tc en ec w hf hx hw.1 hw.2.1 _ _ _ (zeroK_err rfl hE) _ (Or.inl ⟨hE, rfl⟩)
end Go.Proofs.YtoempeobaknkcaaGreatDoor
