import Derived.Test.YtjhppnecadnekaaDoorJB
import Derived.Test.YtjhppnecadnekaaDoorJt
import Derived.Test.YtjhppnecadnekaaDoorJr
import Derived.Maps.OwnSet
namespace Go.Proofs.YtjhppnecadnekaaDoor
open Go.RowKit Go.Maps

theorem chg_val {E : Int} {K : KA} {d : FieldA} (hE : E = 0) : orL [0, E, ofI ⟨d.type, d.opt⟩ [1], plainI K [1]] = if d.type ≠ 1 then 91 else if K.t ≠ 1 then 91 else if K.o then 92 else 0 := by
  subst hE
  obtain ⟨nm, DT, DO⟩ := d
  obtain ⟨T, O⟩ := K
  by_cases h1 : DT = 1
  · subst h1
    by_cases h2 : T = 1
    · subst h2
      cases O <;> rfl
    · simp [orL, ofI, plainI, orI, h2]
  · simp [orL, ofI, h1]
theorem set_val {E : Int} {K : KA} {d : FieldA} (hE : E = 0) : orL [0, E, ofI K [d.type], if K.o = true ∧ d.opt = false then 92 else 0] = if K.t ≠ d.type then 91 else if K.o = true ∧ d.opt = false then 92 else 0 := by
  subst hE
  obtain ⟨nm, DT, DO⟩ := d
  obtain ⟨T, O⟩ := K
  by_cases h1 : T = DT
  · subst h1
    cases O <;> cases DO <;> simp [orL, ofI]
  · simp [orL, ofI, h1]
theorem if_val {E : Int} {K : KA} (hE : E = 0) : orL [E, plainI K [2]] = if K.t ≠ 2 then 91 else if K.o then 92 else 0 := by
  subst hE
  obtain ⟨T, O⟩ := K
  by_cases h1 : T = 2
  · subst h1
    cases O <;> rfl
  · simp [orL, plainI, orI, ofI, h1]
/-- The reference's own check of a statement. -/
theorem refOwn_v (Z : Zone) (S : List FieldA) (hS : schemaB S = true) (so : Option Addr) (sc : Nat) (op : Int) (f : Txt) (x : EL) (t e : SL) (xv tv ev : Value) (up : Nat) (w : World) (hf : FldsAt w (.slice so S.length sc) S)
    (hx : SlE Z w up xv x) (hv : ∃ to tn tc eo en ec, tv = .slice to tn tc ∧ ev = .slice eo en ec) (hh : headS op f x.len t.len e.len = true) (hw : wellE x = true) :
    Calls Tryd.prog 35 #[.agg #[.slice so S.length sc], stV op f xv tv ev] w fun e w' => e = .returned (.int .i64 (ownP S op f x)) ∧ Keeps (fun _ => False) w w' := by
  obtain ⟨to, tn, tc, eo, en, ec, rfl, rfl⟩ := hv
  rcases head_open hh with ⟨h1, _, hl⟩ | ⟨rfl, _, rfl⟩ | ⟨h1, rfl⟩ | ⟨rfl, hl⟩
  · obtain ⟨o, n, s, kids, rfl⟩ := EL.one_of hl
    simp only [wellE, Bool.and_eq_true] at hw
    have hhk : headK S (.cons o n s kids .nil) = kindP S o s kids := rfl
    obtain ⟨xo, xc, rfl, _⟩ := hx.head
    cases hfo : fieldOf S f with
    | none =>
      have hn : namedK S f = (⟨0, false⟩, 90) := by unfold namedK; rw [hfo]
      have ho : ownP S op f (.cons o n s kids .nil) = 90 := by
        unfold ownP
        rcases h1 with rfl | rfl | rfl | rfl
        · rw [if_pos rfl, hn]; rfl
        all_goals rw [if_neg (by decide), if_pos (by decide), hn]; rfl
      rw [ho]
      rcases h1 with rfl | rfl | rfl | rfl
      · exact own1x S hS so sc f xo to eo _ xc tn tc en ec w hf hfo
      · exact own2x S hS so sc f xo to eo _ xc tn tc en ec w hf hfo
      · exact own3x S hS so sc f xo to eo _ xc tn tc en ec w hf hfo
      · exact own4x S hS so sc f xo to eo _ xc tn tc en ec w hf hfo
    | some d =>
      have hn : namedK S f = (⟨d.type, d.opt⟩, 0) := by unfold namedK; rw [hfo]
      obtain ⟨kf, hkf⟩ := field_at hfo
      by_cases hE : (kindP S o s kids).2 = 0
      · have hk : kindP S o s kids = (⟨(kindP S o s kids).1.t, (kindP S o s kids).1.o⟩, 0) := by rw [← hE]
        rcases h1 with rfl | h1
        · have ho : ownP S 1 f (.cons o n s kids .nil) = if (kindP S o s kids).1.t ≠ d.type then 91 else if (kindP S o s kids).1.o = true ∧ d.opt = false then 92 else 0 := by
            unfold ownP
            rw [if_pos rfl, hn, hhk]
            exact set_val hE
          rw [ho]
          by_cases hT : (kindP S o s kids).1.t = d.type
          · rw [if_neg (by simpa using hT)]
            rw [hT] at hk
            cases hO : (kindP S o s kids).1.o with
            | false =>
              rw [hO] at hk
              rw [if_neg (by simp)]
              exact own1p Z S hS so sc f o n s kids _ up to eo tn tc en ec w hf hx hw.1 hw.2.1 kf d.name d.type d.opt hkf hfo hk
            | true =>
              rw [hO] at hk
              cases hD : d.opt with
              | false =>
                rw [if_pos ⟨rfl, rfl⟩]
                exact own1n Z S hS so sc f o n s kids _ up to eo tn tc en ec w hf hx hw.1 hw.2.1 kf d.name d.type (by rw [hkf, ← hD]) (by rw [hfo, ← hD]) hk
              | true =>
                rw [if_neg (by simp)]
                exact own1o Z S hS so sc f o n s kids _ up to eo tn tc en ec w hf hx hw.1 hw.2.1 kf d.name d.type (by rw [hkf, ← hD]) (by rw [hfo, ← hD]) hk
          · rw [if_pos hT]
            exact own1t Z S hS so sc f o n s kids _ up to eo tn tc en ec w hf hx hw.1 hw.2.1 kf d.name d.type d.opt hkf hfo _ _ hk hT
        · have ho : ownP S op f (.cons o n s kids .nil) = if d.type ≠ 1 then 91 else if (kindP S o s kids).1.t ≠ 1 then 91 else if (kindP S o s kids).1.o then 92 else 0 := by
            unfold ownP
            rw [if_neg (by omega), if_pos h1, hn, hhk]
            exact chg_val hE
          rw [ho]
          by_cases hD : d.type = 1
          · rw [if_neg (by simpa using hD)]
            by_cases hT : (kindP S o s kids).1.t = 1
            · rw [if_neg (by simpa using hT)]
              rw [hT] at hk
              cases hO : (kindP S o s kids).1.o with
              | false =>
                rw [hO] at hk
                rw [if_neg (by simp)]
                rcases h1 with rfl | rfl | rfl
                · exact own2z Z S hS so sc f o n s kids _ up to eo tn tc en ec w hf hx hw.1 hw.2.1 kf d.name d.opt (by rw [hkf, ← hD]) (by rw [hfo, ← hD]) hk
                · exact own3z Z S hS so sc f o n s kids _ up to eo tn tc en ec w hf hx hw.1 hw.2.1 kf d.name d.opt (by rw [hkf, ← hD]) (by rw [hfo, ← hD]) hk
                · exact own4z Z S hS so sc f o n s kids _ up to eo tn tc en ec w hf hx hw.1 hw.2.1 kf d.name d.opt (by rw [hkf, ← hD]) (by rw [hfo, ← hD]) hk
              | true =>
                rw [hO] at hk
                rw [if_pos rfl]
                rcases h1 with rfl | rfl | rfl
                · exact own2o Z S hS so sc f o n s kids _ up to eo tn tc en ec w hf hx hw.1 hw.2.1 kf d.name d.opt (by rw [hkf, ← hD]) (by rw [hfo, ← hD]) hk
                · exact own3o Z S hS so sc f o n s kids _ up to eo tn tc en ec w hf hx hw.1 hw.2.1 kf d.name d.opt (by rw [hkf, ← hD]) (by rw [hfo, ← hD]) hk
                · exact own4o Z S hS so sc f o n s kids _ up to eo tn tc en ec w hf hx hw.1 hw.2.1 kf d.name d.opt (by rw [hkf, ← hD]) (by rw [hfo, ← hD]) hk
            · rw [if_pos hT]
              rcases h1 with rfl | rfl | rfl
              · exact own2t Z S hS so sc f o n s kids _ up to eo tn tc en ec w hf hx hw.1 hw.2.1 kf d.name d.opt (by rw [hkf, ← hD]) (by rw [hfo, ← hD]) _ _ hk hT
              · exact own3t Z S hS so sc f o n s kids _ up to eo tn tc en ec w hf hx hw.1 hw.2.1 kf d.name d.opt (by rw [hkf, ← hD]) (by rw [hfo, ← hD]) _ _ hk hT
              · exact own4t Z S hS so sc f o n s kids _ up to eo tn tc en ec w hf hx hw.1 hw.2.1 kf d.name d.opt (by rw [hkf, ← hD]) (by rw [hfo, ← hD]) _ _ hk hT
          · rw [if_pos hD]
            rcases h1 with rfl | rfl | rfl
            · exact own2f Z S hS so sc f o n s kids _ up to eo tn tc en ec w hf hx hw.1 hw.2.1 kf d.name d.type d.opt hkf hfo _ _ hk hD
            · exact own3f Z S hS so sc f o n s kids _ up to eo tn tc en ec w hf hx hw.1 hw.2.1 kf d.name d.type d.opt hkf hfo _ _ hk hD
            · exact own4f Z S hS so sc f o n s kids _ up to eo tn tc en ec w hf hx hw.1 hw.2.1 kf d.name d.type d.opt hkf hfo _ _ hk hD
      · have ho : ownP S op f (.cons o n s kids .nil) = (kindP S o s kids).2 := by
          unfold ownP
          rcases h1 with rfl | h1
          · rw [if_pos rfl, hn, hhk, orL_skip, orL_head hE]
          · rw [if_neg (by omega), if_pos h1, hn, hhk, orL_skip, orL_head hE]
        rw [ho]
        rcases h1 with rfl | rfl | rfl | rfl
        · exact own1e Z S hS so sc f o n s kids _ up to eo tn tc en ec w hf hx hw.1 hw.2.1 kf d.name d.type d.opt hkf hfo _ rfl hE
        · exact own2e Z S hS so sc f o n s kids _ up to eo tn tc en ec w hf hx hw.1 hw.2.1 kf d.name d.type d.opt hkf hfo _ rfl hE
        · exact own3e Z S hS so sc f o n s kids _ up to eo tn tc en ec w hf hx hw.1 hw.2.1 kf d.name d.type d.opt hkf hfo _ rfl hE
        · exact own4e Z S hS so sc f o n s kids _ up to eo tn tc en ec w hf hx hw.1 hw.2.1 kf d.name d.type d.opt hkf hfo _ rfl hE
  · obtain ⟨xo, xc, rfl, _⟩ := hx.head
    have ho : ownP S 5 f .nil = orL [(namedK S f).2, optI (namedK S f).1] := rfl
    rw [ho]
    cases hfo : fieldOf S f with
    | none =>
      rw [show namedK S f = (⟨0, false⟩, 90) from by unfold namedK; rw [hfo]]
      exact own5x S hS so sc f xo to eo _ xc tn tc en ec w hf hfo
    | some d =>
      obtain ⟨kf, hkf⟩ := field_at hfo
      rw [show namedK S f = (⟨d.type, d.opt⟩, 0) from by unfold namedK; rw [hfo]]
      cases hD : d.opt with
      | true => exact own5true S hS so sc f xo to eo _ xc tn tc en ec w hf kf d.name d.type d.opt hD hkf hfo
      | false => exact own5false S hS so sc f xo to eo _ xc tn tc en ec w hf kf d.name d.type d.opt hD hkf hfo
  · obtain ⟨xo, xc, rfl, _⟩ := hx.head
    rcases h1 with rfl | rfl
    · exact own6 S hS so sc f xo to eo _ xc tn tc en ec w hf
    · exact own7 S hS so sc f xo to eo _ xc tn tc en ec w hf
  · obtain ⟨o, n, s, kids, rfl⟩ := EL.one_of hl
    simp only [wellE, Bool.and_eq_true] at hw
    have ho : ownP S 8 f (.cons o n s kids .nil) = orL [(kindP S o s kids).2, plainI (kindP S o s kids).1 [2]] := rfl
    rw [ho]
    by_cases hE : (kindP S o s kids).2 = 0
    · have hk : kindP S o s kids = (⟨(kindP S o s kids).1.t, (kindP S o s kids).1.o⟩, 0) := by rw [← hE]
      rw [if_val hE]
      by_cases hT : (kindP S o s kids).1.t = 2
      · rw [if_neg (by simpa using hT)]
        rw [hT] at hk
        cases hO : (kindP S o s kids).1.o with
        | false =>
          rw [hO] at hk
          rw [if_neg (by simp)]
          exact own8z Z S hS so sc f o n s kids xv up to eo tn tc en ec w hf hx hw.1 hw.2.1 hk
        | true =>
          rw [hO] at hk
          rw [if_pos rfl]
          exact own8o Z S hS so sc f o n s kids xv up to eo tn tc en ec w hf hx hw.1 hw.2.1 hk
      · rw [if_pos hT]
        exact own8t Z S hS so sc f o n s kids xv up to eo tn tc en ec w hf hx hw.1 hw.2.1 _ _ hk hT
    · rw [orL_head hE]
      exact own8e Z S hS so sc f o n s kids xv up to eo tn tc en ec w hf hx hw.1 hw.2.1 _ rfl hE
end Go.Proofs.YtjhppnecadnekaaDoor
namespace Go.Proofs.YtjhppnecadnekaaDoor
open Go.RowKit Go.Maps

set_option maxRecDepth 100000 in
set_option maxHeartbeats 4000000 in
theorem rcheck_bad (Z : Zone) (S : List FieldA) (l : SL) (hsz : l.size ≤ 4294967294) (sv pv : Value) (w : World) (up : Nat) (hf : FldsAt w sv S) (hp : SlS Z w up pv l) (E : Int) (hE : E ≠ 0)
    (h : schemaB S = false ∧ E = 60 ∨ schemaB S = true ∧ checkS l = E) :
    Calls Tryd.prog 15 #[.agg #[sv], pv] w fun e w' => e = .returned (chkV (E, 0)) ∧ Keeps (fun _ => False) w w' := by
  obtain ⟨ao, cap, rfl, hc⟩ := hp.head
  obtain ⟨so, sc, rfl⟩ := RowAt.form hf
  obtain ⟨HB, hxb, hxc⟩ := boxedT w #[.slice so S.length sc] 24
  have c0 := hxc 0 (.slice so S.length sc) rfl
  have HCS := hide (checkSchema_any S (.slice so S.length sc) _ (hf.keepF (unhide HB)))
  have HCE := fun w' (hk : Keeps (fun _ => False) w w') => hide (rCheck_v Z l hsz w' up (.slice ao l.len cap) (hp.keepF hk))
  clear hf hp hxc
  rcases h with ⟨h1, rfl⟩ | ⟨h1, h2⟩
  · rw [errS_bad h1] at HCS
    clear h1 HCE
    go_enter Tryd.func15, Tryd.ntmps15
    go_wp2_with (go_at_call 10; refine (unhide HCS).mono ?_; rintro e w1 ⟨rfl, hk1⟩; have HKa := hide ((unhide HB).trans hk1); clear hk1)
    refine bodyPost_ret (v := .tuple #[.int .i64 60, .int .i64 0]) (by simp [results, go_sem]) rfl ?_
    exact ⟨rfl, unhide HKa⟩
  · rw [errS_good h1] at HCS
    rw [h2] at HCE
    have n0 : (E != 0) = true := by simpa using hE
    clear h1 h2 hE
    go_enter Tryd.func15, Tryd.ntmps15
    go_wp2_with (first
      | (go_at_call 10; refine (unhide HCS).mono ?_; rintro e w1 ⟨rfl, hk1⟩; have HKa := hide ((unhide HB).trans hk1); clear hk1)
      | (go_at_call 11; refine (unhide (HCE _ (unhide HKa))).mono ?_; rintro e w2 ⟨rfl, hk1⟩; have HKa := hide ((unhide HKa).trans hk1); clear hk1))
    refine bodyPost_ret (v := .tuple #[.int .i64 E, .int .i64 0]) (by simp [results, go_sem]) rfl ?_
    exact ⟨rfl, unhide HKa⟩

set_option maxRecDepth 100000 in
set_option maxHeartbeats 8000000 in
theorem rcheck_fit (Z : Zone) (S : List FieldA) (l : SL) (hsz : l.size ≤ 4294967294) (sv pv : Value) (w : World) (up : Nat) (hf : FldsAt w sv S) (hp : SlS Z w up pv l) (hS : schemaB S = true) (hC : checkS l = 0) :
    Calls Tryd.prog 15 #[.agg #[sv], pv] w fun e w' => e = .returned (chkV (firstBad S (flatS l) 0)) ∧ Keeps (fun _ => False) w w' := by
  have hwl := checkS_well hC
  have hnl : (flatS l).len ≤ 4294967294 := by rw [flatS_len]; exact Nat.le_trans (countS_le l) hsz
  obtain ⟨ao, cap, rfl, hc⟩ := hp.head
  obtain ⟨so, sc, rfl⟩ := RowAt.form hf
  obtain ⟨HB, hxb, hxc⟩ := boxedT w #[.slice so S.length sc] 24
  have c0 := hxc 0 (.slice so S.length sc) rfl
  have SB : ∀ w', Keeps (fun _ => False) (w.alloc (.cells #[.slice so S.length sc] 24)) w' → w'.cell? ⟨w.heap.size, 0, none⟩ = some (.slice so S.length sc) := fun w' hk => (hk.cell hxb id).trans c0
  have HSB := hide SB
  have HCS := hide (checkSchema_any S (.slice so S.length sc) _ (hf.keepF (unhide HB)))
  have HCE := fun w' (hk : Keeps (fun _ => False) w w') => hide (rCheck_v Z l hsz w' up (.slice ao l.len cap) (hp.keepF hk))
  have HNU := fun w' (hk : Keeps (fun _ => False) w w') => hide (flat_v w'.heap.size (l.size + 1) l (by omega) hsz w' 0 (.slice ao l.len cap) (Nat.le_refl _) ((hp.keepF hk).arg (Nat.le_refl _) 0))
  have HF := hide hf
  have HSG := hide hS
  rw [errS_good hS] at HCS
  rw [hC] at HCE
  have HW := hide (flat_well (N := 4294967294) l hsz hwl)
  clear hf hp hxc SB hS hC hwl
  go_enter Tryd.func15, Tryd.ntmps15
  go_wp2_with (first
    | (go_at_call 10; refine (unhide HCS).mono ?_; rintro e w1 ⟨rfl, hk1⟩; have HKa := hide ((unhide HB).trans hk1); have HKb := hide hk1; clear hk1)
    | (go_at_call 11; refine (unhide (HCE _ (unhide HKa))).mono ?_; rintro e w2 ⟨rfl, hk1⟩; have HKa := hide ((unhide HKa).trans hk1); have HKb := hide ((unhide HKb).trans hk1); clear hk1)
    | (go_at_call 34; refine (unhide (HNU _ (unhide HKa))).mono ?_; rintro e w4 ⟨fo, fc, n, xs, rfl, hn, hown, hss, hk1⟩; obtain ⟨g, goff, hg, hst⟩ := num_open hn (rowAt_own hown) hss; have HNL := hide hn; have HG := hide hg; have HST := hide hst; have HKa := hide ((unhide HKa).trans hk1); have HKb := hide ((unhide HKb).trans hk1); clear hn hown hss hg hst hk1))
  have hn2 : n ≤ 4294967294 := by rw [unhide HNL]; exact hnl
  clear hnl HCS HCE HNU c0
  go_loopw [8] (fun i wr => ∃ (rest : SL) (k : Nat), i = .int .i64 k ∧ k + rest.len = n ∧ Hid (firstBad S rest k = firstBad S (flatS l) 0) ∧ wellF 4294967294 rest ∧ Keeps (fun _ => False) w4 wr ∧ StIn (argZ w4.heap.size) w4 rest g (goff + k * 5)) (fun i _ => n - (intOf i).toNat)
  case atStart => exact ⟨flatS l, 0, rfl, by rw [Nat.zero_add]; exact (unhide HNL).symm, rfl, unhide HW, Keeps.refl _ _, by simpa using unhide HST⟩
  case round =>
    obtain ⟨rest, k, rfl, hkl, HS, hwf, hkeep, hr⟩ := hrel
    have HK := hide hkeep
    cases rest with
    | nil =>
      simp only [SL.len, Nat.add_zero] at hkl
      have i1 : ¬ (k : Int) < (n : Int) := by omega
      clear hr hkeep hwf hkl
      go_wp2_with fail
      refine bodyPost_ret (v := .tuple #[.int .i64 0, .int .i64 0]) (by simp [results, go_sem]) rfl ?_
      exact ⟨by rw [← unhide HS]; rfl, (unhide HKa).trans (unhide HK)⟩
    | cons op f x t el rest =>
      obtain ⟨h1, h2, h3, h4, ⟨xv, h5, hxs⟩, ⟨tao, tcap, h6, h7, h8⟩, ⟨eao, ecap, j6, j7, j8⟩, h9⟩ := hr
      obtain ⟨hh, hwx, hxz, hwr⟩ := hwf
      simp only [SL.len] at hkl
      obtain ⟨xao, xcap, rfl, hxl⟩ := hxs.head
      obtain rfl := (unhide HG) (by omega)
      have HR := hide h9
      have HWR := hide hwr
      have i1 : (k : Int) < (n : Int) := by omega
      have ix0 : (0 : Int) ≤ (k : Int) := by omega
      have HKL := hide hkl
      have e0 : ∀ m : KW wr, m.wd.cell? ⟨w.heap.size, 0, none⟩ = some (.slice so S.length sc) := fun m => unhide HSB _ (((unhide HKb).trans hkeep).trans m.kept)
      have f0 : ∀ m : KW wr, m.wd.cell? ⟨g, goff + k * 5, none⟩ = some (.int .i64 op) := fun m => ((hkeep.trans m.kept).cell h1 id).trans h3
      have f1 : ∀ m : KW wr, m.wd.cell? ⟨g, goff + k * 5 + 1, none⟩ = some (str f) := fun m => ((hkeep.trans m.kept).cell h1 id).trans h4
      have f2 : ∀ m : KW wr, m.wd.cell? ⟨g, goff + k * 5 + 2, none⟩ = some (.slice xao x.len xcap) := fun m => ((hkeep.trans m.kept).cell h1 id).trans h5
      have f3 : ∀ m : KW wr, m.wd.cell? ⟨g, goff + k * 5 + 3, none⟩ = some (.slice tao t.len tcap) := fun m => ((hkeep.trans m.kept).cell h1 id).trans h6
      have f4 : ∀ m : KW wr, m.wd.cell? ⟨g, goff + k * 5 + 4, none⟩ = some (.slice eao el.len ecap) := fun m => ((hkeep.trans m.kept).cell h1 id).trans j6
      have HE := hide (fun (m : KW wr) => kw_of m (refOwn_v (argZ w4.heap.size) S (unhide HSG) so sc op f x t el _ (.slice tao t.len tcap) (.slice eao el.len ecap) g m.wd ((unhide HF).keepF (((unhide HKa).trans hkeep).trans m.kept)) (hxs.keepF (hkeep.trans m.kept)) ⟨_, _, _, _, _, _, rfl, rfl⟩ hh hwx))
      have hst : firstBad S (.cons op f x t el rest) k = if ownP S op f x ≠ 0 then (ownP S op f x, k) else firstBad S rest (k + 1) := rfl
      rw [hst] at HS
      obtain ⟨R, hR⟩ : ∃ R, R = ownP S op f x := ⟨_, rfl⟩
      rw [← hR] at HE HS
      clear hkeep h1 h2 h3 h4 h5 h6 h8 h9 j6 j8 hxs hst hR hh hwx hwr hkl
      by_cases hR0 : R = 0
      · subst hR0
        rw [if_neg (by simp)] at HS
        go_wp2_with fail
        refine region_kept (by kernel_rfl) (by kernel_rfl) ?_
        repeat (go_big_quiet_step ((go_at_call 35; exact unhide HE _)))
        refine wpQuiet_nil ?_
        rintro _ ⟨nq, rfl⟩
        have HK1 := hide nq.kept
        go_wp2_with fail
        go_roundw
        case rel =>
          refine ⟨rest, k + 1, by go_num, by have := unhide HKL; omega, unhide HS, unhide HWR, (unhide HK).trans (unhide HK1), ?_⟩
          rw [show goff + (k + 1) * 5 = goff + k * 5 + 5 by omega]
          exact unhide HR
        case measure => have := unhide HKL; simp [intOf]; omega
      · have n0 : (R != 0) = true := by simpa using hR0
        rw [if_pos hR0] at HS
        clear hR0
        go_wp2_with fail
        refine region_kept (by kernel_rfl) (by kernel_rfl) ?_
        repeat (go_big_quiet_step ((go_at_call 35; exact unhide HE _)))
        refine wpQuiet_nil ?_
        rintro _ ⟨nq, rfl⟩
        have HK1 := hide nq.kept
        go_wp2_with fail
        refine bodyPost_ret (v := .tuple #[.int .i64 R, .int .i64 (k : Int)]) (by simp [results, go_sem]) rfl ?_
        exact ⟨by rw [← unhide HS], ((unhide HKa).trans (unhide HK)).trans (unhide HK1)⟩
theorem rcheck9_v (Z : Zone) (S : List FieldA) (l : SL) (hsz : l.size ≤ 4294967294) (sv pv : Value) (w : World) (up : Nat) (hf : FldsAt w sv S) (hp : SlS Z w up pv l) :
    Calls Tryd.prog 15 #[.agg #[sv], pv] w fun e w' => e = .returned (chkV (checkP S l)) ∧ Keeps (fun _ => False) w w' := by
  unfold checkP
  cases hS : schemaB S with
  | false =>
    rw [errS_bad hS, if_pos (by decide)]
    exact rcheck_bad Z S l hsz sv pv w up hf hp 60 (by decide) (Or.inl ⟨hS, rfl⟩)
  | true =>
    rw [errS_good hS, if_neg (by simp)]
    by_cases hE : checkS l = 0
    · rw [if_neg (by simpa using hE)]
      exact rcheck_fit Z S l hsz sv pv w up hf hp hS hE
    · rw [if_pos hE]
      exact rcheck_bad Z S l hsz sv pv w up hf hp _ hE (Or.inr ⟨hS, rfl⟩)

set_option maxRecDepth 100000 in
set_option maxHeartbeats 4000000 in
theorem checks_walk (S : List FieldA) (hlS : S.length ≤ 4398046511104) (l : SL) (sv pv : Value) (w : World) (hT : Types w) (hF : Forms w) (hf : FldsAt w sv S) (hp : SlS (argZ w.heap.size) w 0 pv l) :
    Calls Tryd.prog 5 #[.agg #[sv], pv] w fun e w' => e = .returned (.bool true) ∧ Keeps (fun _ => False) w w' := by
  obtain ⟨ao, cap, rfl, hc⟩ := hp.head
  obtain ⟨so, sc, rfl⟩ := RowAt.form hf
  obtain ⟨HB, hxb, hxc⟩ := boxedT w #[.slice so S.length sc] 24
  have SB : ∀ w', Keeps (fun _ => False) (w.alloc (.cells #[.slice so S.length sc] 24)) w' → w'.cell? ⟨w.heap.size, 0, none⟩ = some (.slice so S.length sc) := fun w' hk => (hk.cell hxb id).trans (hxc 0 _ rfl)
  have HSB := hide SB
  have HD := hide (deepStmts w.heap.size 0 l (.slice ao l.len cap) _ (by simp) (hp.keepF (unhide HB)))
  have HCH' := fun (hsz : l.size ≤ 4294967294) w' (hk : Keeps (fun _ => False) w w') => hide (lawCheck_v (argZ w.heap.size) S hlS l hsz (.slice so S.length sc) (.slice ao l.len cap) w' 0 (hT.keepF hk) (hF.keepF hk) (hf.keepF hk) (hp.keepF hk))
  have HRC' := fun (hsz : l.size ≤ 4294967294) w' (hk : Keeps (fun _ => False) w w') => hide (rcheck9_v (argZ w.heap.size) S l hsz (.slice so S.length sc) (.slice ao l.len cap) w' 0 (hf.keepF hk) (hp.keepF hk))
  obtain ⟨⟨E, a⟩, hp⟩ : ∃ z, z = checkP S l := ⟨_, rfl⟩
  rw [← hp] at HCH' HRC'
  clear hT hF hf hp SB hxc
  go_enter Tryd.func5, Tryd.ntmps5
  go_wp2_with fail
  refine (unhide HD).mono ?_
  rintro e w1 ⟨r, rfl, hk1, hsz⟩
  have HK1 := hide ((unhide HB).trans hk1)
  have HKb := hide hk1
  have y1 := unhide HSB _ hk1
  cases r with
  | true =>
    clear hk1 hsz
    go_wp2_with fail
    go_ret
    exact ⟨rfl, unhide HK1⟩
  | false =>
    have hs : l.size ≤ 4294967294 := by have := hsz rfl; omega
    have HCH := HCH' hs
    have HRC := HRC' hs
    clear HCH' HRC' hk1 hsz hs
    go_wp2_with (first
      | (go_at_call 9; refine (unhide (HCH _ (unhide HK1))).mono ?_; rintro e w2 ⟨rfl, hk2⟩; have HK1 := hide ((unhide HK1).trans hk2); have HKb := hide ((unhide HKb).trans hk2); have y2 := unhide HSB _ (unhide HKb); clear hk2)
      | (go_at_call 15; refine (unhide (HRC _ (unhide HK1))).mono ?_; rintro e w3 ⟨rfl, hk2⟩; have HK1 := hide ((unhide HK1).trans hk2); clear hk2))
    go_ret
    exact ⟨rfl, unhide HK1⟩
end Go.Proofs.YtjhppnecadnekaaDoor
namespace Go.Proofs.YtjhppnecadnekaaDoor
open Go.RowKit Go.Maps

/-- A map of counts. -/
def Cnt (w : World) (mb n : Nat) (c : Txt → Nat) : Prop :=
  ∃ D : DataW Unit, w.ownsMap Tryd.prog 9 (plainElem Tryd.prog 3) mb n D ∧ (∀ s, D.atKey (.string s) (.lit (.int .i64 0)) = .lit (.int .i64 (c s))) ∧ ∀ s, c s ≤ n
def bump (c : Txt → Nat) (nm : Txt) (s : Txt) : Nat := if s = nm then c s + 1 else c s
theorem zero3 (w : World) : (zeroValue 3).run Tryd.prog w = .ok (.int .i64 0) w := by kernel_rfl
theorem Cnt.congr {w : World} {mb n : Nat} {c c' : Txt → Nat} (h : Cnt w mb n c) (e : ∀ s, c s = c' s) : Cnt w mb n c' := by
  have : c = c' := funext e
  rw [← this]
  exact h
theorem Cnt.keep {w w' : World} {mb n : Nat} {c : Txt → Nat} (h : Cnt w mb n c) {F : Nat → Prop} (hk : Keeps F w w') (hF : ¬ F mb) : Cnt w' mb n c := by
  obtain ⟨D, ⟨es, clock, hb, r⟩, h2⟩ := h
  exact ⟨D, ⟨es, clock, (hk.block _ (lt_of_block hb) hF).trans hb, r⟩, h2⟩
theorem Cnt.lt {w : World} {mb n : Nat} {c : Txt → Nat} (h : Cnt w mb n c) : mb < w.heap.size := by
  obtain ⟨D, h1, _⟩ := h
  exact h1.lt
theorem Cnt.le {w : World} {mb n : Nat} {c : Txt → Nat} (h : Cnt w mb n c) (s : Txt) : c s ≤ n := by
  obtain ⟨D, _, _, h1⟩ := h
  exact h1 s
theorem Cnt.made (w : World) : Cnt (w.alloc (.map #[] 0)) w.heap.size 0 (fun _ => 0) :=
  ⟨.map [], World.ownsMap_made w Tryd.prog 9 _, fun _ => rfl, fun _ => Nat.le_refl _⟩
theorem Cnt.look {w : World} {mb n : Nat} {c : Txt → Nat} (h : Cnt w mb n c) {nm : Txt} (hl : nm.length ≤ 1000) :
    (Instr.lookup 85 (.map (some mb)) (str nm) false).run Tryd.prog w = .ok (.int .i64 (c nm)) w := by
  obtain ⟨D, h1, h2, _⟩ := h
  obtain ⟨x, hrun, hat, _⟩ := h1.lookup_int strKeyed Tryd.underlying85 Tryd.underlying3 (zero3 w) (keyStr hl)
  rw [h2 nm] at hat
  simp at hat
  rw [hrun, hat]
theorem Cnt.store {w : World} {mb n : Nat} {c : Txt → Nat} (h : Cnt w mb n c) {nm : Txt} (hl : nm.length ≤ 1000) (hn : n ≤ 4611686018427387904) :
    ∃ w', (Instr.mapUpdate 85 (.map (some mb)) (str nm) (.int .i64 ((c nm : Int) + 1))).run Tryd.prog w = .ok () w' ∧ Cnt w' mb (n + 1) (bump c nm) ∧ Keeps (fun k => k = mb) w w' := by
  obtain ⟨D, h1, h2, h3⟩ := h
  have hc := h3 nm
  have hw : (Lit.int .i64 ((c nm : Int) + 1)).wf = true := by simp [Lit.wf, IntKind.min, IntKind.max, IntKind.signed, IntKind.bits]; omega
  obtain ⟨w', hrun, hm, ht⟩ := h1.store strKeyed Tryd.underlying85 (by unfold maxLen; omega) (keyStr hl) (plainElem_int Tryd.underlying3 hw)
  refine ⟨w', hrun, ⟨_, hm, fun s => ?_, fun s => ?_⟩, (Keeps.refl _ _).grown ht.grown (fun q e _ => by simpa using e.symm)⟩
  · unfold bump
    by_cases e : s = nm
    · subst e
      rw [atKey_put_same h1.isMap (isKeyStr _), if_pos rfl]
      simp
    · rw [atKey_put_other (fun h => e (by simpa using h)), if_neg e, h2 s]
  · have := h3 s
    unfold bump
    split <;> omega
/-- How often a list of expressions names a field. -/
def cntE : EL → Txt → Nat
  | .nil, _ => 0
  | .cons op _ s kids rest, x => (if (op = 4 ∨ op = 5) ∧ s = x then 1 else 0) + cntE kids x + cntE rest x
theorem rootB_name {op n : Int} {s : Txt} {k : Nat} (h : rootB op n s k = true) (ho : op = 4 ∨ op = 5) : s.length ≤ 1000 := by
  unfold rootB leafB at h
  rw [if_neg (show ¬ op = 1 by omega), if_neg (show ¬ op = 2 by omega), if_neg (show ¬ op = 3 by omega), if_pos ho] at h
  simp only [Bool.and_eq_true] at h
  have := name_short h.2.2.2
  omega

set_option maxRecDepth 100000 in
set_option maxHeartbeats 4000000 in
theorem countNames_v (B mb : Nat) (hBm : B ≤ mb) (N : Nat) : ∀ (l : EL), l.size < N → l.size ≤ 4294967294 → wellE l = true → ∀ (w : World) (up : Nat) (v : Value) (n : Nat) (c : Txt → Nat), SlE (argZ B) w up v l → Cnt w mb n c → n + l.size ≤ 4611686018427387904 →
    Calls Tryd.prog 55 #[.map (some mb), v] w fun e w' => e = .returned (.tuple #[]) ∧ ∃ n', n' ≤ n + l.size ∧ Cnt w' mb n' (fun x => c x + cntE l x) ∧ Keeps (fun k => k = mb) w w' := by
  induction N with
  | zero => intro l h; omega
  | succ N ih =>
    intro l hsz hlen' hwl w up v n c hS hC hn
    have hlen : l.len ≤ 4294967294 := by have := EL.len_le l; omega
    obtain ⟨ao, cap, b, off, rfl, hcap, ha, hx⟩ := hS.open
    have IH := hide ih
    have HX := hide hx
    have HA := hide ha
    have HC := hide hC
    have HWL := hide hwl
    clear hS ih hx ha hC hwl
    go_enter Tryd.func55, Tryd.ntmps55
    go_wp2_with fail
    go_loopw [8] (fun i wr => ∃ (rest : EL) (k m : Nat) (d : Txt → Nat), i = .int .i64 k ∧ k + rest.len = l.len ∧ rest.size ≤ l.size ∧ wellE rest = true ∧ m + rest.size ≤ n + l.size ∧ Hid (∀ x, d x + cntE rest x = c x + cntE l x) ∧ Cnt wr mb m d ∧ Keeps (fun k => k = mb) w wr ∧ ExIn (argZ B) wr rest b (off + k * 4)) (fun i _ => l.len - (intOf i).toNat)
    case atStart => exact ⟨l, 0, n, c, rfl, by omega, Nat.le_refl _, unhide HWL, Nat.le_refl _, fun _ => rfl, unhide HC, Keeps.refl _ _, by simpa using unhide HX⟩
    case round =>
      obtain ⟨rest, k, m, d, rfl, hkl, hrs, hwr, hm, HD, hc, hkeep, hr⟩ := hrel
      have HK := hide hkeep
      have HCN := hide hc
      cases rest with
      | nil =>
        simp only [EL.len, EL.size] at hkl hm hrs
        have i1 : ¬ (k : Int) < (l.len : Int) := by omega
        clear hc hkeep hr hwr
        go_wp2_with fail
        go_end0
        exact ⟨rfl, m, by omega, (unhide HCN).congr (fun x => by have := unhide HD x; simpa [cntE] using this), unhide HK⟩
      | cons op nn s kids rest =>
        obtain ⟨h1, h2, h3, h4, h5, ⟨kao, kcap, h6, h7, h8⟩, h9⟩ := hr
        simp only [EL.len, EL.size] at hkl hm hrs
        simp only [wellE, Bool.and_eq_true] at hwr
        obtain ⟨hroot, hwk, hwr⟩ := hwr
        obtain ⟨rfl, hp⟩ := (unhide HA) (by omega)
        have HKID : Hid (SlE (argZ B) wr b (.slice kao kids.len kcap) kids) := ⟨kao, kcap, rfl, h7, h8⟩
        have HR := hide h9
        have i1 : (k : Int) < (l.len : Int) := by omega
        have ix0 : (0 : Int) ≤ (k : Int) := by omega
        obtain ⟨HB, hxb, hxc⟩ := boxedT wr #[.int .i64 op, .int .i64 nn, str s, .slice kao kids.len kcap] 78
        have y0 := hxc 0 (.int .i64 op) rfl
        have y2 := hxc 2 (str s) rfl
        have y3 := hxc 3 (.slice kao kids.len kcap) rfl
        have HWK := hide hwk
        have HWR := hide hwr
        have hc1 : Cnt (wr.alloc (.cells #[.int .i64 op, .int .i64 nn, str s, .slice kao kids.len kcap] 78)) mb m d := hc.keep (unhide HB) id
        have hmlt := hc.lt
        have HKA : Hid (Keeps (fun k => k = mb) w (wr.alloc (.cells #[.int .i64 op, .int .i64 nn, str s, .slice kao kids.len kcap] 78))) := (unhide HK).alloc _
        have HKB : Hid (Keeps (fun k => k = mb) wr (wr.alloc (.cells #[.int .i64 op, .int .i64 nn, str s, .slice kao kids.len kcap] 78))) := (Keeps.refl _ wr).alloc _
        by_cases ho : op = 4 ∨ op = 5
        · have hl := rootB_name hroot ho
          have hlk := hc1.look hl
          obtain ⟨w1, hst, hc2, hk2⟩ := hc1.store hl (by omega)
          have q3 := (hk2.cell (o := 3) hxb (show ¬ wr.heap.size = mb by omega)).trans y3
          have HCALL := hide (unhide IH kids (by omega) (by omega) (unhide HWK) w1 b (.slice kao kids.len kcap) (m + 1) _ ((unhide HKID).argKeep ((unhide HKB).trans hk2) (fun k e => by omega)) hc2 (by omega))
          have HK2 := hide hk2
          have hd1 : d s ≤ 4611686018427387904 := by have := hc1.le s; omega
          clear hc hkeep h2 h8 h9 hxc hc1 hc2 hk2 hroot hwk hwr hl
          rcases ho with rfl | rfl
          · go_wp2_with (go_at_call 55; refine (unhide HCALL).mono ?_; rintro e w2 ⟨rfl, n2, hn2, hc3, hk3⟩; have HC3 := hide hc3; have HK3 := hide hk3; clear hc3 hk3)
            go_roundw
            case rel =>
              refine ⟨rest, k + 1, n2, _, by go_num, by omega, by omega, unhide HWR, by omega, fun x => ?_, unhide HC3, ((unhide HKA).trans (unhide HK2)).trans (unhide HK3), ?_⟩
              · have h := unhide HD x
                simp only [cntE] at h
                unfold bump
                by_cases e : x = s
                · subst e; simp at h ⊢; omega
                · rw [if_neg e]; rw [if_neg (fun h => e h.2.symm)] at h; omega
              · rw [show off + (k + 1) * 4 = off + k * 4 + 4 by omega]
                exact (unhide HR).argKeep (((unhide HKB).trans (unhide HK2)).trans (unhide HK3)) (fun k e => by omega)
            case measure => simp [intOf]; omega
          · go_wp2_with (go_at_call 55; refine (unhide HCALL).mono ?_; rintro e w2 ⟨rfl, n2, hn2, hc3, hk3⟩; have HC3 := hide hc3; have HK3 := hide hk3; clear hc3 hk3)
            go_roundw
            case rel =>
              refine ⟨rest, k + 1, n2, _, by go_num, by omega, by omega, unhide HWR, by omega, fun x => ?_, unhide HC3, ((unhide HKA).trans (unhide HK2)).trans (unhide HK3), ?_⟩
              · have h := unhide HD x
                simp only [cntE] at h
                unfold bump
                by_cases e : x = s
                · subst e; simp at h ⊢; omega
                · rw [if_neg e]; rw [if_neg (fun h => e h.2.symm)] at h; omega
              · rw [show off + (k + 1) * 4 = off + k * 4 + 4 by omega]
                exact (unhide HR).argKeep (((unhide HKB).trans (unhide HK2)).trans (unhide HK3)) (fun k e => by omega)
            case measure => simp [intOf]; omega
        · have o4 : (op == 4) = false := by simp; omega
          have o5 : (op == 5) = false := by simp; omega
          have HCALL := hide (unhide IH kids (by omega) (by omega) (unhide HWK) _ b (.slice kao kids.len kcap) m _ ((unhide HKID).argKeep (unhide HKB) (fun k e => by omega)) hc1 (by omega))
          have HO := hide ho
          clear hc hkeep h2 h8 h9 hxc hc1 hroot hwk hwr ho
          go_wp2_with (go_at_call 55; refine (unhide HCALL).mono ?_; rintro e w2 ⟨rfl, n2, hn2, hc3, hk3⟩; have HC3 := hide hc3; have HK3 := hide hk3; clear hc3 hk3)
          go_roundw
          case rel =>
            refine ⟨rest, k + 1, n2, _, by go_num, by omega, by omega, unhide HWR, by omega, fun x => ?_, unhide HC3, (unhide HKA).trans (unhide HK3), ?_⟩
            · have h := unhide HD x
              simp only [cntE] at h
              rw [if_neg (fun h => (unhide HO) h.1)] at h
              omega
            · rw [show off + (k + 1) * 4 = off + k * 4 + 4 by omega]
              exact (unhide HR).argKeep ((unhide HKB).trans (unhide HK3)) (fun k e => by omega)
          case measure => simp [intOf]; omega
end Go.Proofs.YtjhppnecadnekaaDoor
namespace Go.Proofs.YtjhppnecadnekaaDoor
open Go.RowKit Go.Maps

theorem Tryd.info9 : (Tryd.prog.info? 9).map (fun i => (i.zero, i.size, i.bytes)) = some (some (.string ⟨#[]⟩), 1, 16) := by kernel_rfl
/-- The names of the fields that are meant, as cells. -/
def nmC (l : List Txt) : List Value := l.map str
def pick (S : List FieldA) (p : Txt → Bool) : List Txt := (S.map FieldA.name).filter p
theorem pick_snoc (S : List FieldA) (f : FieldA) (p : Txt → Bool) : pick (S ++ [f]) p = pick S p ++ (if p f.name then [f.name] else []) := by
  unfold pick
  rw [List.map_append, List.filter_append]
  simp [List.filter]
  split <;> simp_all
theorem pick_le (S : List FieldA) (p : Txt → Bool) : (pick S p).length ≤ S.length := by
  unfold pick
  have := List.length_filter_le p (S.map FieldA.name)
  simpa using this
theorem nmC_snoc (l : List Txt) (x : Txt) : nmC (l ++ [x]) = nmC l ++ [str x] := by simp [nmC]
/-- A list of names of one's own. -/
def NmAt (w : World) (base : Nat) (v : Value) (l : List Txt) : Prop := w.ownsRow base 9 1 v l.length (nmC l)

set_option maxRecDepth 100000 in
set_option maxHeartbeats 4000000 in
theorem namesOf_v (S : List FieldA) (hl : S.length ≤ 8) (hn : ∀ f ∈ S, f.name.length ≤ 8) (mb n : Nat) (c : Txt → Nat) (sv : Value) (w : World) (hf : FldsAt w sv S) (hC : Cnt w mb n c) :
    Calls Tryd.prog 56 #[.agg #[sv], .map (some mb)] w fun e w' => ∃ v, e = .returned v ∧ NmAt w' w.heap.size v (pick S (fun s => decide (0 < c s))) ∧ Keeps (fun _ => False) w w' := by
  obtain ⟨i0, hi, hz0, hz1, hz2⟩ := info_parts Tryd.info9
  obtain ⟨ao, cap, rfl⟩ := RowAt.form hf
  have HF := hide hf
  have HC := hide hC
  have HN := hide hn
  obtain ⟨HB, hxb, hxc⟩ := boxedT w #[.slice ao S.length cap] 24
  have c0 := hxc 0 (.slice ao S.length cap) rfl
  have hsz : (w.alloc (.cells #[.slice ao S.length cap] 24)).heap.size = w.heap.size + 1 := by simp
  clear hf hC hn hxc
  go_enter Tryd.func56, Tryd.ntmps56
  go_wp2_with fail
  go_loopw [5, 11] (fun o i wr => ∃ (k : Nat), i = .int .i64 k ∧ k ≤ S.length ∧ NmAt wr w.heap.size o (pick (S.take k) (fun s => decide (0 < c s))) ∧ Keeps (fun _ => False) w wr) (fun _ i _ => S.length - (intOf i).toNat)
  case atStart => exact ⟨0, rfl, Nat.zero_le _, World.ownsRow_nil _ w.heap.size 9 1, unhide HB⟩
  case round =>
    obtain ⟨k, rfl, hk, hown, hkeep⟩ := hrel
    obtain ⟨oo, oc, rfl⟩ := (rowAt_own hown).form
    have HO := hide hown
    have HK := hide hkeep
    cases h : S[k]? with
    | none =>
      have h1 := get_ge h
      obtain rfl : k = S.length := by omega
      have i1 : ¬ (S.length : Int) < (S.length : Int) := by omega
      clear h h1 hown hkeep hk
      go_wp2_with fail
      go_ret
      exact ⟨_, rfl, by have := unhide HO; rwa [List.take_length] at this, unhide HK⟩
    | some f =>
      have h1 := get_lt h
      have hfl := (unhide HN) f (List.mem_of_getElem? h)
      obtain ⟨b, off, c1, e, hbl, hc⟩ := (unhide HF).cells (by omega)
      simp at e
      obtain ⟨rfl, rfl⟩ := e
      have q0 := (hkeep.cell hbl id).trans (hc k f h).1
      have q1 := (hkeep.cell hbl id).trans (hc k f h).2.1
      have q2 := (hkeep.cell hbl id).trans (hc k f h).2.2
      have i1 : (k : Int) < (S.length : Int) := by omega
      have ix0 : (0 : Int) ≤ (k : Int) := by omega
      obtain ⟨HB2, hxb2, hxc2⟩ := boxedT wr #[str f.name, .int .i64 f.type, .bool f.opt] 45
      have y0 := hxc2 0 (str f.name) rfl
      have hlk := (((unhide HC).keep hkeep id).keep (unhide HB2) id).look (nm := f.name) (by omega)
      have HTK := hide (take_snoc _ _ _ h)
      have hm : (pick (S.take k) (fun s => decide (0 < c s))).length ≤ 8 := by have := pick_le (S.take k) (fun s => decide (0 < c s)); simp at this; omega
      have HPS := hide (pick_snoc (S.take k) f (fun s => decide (0 < c s)))
      by_cases hp : 0 < c f.name
      · have hpi : (0 : Int) < (c f.name : Int) := by omega
        have HP := hide hp
        have HNB := hide (heap_alloc_new (wr.alloc (.cells #[str f.name, .int .i64 f.type, .bool f.opt] 45)) (.cells #[str f.name] 9))
        have hs2 : (wr.alloc (.cells #[str f.name, .int .i64 f.type, .bool f.opt] 45)).heap.size = wr.heap.size + 1 := by simp
        rw [hs2] at HNB
        have HOX := hide (ownsRow_kept hown (((Keeps.refl (fun _ => False) wr).alloc (.cells #[str f.name, .int .i64 f.type, .bool f.opt] 45)).alloc (.cells #[str f.name] 9)) (fun _ _ => id))
        have hB0 := hkeep.size
        clear h hc hown hkeep hxc2 hp
        go_wp2_with (at_builtin; refine wpList_append_lies _ rfl _ _ _ rfl w.heap.size 9 i0 _ 1 16 Tryd.underlying39 hi hz0 hz1 hz2 rfl (by omega) (.slice oo _ oc) _ _ rfl (unhide HOX) ⟨wr.heap.size + 1, 0, none⟩ 1 1 [str f.name] rfl rfl (World.news_of_block (cs := #[str f.name]) (t := 9) (fr := (0, 0)) (unhide HNB)) (by simp [Value.oneCell']) (by omega) (by unfold maxLen; omega) (by omega) (by simp; omega) (wr.heap.size + 2) (by simp) ?_; intro g6 c6 w6 hown6 hgrow hat _; have HO6 := hide hown6; have HGR := hide hgrow; clear hown6 hgrow hat)
        go_roundw
        case rel =>
          refine ⟨k + 1, by go_num, by omega, ?_, (((unhide HK).alloc _).alloc _).grown (unhide HGR) (fun q e hq => by have := ((unhide HO).lt q e).1; omega)⟩
          rw [unhide HTK, unhide HPS, if_pos (by simpa using unhide HP)]
          unfold NmAt
          rw [nmC_snoc, List.length_append]
          exact unhide HO6
        case measure => simp [intOf]; omega
      · have hpi : ¬ (0 : Int) < (c f.name : Int) := by omega
        have HP := hide hp
        have HOX := hide (ownsRow_kept hown ((Keeps.refl (fun _ => False) wr).alloc (.cells #[str f.name, .int .i64 f.type, .bool f.opt] 45)) (fun _ _ => id))
        clear h hc hown hkeep hxc2 hp
        go_wp2_with fail
        go_roundw
        case rel =>
          refine ⟨k + 1, by go_num, by omega, ?_, (unhide HK).alloc _⟩
          rw [unhide HTK, unhide HPS, if_neg (by simpa using unhide HP), List.append_nil]
          exact unhide HOX
        case measure => simp [intOf]; omega
end Go.Proofs.YtjhppnecadnekaaDoor
namespace Go.Proofs.YtjhppnecadnekaaDoor
open Go.RowKit Go.Maps

theorem cnt_one (op n : Int) (s : Txt) (k r : EL) (x : Txt) : decide (0 < cntE (.cons op n s k r) x) = (decide ((op = 4 ∨ op = 5) ∧ s = x) || decide (0 < cntE k x) || decide (0 < cntE r x)) := by
  rw [Bool.eq_iff_iff]
  simp only [Bool.or_eq_true, decide_eq_true_eq]
  show 0 < (if (op = 4 ∨ op = 5) ∧ s = x then 1 else 0) + cntE k x + cntE r x ↔ _
  by_cases h : (op = 4 ∨ op = 5) ∧ s = x
  · rw [if_pos h]
    exact ⟨fun _ => Or.inl (Or.inl h), fun _ => by omega⟩
  · rw [if_neg h]
    refine ⟨fun h2 => ?_, fun h2 => ?_⟩
    · by_cases h3 : 0 < cntE k x
      · exact Or.inl (Or.inr h3)
      · exact Or.inr (by omega)
    · rcases h2 with (h2 | h2) | h2
      · exact absurd h2 h
      · omega
      · omega

theorem cnt_head (op n : Int) (s : Txt) (k r : EL) (x : Txt) : decide (0 < cntE (.cons op n s k r) x) = (decide (0 < cntE (.cons op n s k .nil) x) || decide (0 < cntE r x)) := by
  rw [cnt_one, cnt_one]
  have e0 : decide (0 < cntE EL.nil x) = false := by simp [cntE]
  rw [e0, Bool.or_false]

set_option maxRecDepth 100000 in
set_option maxHeartbeats 4000000 in
theorem names_v (Z : Zone) (x : Txt) (N : Nat) : ∀ (kids : EL), kids.size < N → kids.size ≤ 4294967294 → ∀ (op n : Int) (s : Txt) (w : World) (up : Nat) (v : Value), SlE Z w up v kids →
    Calls Tryd.prog 57 #[exV op n s v, str x] w fun e w' => e = .returned (.bool (decide (0 < cntE (.cons op n s kids .nil) x))) ∧ Keeps (fun _ => False) w w' := by
  induction N with
  | zero => intro l h; omega
  | succ N ih =>
    intro l hsz hlen' op n s w up v hS
    have hlen : l.len ≤ 4294967294 := by have := EL.len_le l; omega
    obtain ⟨ao, cap, b, off, rfl, hcap, ha, hx⟩ := hS.open
    obtain ⟨HB, hxb, hxc⟩ := boxedT w #[.int .i64 op, .int .i64 n, str s, .slice ao l.len cap] 78
    have c0 := hxc 0 (.int .i64 op) rfl
    have c2 := hxc 2 (str s) rfl
    have c3 := hxc 3 (.slice ao l.len cap) rfl
    have IH := hide ih
    have HX := hide hx
    have HA := hide ha
    clear hS ih hx ha hxc
    rw [cnt_one]
    by_cases hh : (op = 4 ∨ op = 5) ∧ s = x
    · rw [decide_eq_true hh, Bool.true_or, Bool.true_or]
      obtain ⟨ho, rfl⟩ := hh
      rcases ho with rfl | rfl
      all_goals
        go_enter Tryd.func57, Tryd.ntmps57
        go_wp2_with fail
        go_ret
        exact ⟨rfl, unhide HB⟩
    · rw [decide_eq_false hh, Bool.false_or]
      have e0 : decide (0 < cntE EL.nil x) = false := by simp [cntE]
      rw [e0, Bool.or_false]
      have HH := hide hh
      by_cases ho : op = 4 ∨ op = 5
      · have hs : (s == x) = false := by
          simp only [beq_eq_false_iff_ne, ne_eq]
          exact fun e => hh ⟨ho, e⟩
        clear hh
        rcases ho with rfl | rfl
        · go_enter Tryd.func57, Tryd.ntmps57
          go_wp2_with fail
          go_loopw [5] (fun i wr => ∃ (rest : EL) (k : Nat), i = .int .i64 k ∧ k + rest.len = l.len ∧ rest.size ≤ l.size ∧ Hid (decide (0 < cntE rest x) = decide (0 < cntE l x)) ∧ Keeps (fun _ => False) (w.alloc (.cells #[.int .i64 4, .int .i64 n, str s, .slice ao l.len cap] 78)) wr ∧ ExIn Z wr rest b (off + k * 4)) (fun i _ => l.len - (intOf i).toNat)
          case atStart => exact ⟨l, 0, rfl, by omega, Nat.le_refl _, rfl, Keeps.refl _ _, by simpa using (unhide HX).keepF (unhide HB)⟩
          case round =>
            obtain ⟨rest, k, rfl, hkl, hrs, HWE, hkeep, hr⟩ := hrel
            have q3 := (hkeep.cell (o := 3) hxb id).trans c3
            have HK := hide hkeep
            clear hkeep
            cases rest with
            | nil =>
              simp only [EL.len, EL.size] at hkl hrs
              clear hr
              have i1 : ¬ (k : Int) < (l.len : Int) := by omega
              go_wp2_with fail
              go_ret
              exact ⟨ret_bool (by rw [← unhide HWE]; simp [cntE]), (unhide HB).trans (unhide HK)⟩
            | cons op' n' s' kids rest =>
              obtain ⟨h1, h2, h3, h4, h5, ⟨kao, kcap, h6, h7, h8⟩, h9⟩ := hr
              simp only [EL.len, EL.size] at hkl hrs
              obtain ⟨rfl, hp⟩ := (unhide HA) (by omega)
              have HKID : Hid (SlE Z wr b (.slice kao kids.len kcap) kids) := ⟨kao, kcap, rfl, h7, h8⟩
              have HR := hide h9
              have i1 : (k : Int) < (l.len : Int) := by omega
              have i0 : (0 : Int) ≤ (k : Int) := by omega
              have HKD := hide (unhide IH kids (by omega) (by omega) op' n' s' wr b (.slice kao kids.len kcap) (unhide HKID))
              have HWE2 := hide ((cnt_head op' n' s' kids rest x).symm.trans (unhide HWE))
              generalize decide (0 < cntE (.cons op' n' s' kids .nil) x) = r at HKD HWE2
              clear h2 h8 h9 HWE
              cases r with
              | true =>
                go_wp2_with (go_at_call 57; refine (unhide HKD).mono ?_; rintro e w1 ⟨rfl, hk1⟩; have HK1 := hide hk1; clear hk1)
                go_ret
                exact ⟨ret_bool (by rw [← unhide HWE2]; rfl), ((unhide HB).trans (unhide HK)).trans (unhide HK1)⟩
              | false =>
                go_wp2_with (go_at_call 57; refine (unhide HKD).mono ?_; rintro e w1 ⟨rfl, hk1⟩; have HK1 := hide hk1; clear hk1)
                go_roundw
                case rel =>
                  refine ⟨rest, k + 1, by go_num, by omega, by omega, by rw [← unhide HWE2]; rfl, (unhide HK).trans (unhide HK1), ?_⟩
                  rw [show off + (k + 1) * 4 = off + k * 4 + 4 by omega]
                  exact (unhide HR).keepF (unhide HK1)
                case measure => simp [intOf]; omega
        · go_enter Tryd.func57, Tryd.ntmps57
          go_wp2_with fail
          go_loopw [5] (fun i wr => ∃ (rest : EL) (k : Nat), i = .int .i64 k ∧ k + rest.len = l.len ∧ rest.size ≤ l.size ∧ Hid (decide (0 < cntE rest x) = decide (0 < cntE l x)) ∧ Keeps (fun _ => False) (w.alloc (.cells #[.int .i64 5, .int .i64 n, str s, .slice ao l.len cap] 78)) wr ∧ ExIn Z wr rest b (off + k * 4)) (fun i _ => l.len - (intOf i).toNat)
          case atStart => exact ⟨l, 0, rfl, by omega, Nat.le_refl _, rfl, Keeps.refl _ _, by simpa using (unhide HX).keepF (unhide HB)⟩
          case round =>
            obtain ⟨rest, k, rfl, hkl, hrs, HWE, hkeep, hr⟩ := hrel
            have q3 := (hkeep.cell (o := 3) hxb id).trans c3
            have HK := hide hkeep
            clear hkeep
            cases rest with
            | nil =>
              simp only [EL.len, EL.size] at hkl hrs
              clear hr
              have i1 : ¬ (k : Int) < (l.len : Int) := by omega
              go_wp2_with fail
              go_ret
              exact ⟨ret_bool (by rw [← unhide HWE]; simp [cntE]), (unhide HB).trans (unhide HK)⟩
            | cons op' n' s' kids rest =>
              obtain ⟨h1, h2, h3, h4, h5, ⟨kao, kcap, h6, h7, h8⟩, h9⟩ := hr
              simp only [EL.len, EL.size] at hkl hrs
              obtain ⟨rfl, hp⟩ := (unhide HA) (by omega)
              have HKID : Hid (SlE Z wr b (.slice kao kids.len kcap) kids) := ⟨kao, kcap, rfl, h7, h8⟩
              have HR := hide h9
              have i1 : (k : Int) < (l.len : Int) := by omega
              have i0 : (0 : Int) ≤ (k : Int) := by omega
              have HKD := hide (unhide IH kids (by omega) (by omega) op' n' s' wr b (.slice kao kids.len kcap) (unhide HKID))
              have HWE2 := hide ((cnt_head op' n' s' kids rest x).symm.trans (unhide HWE))
              generalize decide (0 < cntE (.cons op' n' s' kids .nil) x) = r at HKD HWE2
              clear h2 h8 h9 HWE
              cases r with
              | true =>
                go_wp2_with (go_at_call 57; refine (unhide HKD).mono ?_; rintro e w1 ⟨rfl, hk1⟩; have HK1 := hide hk1; clear hk1)
                go_ret
                exact ⟨ret_bool (by rw [← unhide HWE2]; rfl), ((unhide HB).trans (unhide HK)).trans (unhide HK1)⟩
              | false =>
                go_wp2_with (go_at_call 57; refine (unhide HKD).mono ?_; rintro e w1 ⟨rfl, hk1⟩; have HK1 := hide hk1; clear hk1)
                go_roundw
                case rel =>
                  refine ⟨rest, k + 1, by go_num, by omega, by omega, by rw [← unhide HWE2]; rfl, (unhide HK).trans (unhide HK1), ?_⟩
                  rw [show off + (k + 1) * 4 = off + k * 4 + 4 by omega]
                  exact (unhide HR).keepF (unhide HK1)
                case measure => simp [intOf]; omega
      · have o4 : (op == 4) = false := by simp; omega
        have o5 : (op == 5) = false := by simp; omega
        clear hh
        go_enter Tryd.func57, Tryd.ntmps57
        go_wp2_with fail
        go_loopw [5] (fun i wr => ∃ (rest : EL) (k : Nat), i = .int .i64 k ∧ k + rest.len = l.len ∧ rest.size ≤ l.size ∧ Hid (decide (0 < cntE rest x) = decide (0 < cntE l x)) ∧ Keeps (fun _ => False) (w.alloc (.cells #[.int .i64 op, .int .i64 n, str s, .slice ao l.len cap] 78)) wr ∧ ExIn Z wr rest b (off + k * 4)) (fun i _ => l.len - (intOf i).toNat)
        case atStart => exact ⟨l, 0, rfl, by omega, Nat.le_refl _, rfl, Keeps.refl _ _, by simpa using (unhide HX).keepF (unhide HB)⟩
        case round =>
          obtain ⟨rest, k, rfl, hkl, hrs, HWE, hkeep, hr⟩ := hrel
          have q3 := (hkeep.cell (o := 3) hxb id).trans c3
          have HK := hide hkeep
          clear hkeep
          cases rest with
          | nil =>
            simp only [EL.len, EL.size] at hkl hrs
            clear hr
            have i1 : ¬ (k : Int) < (l.len : Int) := by omega
            go_wp2_with fail
            go_ret
            exact ⟨ret_bool (by rw [← unhide HWE]; simp [cntE]), (unhide HB).trans (unhide HK)⟩
          | cons op' n' s' kids rest =>
            obtain ⟨h1, h2, h3, h4, h5, ⟨kao, kcap, h6, h7, h8⟩, h9⟩ := hr
            simp only [EL.len, EL.size] at hkl hrs
            obtain ⟨rfl, hp⟩ := (unhide HA) (by omega)
            have HKID : Hid (SlE Z wr b (.slice kao kids.len kcap) kids) := ⟨kao, kcap, rfl, h7, h8⟩
            have HR := hide h9
            have i1 : (k : Int) < (l.len : Int) := by omega
            have i0 : (0 : Int) ≤ (k : Int) := by omega
            have HKD := hide (unhide IH kids (by omega) (by omega) op' n' s' wr b (.slice kao kids.len kcap) (unhide HKID))
            have HWE2 := hide ((cnt_head op' n' s' kids rest x).symm.trans (unhide HWE))
            generalize decide (0 < cntE (.cons op' n' s' kids .nil) x) = r at HKD HWE2
            clear h2 h8 h9 HWE
            cases r with
            | true =>
              go_wp2_with (go_at_call 57; refine (unhide HKD).mono ?_; rintro e w1 ⟨rfl, hk1⟩; have HK1 := hide hk1; clear hk1)
              go_ret
              exact ⟨ret_bool (by rw [← unhide HWE2]; rfl), ((unhide HB).trans (unhide HK)).trans (unhide HK1)⟩
            | false =>
              go_wp2_with (go_at_call 57; refine (unhide HKD).mono ?_; rintro e w1 ⟨rfl, hk1⟩; have HK1 := hide hk1; clear hk1)
              go_roundw
              case rel =>
                refine ⟨rest, k + 1, by go_num, by omega, by omega, by rw [← unhide HWE2]; rfl, (unhide HK).trans (unhide HK1), ?_⟩
                rw [show off + (k + 1) * 4 = off + k * 4 + 4 by omega]
                exact (unhide HR).keepF (unhide HK1)
              case measure => simp [intOf]; omega
end Go.Proofs.YtjhppnecadnekaaDoor
namespace Go.Proofs.YtjhppnecadnekaaDoor
open Go.RowKit Go.Maps

/-- How often a program's statements, laid flat, read a field; how often they write it. -/
def rdF : SL → Txt → Nat
  | .nil, _ => 0
  | .cons op f x _ _ r, s => cntE x s + (if (op = 2 ∨ op = 3 ∨ op = 4) ∧ f = s then 1 else 0) + rdF r s
def wrF : SL → Txt → Nat
  | .nil, _ => 0
  | .cons op f _ _ _ r, s => (if (op = 1 ∨ op = 2 ∨ op = 3 ∨ op = 4 ∨ op = 5) ∧ f = s then 1 else 0) + wrF r s
/-- What Fields answers. -/
def fieldsP (S : List FieldA) (l : SL) : List Txt × List Txt × Int :=
  if (checkP S l).1 ≠ 0 then ([], [], (checkP S l).1) else (pick S (fun s => decide (0 < rdF (flatS l) s)), pick S (fun s => decide (0 < wrF (flatS l) s)), 0)
def weight : SL → Nat
  | .nil => 0
  | .cons _ _ x _ _ r => x.size + 2 + weight r
theorem weight_app : ∀ l m : SL, weight (l.app m) = weight l + weight m
  | .nil, m => by simp [SL.app, weight]
  | .cons _ _ x _ _ r, m => by simp only [SL.app, weight, weight_app r m]; omega
theorem weight_flat : ∀ l : SL, weight (flatS l) ≤ 2 * l.size
  | .nil => by simp [flatS, weight]
  | .cons _ _ x t e r => by
    have h1 := weight_flat t
    have h2 := weight_flat e
    have h3 := weight_flat r
    simp only [flatS, weight, weight_app, SL.size]
    omega
/-- Where the numbered statements lie. -/
theorem nums_open {base n c : Nat} {w' : World} {ao : Option Addr} {xs : List Value} (ho : w'.ownsRow base 64 5 (.slice ao n c) n xs) :
    ∃ g go, base ≤ g ∧ (n ≠ 0 → ao = some ⟨g, go, none⟩) ∧ ∀ j x, xs[j]? = some x → g < w'.heap.size ∧ w'.cell? ⟨g, go + j, none⟩ = some x := by
  rcases Nat.eq_zero_or_pos n with h0 | h0
  · refine ⟨base, 0, Nat.le_refl _, fun h => absurd h0 h, fun i x hx => ?_⟩
    have hl := ho.1
    rw [h0, Nat.zero_mul] at hl
    rw [List.eq_nil_of_length_eq_zero hl] at hx
    simp at hx
  · obtain ⟨g, go, cap, e, hg, hc⟩ := (rowAt_own ho).cells h0
    simp at e
    obtain ⟨rfl, rfl⟩ := e
    exact ⟨g, go, (ho.lt g rfl).1, fun _ => rfl, fun j x hx => ⟨hg, hc j x hx⟩⟩
theorem cnt_two {w1 w4 : World} (hk : Keeps (fun _ => False) ((w1.alloc (.map #[] 0)).alloc (.map #[] 0)) w4) : Cnt w4 w1.heap.size 0 (fun _ => 0) ∧ Cnt w4 (w1.heap.size + 1) 0 (fun _ => 0) := by
  have h := Cnt.made (w1.alloc (.map #[] 0))
  have e : (w1.alloc (.map #[] 0)).heap.size = w1.heap.size + 1 := by simp
  rw [e] at h
  exact ⟨((Cnt.made w1).keep ((Keeps.refl (fun _ => False) _).alloc _) id).keep hk id, h.keep hk id⟩
/-- What is left of the numbered statements. -/
def NIn (B : Nat) (w4 : World) (F : Nat → Prop) (g o : Nat) (rest : SL) (yr : List Value) (wr : World) : Prop :=
  SsIn (argZ B) wr rest yr ∧ (∀ j x, yr[j]? = some x → g < wr.heap.size ∧ wr.cell? ⟨g, o + j, none⟩ = some x) ∧ Keeps F w4 wr
theorem NIn.step {B g o : Nat} {w4 wr wa w' : World} {F : Nat → Prop} {op : Int} {f : Txt} {x : EL} {t e r : SL} {a1 a2 a3 a4 a5 : Value} {ys : List Value} (h : NIn B w4 F g o (.cons op f x t e r) (a1 :: a2 :: a3 :: a4 :: a5 :: ys) wr) (ha : Keeps (fun _ => False) wr wa) (hk : Keeps F wa w') (hF : ∀ q, F q → B ≤ q) (hg : ¬ F g) : NIn B w4 F g (o + 5) r ys w' := by
  obtain ⟨h1, h2, h3⟩ := h
  have hk2 : Keeps F wr w' := (ha.mono (fun _ _ h => h.elim)).trans hk
  obtain ⟨xv, tv, ev, xs', e', _, _, _, hs⟩ := h1
  simp only [List.cons.injEq] at e'
  obtain ⟨_, _, _, _, _, rfl⟩ := e'
  refine ⟨hs.argKeep hk2 hF, fun j x hx => ?_, h3.trans hk2⟩
  obtain ⟨hl, hc⟩ := h2 (j + 5) x (by simpa using hx)
  rw [show o + 5 + j = o + (j + 5) by omega]
  exact ⟨Nat.lt_of_lt_of_le hl hk2.size, (hk2.cell hl hg).trans hc⟩
theorem headS_name {op : Int} {f : Txt} {a b c : Nat} (h : headS op f a b c = true) (ho : op = 1 ∨ op = 2 ∨ op = 3 ∨ op = 4 ∨ op = 5) : f.length ≤ 1000 := by
  unfold headS at h
  split at h
  · simp only [Bool.and_eq_true] at h
    have := name_short h.1
    omega
  · rw [if_pos (by omega)] at h
    simp only [Bool.and_eq_true] at h
    have := name_short h.1
    omega
theorem checkP_zero {S : List FieldA} {l : SL} (h : (checkP S l).1 = 0) : schemaB S = true ∧ checkS l = 0 := by
  unfold checkP at h
  cases hs : schemaB S with
  | false => rw [errS_bad hs, if_pos (by decide)] at h; simp at h
  | true =>
    rw [errS_good hs, if_neg (by simp)] at h
    by_cases hc : checkS l = 0
    · exact ⟨rfl, hc⟩
    · rw [if_pos hc] at h
      exact absurd h hc

set_option maxRecDepth 100000 in
set_option maxHeartbeats 4000000 in
theorem tfields_bad (Z : Zone) (S : List FieldA) (l : SL) (hsz : l.size ≤ 4294967294) (sv pv : Value) (w : World) (up : Nat) (hT : Types w) (hF : Forms w) (hf : FldsAt w sv S) (hp : SlS Z w up pv l) (hE : (checkP S l).1 ≠ 0) :
    Calls Tryd.prog 36 #[.agg #[sv], pv] w fun e w' => e = .returned (.tuple #[.slice none 0 0, .slice none 0 0, .int .i64 (checkP S l).1]) ∧ Keeps (fun _ => False) w w' := by
  obtain ⟨ao, cap, rfl, hc⟩ := hp.head
  obtain ⟨so, sc, rfl⟩ := RowAt.form hf
  obtain ⟨HB, hxb, hxc⟩ := boxedT w #[.slice so S.length sc] 24
  have c0 := hxc 0 (.slice so S.length sc) rfl
  have HCK := fun w' (hk : Keeps (fun _ => False) w w') => hide (tcheck_v Z S l hsz (.slice so S.length sc) (.slice ao l.len cap) w' up (hT.keepF hk) (hF.keepF hk) (hf.keepF hk) (hp.keepF hk))
  obtain ⟨⟨E, at'⟩, hpv⟩ : ∃ p, p = checkP S l := ⟨_, rfl⟩
  rw [← hpv] at hE HCK ⊢
  have hE' : (E != 0) = true := by simpa using hE
  clear hT hF hf hp hxc hpv hE
  go_enter Tryd.func36, Tryd.ntmps36
  go_wp2_with (go_at_call 24; refine (unhide (HCK _ (unhide HB))).mono ?_; rintro e w1 ⟨rfl, hk1⟩; have HKa := hide ((unhide HB).trans hk1); clear hk1)
  refine bodyPost_ret (v := .tuple #[.slice none 0 0, .slice none 0 0, .int .i64 E]) (by simp [results, go_sem]) rfl ?_
  exact ⟨rfl, unhide HKa⟩

set_option maxRecDepth 100000 in
set_option maxHeartbeats 4000000 in
theorem tfields_fit (Z : Zone) (S : List FieldA) (l : SL) (hsz : l.size ≤ 4294967294) (sv pv : Value) (w : World) (up : Nat) (hT : Types w) (hF : Forms w) (hf : FldsAt w sv S) (hp : SlS Z w up pv l) (hE : (checkP S l).1 = 0) :
    Calls Tryd.prog 36 #[.agg #[sv], pv] w fun e w' => ∃ rv wv, e = .returned (.tuple #[rv, wv, .int .i64 0]) ∧ NmAt w' w.heap.size rv (pick S (fun s => decide (0 < rdF (flatS l) s))) ∧ NmAt w' w.heap.size wv (pick S (fun s => decide (0 < wrF (flatS l) s))) ∧ Keeps (fun _ => False) w w' := by
  obtain ⟨hS, hC⟩ := checkP_zero hE
  have hwl := checkS_well hC
  have hnl : (flatS l).len ≤ 4294967294 := by rw [flatS_len]; exact Nat.le_trans (countS_le l) hsz
  obtain ⟨ao, cap, rfl, hc⟩ := hp.head
  obtain ⟨so, sc, rfl⟩ := RowAt.form hf
  obtain ⟨HB, hxb, hxc⟩ := boxedT w #[.slice so S.length sc] 24
  have c0 := hxc 0 (.slice so S.length sc) rfl
  have SB : ∀ w', Keeps (fun _ => False) (w.alloc (.cells #[.slice so S.length sc] 24)) w' → w'.cell? ⟨w.heap.size, 0, none⟩ = some (.slice so S.length sc) := fun w' hk => (hk.cell hxb id).trans c0
  have HSB := hide SB
  have HCK := fun w' (hk : Keeps (fun _ => False) w w') => hide (tcheck_v Z S l hsz (.slice so S.length sc) (.slice ao l.len cap) w' up (hT.keepF hk) (hF.keepF hk) (hf.keepF hk) (hp.keepF hk))
  have HNU := fun w' (hk : Keeps (fun _ => False) w w') => hide (numbered_v w.heap.size (l.size + 1) l (by omega) hsz w' 0 (.slice ao l.len cap) hk.size ((hp.arg (Nat.le_refl _) 0).keepF hk))
  obtain ⟨⟨E, at'⟩, hpv⟩ : ∃ p, p = checkP S l := ⟨_, rfl⟩
  rw [← hpv] at hE HCK
  subst hE
  have hmm := @run_makeMap Tryd.prog
  have HF := hide hf
  have HW := hide (flat_well (N := 4294967294) l hsz hwl)
  clear hT hF hf hp hxc hpv SB hC hwl
  go_enter Tryd.func36, Tryd.ntmps36
  go_wp2_with (first
    | (go_at_call 24; refine (unhide (HCK _ (unhide HB))).mono ?_; rintro e w1 ⟨rfl, hk1⟩; have HKa := hide ((unhide HB).trans hk1); have HKb := hide hk1; clear hk1)
    | (go_at_call 43; refine (unhide (HNU _ (((unhide HKa).alloc _).alloc _))).mono ?_; rintro e w4 ⟨fo, fc, n, xs, rfl, hn, hown, hss, hk4⟩; obtain ⟨g, goff, hgb, hg, hcl⟩ := nums_open hown; have HNL := hide hn; have HG := hide hg; have HCL := hide hcl; have HGB := hide hgb; have HSS := hide hss; have HC1 := hide (cnt_two hk4).1; have HC2 := hide (cnt_two hk4).2; have HK4 := hide ((((unhide HKa).alloc _).alloc _).trans hk4); have HK4b := hide ((((unhide HKb).alloc _).alloc _).trans hk4); clear hn hg hcl hown hss hk4 hgb))
  have hn2 : n ≤ 4294967294 := by rw [unhide HNL]; exact hnl
  have hw1 : w.heap.size ≤ w1.heap.size := (unhide HKa).size
  have hgm : w1.heap.size + 2 ≤ g := by have := unhide HGB; simpa using this
  have hwt : weight (flatS l) ≤ 8589934588 := by have := weight_flat l; omega
  clear hnl HCK HNU c0 HGB
  go_loopw [27] (fun i wr => ∃ (rest : SL) (yr : List Value) (k n1 n2 : Nat) (d1 d2 : Txt → Nat), i = .int .i64 k ∧ k + rest.len = n ∧ wellF 4294967294 rest ∧ Hid (∀ s, d1 s + rdF rest s = rdF (flatS l) s) ∧ Hid (∀ s, d2 s + wrF rest s = wrF (flatS l) s) ∧ n1 + weight rest ≤ 8589934588 ∧ n2 + weight rest ≤ 8589934588 ∧ Cnt wr w1.heap.size n1 d1 ∧ Cnt wr (w1.heap.size + 1) n2 d2 ∧ NIn w.heap.size w4 (fun q => q = w1.heap.size ∨ q = w1.heap.size + 1) g (goff + k * 5) rest yr wr) (fun i _ => n - (intOf i).toNat)
  case atStart => exact ⟨flatS l, xs, 0, 0, 0, fun _ => 0, fun _ => 0, rfl, by rw [Nat.zero_add]; exact (unhide HNL).symm, unhide HW, fun s => Nat.zero_add _, fun s => Nat.zero_add _, by omega, by omega, unhide HC1, unhide HC2, unhide HSS, by simpa using unhide HCL, Keeps.refl _ _⟩
  case round =>
    obtain ⟨rest, yr, k, n1, n2, d1, d2, rfl, hkl, hwf, HR1, HR2, hw1', hw2', hd1, hd2, hin⟩ := hrel
    have HIN := hide hin
    have HD1 := hide hd1
    have HD2' := hide hd2
    cases rest with
    | nil =>
      simp only [SL.len, Nat.add_zero] at hkl
      have i1 : ¬ (k : Int) < (n : Int) := by omega
      have hkw := hin.2.2
      have hs1 : w.heap.size + 1 ≤ w1.heap.size := by have := (unhide HKb).size; simpa using this
      have hs4 := (unhide HK4b).size
      have cr := (hkw.cell (o := 0) (Nat.lt_of_lt_of_le hxb hs4) (show ¬ (w.heap.size = w1.heap.size ∨ w.heap.size = w1.heap.size + 1) by omega)).trans (unhide HSB _ (unhide HK4b))
      have hkr : Keeps (fun _ => False) w wr := (unhide HK4).narrow hkw (fun q e => by omega)
      have HKR := hide hkr
      have hwl := hkr.size
      have hSB := hS
      unfold schemaB at hSB
      simp only [Bool.and_eq_true, decide_eq_true_eq] at hSB
      have hl8 := hSB.1.1.1.2
      have hnm : ∀ f ∈ S, f.name.length ≤ 8 := by
        intro f hf
        have h := List.all_eq_true.1 hSB.1.1.2 f hf
        unfold fieldOK at h
        simp only [Bool.and_eq_true] at h
        exact name_short h.1
      have HN1 := fun (w' : World) (hk : Keeps (fun _ => False) wr w') => hide (namesOf_v S hl8 hnm w1.heap.size n1 d1 (.slice so S.length sc) w' (((unhide HF).keepF hkr).keepF hk) (hd1.keep hk id))
      have HN2 := fun (w' : World) (hk : Keeps (fun _ => False) wr w') => hide (namesOf_v S hl8 hnm (w1.heap.size + 1) n2 d2 (.slice so S.length sc) w' (((unhide HF).keepF hkr).keepF hk) (hd2.keep hk id))
      have e1 : d1 = rdF (flatS l) := funext (fun s => by have := unhide HR1 s; simpa [rdF] using this)
      have e2 : d2 = wrF (flatS l) := funext (fun s => by have := unhide HR2 s; simpa [wrF] using this)
      rw [e1] at HN1
      rw [e2] at HN2
      have hxw : w.heap.size < wr.heap.size := by have := hkw.size; omega
      have CR : ∀ w', Keeps (fun _ => False) wr w' → w'.cell? ⟨w.heap.size, 0, none⟩ = some (.slice so S.length sc) := fun w' hk => (hk.cell hxw id).trans cr
      have HCR := hide CR
      have HWL := hide hwl
      have mk1 : True := trivial
      have kr0 : Hid (Keeps (fun _ => False) wr wr) := Keeps.refl _ _
      clear hd1 hd2 hin hkw hkr hSB hnm e1 e2 hwf hw1' hw2' HR1 HR2 HIN HD1 HD2' hs1 hs4 CR hl8 hwl hkl
      go_wp2_with fail
      go_region_held3 (fun w' => w'.cell? ⟨w.heap.size, 0, none⟩ = some (.slice so S.length sc)) (first | with_reducible exact unhide HCR _ (unhide kr0) | with_reducible exact unhide HCR _ (unhide kr0).drew)
        ((first
          | (clear mk1; go_at_call 56; refine (unhide (HN1 _ (by first | with_reducible exact unhide kr0 | with_reducible exact (unhide kr0).drew))).mono ?_; rintro e wA ⟨v1, rfl, hv1, hkA⟩; have HV1 := hide hv1; have HKA := hide hkA; have kr1 : Keeps (fun _ => False) wr wA := (by first | with_reducible exact (unhide kr0).trans hkA | with_reducible exact (unhide kr0).drew.trans hkA); have kr0 := hide kr1; clear kr1 hv1 hkA; have mk2 : True := trivial)
          | (clear mk2; go_at_call 56; refine (unhide (HN2 _ (by first | with_reducible exact unhide kr0 | with_reducible exact (unhide kr0).drew))).mono ?_; rintro e wB ⟨v2, rfl, hv2, hkB⟩; have HV2 := hide hv2; have HKB := hide hkB; have kr1 : Keeps (fun _ => False) wr wB := (by first | with_reducible exact (unhide kr0).trans hkB | with_reducible exact (unhide kr0).drew.trans hkB); have kr0 := hide kr1; clear kr1 hv2 hkB)))
      all_goals go_wp2_with fail
      all_goals
        refine bodyPost_ret (v := .tuple #[v1, v2, .int .i64 0]) (by simp [results, go_sem]) rfl ?_
        exact ⟨v1, v2, rfl, ownsRow_lower (ownsRow_kept (unhide HV1) (by first | exact unhide HKB | exact (Keeps.refl _ _).drew.trans (unhide HKB)) (fun _ _ => id)) (unhide HWL), ownsRow_lower (unhide HV2) (Nat.le_trans (unhide HWL) (unhide HKA).size), (unhide HKR).trans (unhide kr0)⟩
    | cons op f x t el rest =>
      obtain ⟨xv, tv, ev, xs2, rfl, hsx, hst', hse, hsr⟩ := hin.1
      obtain ⟨xao, xcap, rfl, hxl⟩ := hsx.head
      obtain ⟨tao, tcap, rfl, htl⟩ := hst'.head
      obtain ⟨eao, ecap, rfl, hel⟩ := hse.head
      obtain ⟨hh, hwx, hxz, hwr⟩ := hwf
      simp only [SL.len] at hkl
      simp only [weight] at hw1' hw2'
      obtain rfl := (unhide HG) (by omega)
      have z0 := (hin.2.1 0 _ rfl).2
      have z1 := (hin.2.1 1 _ rfl).2
      have z2 := (hin.2.1 2 _ rfl).2
      have z3 := (hin.2.1 3 _ rfl).2
      have z4 := (hin.2.1 4 _ rfl).2
      rw [Nat.add_zero] at z0
      have i1 : (k : Int) < (n : Int) := by omega
      have ix0 : (0 : Int) ≤ (k : Int) := by omega
      obtain ⟨HB2, hxb2, hxc2⟩ := boxedT wr #[.int .i64 op, str f, .slice xao x.len xcap, .slice tao t.len tcap, .slice eao el.len ecap] 64
      have y0 := hxc2 0 (.int .i64 op) rfl
      have y1 := hxc2 1 (str f) rfl
      have y2 := hxc2 2 (.slice xao x.len xcap) rfl
      have hlt2 := hd2.lt
      have hbm1 : ¬ wr.heap.size = w1.heap.size := by omega
      have hm12 : ¬ w1.heap.size + 1 = w1.heap.size := by omega
      have hm21 : ¬ w1.heap.size = w1.heap.size + 1 := by omega
      have HWR := hide hwr
      have HD2 := hide (hd2.keep (unhide HB2) id)
      have HCALL := hide (countNames_v w.heap.size w1.heap.size (by omega) (x.size + 1) x (by omega) hxz hwx _ 0 (.slice xao x.len xcap) n1 d1 (hsx.keepF (unhide HB2)) (hd1.keep (unhide HB2) id) (by omega))
      have HKT := hide (fun (w' : World) (hk : Keeps (fun q => q = w1.heap.size ∨ q = w1.heap.size + 1) (wr.alloc (.cells #[.int .i64 op, str f, .slice xao x.len xcap, .slice tao t.len tcap, .slice eao el.len ecap] 64)) w') => hin.step (unhide HB2) hk (fun q e => by omega) (by omega))
      have HHS := hide hh
      clear hd1 hd2 hin hsx hst' hse hsr hh hwx hwr hxc2
      by_cases ho : op = 1 ∨ op = 5
      · have hfl : f.length ≤ 1000 := headS_name (unhide HHS) (by omega)
        rcases ho with rfl | rfl
        · go_wp2_with (go_at_call 55; refine (unhide HCALL).mono ?_; rintro e w5 ⟨rfl, n5, hn5, hc5', hk5⟩; obtain ⟨d5, HD5, hc5⟩ : ∃ d5 : Txt → Nat, Hid (∀ s, d5 s = d1 s + cntE x s) ∧ Cnt w5 w1.heap.size n5 d5 := ⟨_, fun _ => rfl, hc5'⟩; have v0 := (hk5.cell (o := 0) hxb2 hbm1).trans y0; have v1 := (hk5.cell (o := 1) hxb2 hbm1).trans y1; have hc52 := (unhide HD2).keep hk5 hm12; have hlk := hc52.look hfl; have hle := hc52.le f; obtain ⟨w6, hst, hc6, hk6⟩ := hc52.store hfl (by omega); have HC6 := hide hc6; have HK6 := hide hk6; clear hc6 hk6; have HC5 := hide hc5; have HC52 := hide hc52; have HK5 := hide hk5; clear hc5' hc5 hc52 hk5)
          go_roundw
          case rel =>
            refine ⟨rest, xs2, k + 1, n5, n2 + 1, d5, _, by go_num, by omega, unhide HWR, fun s => ?_, fun s => ?_, by omega, by omega, (unhide HC5).keep (unhide HK6) hm21, unhide HC6, ?_⟩
            · have h := unhide HR1 s
              have h5 := unhide HD5 s
              simp only [rdF] at h
              rw [if_neg (fun e => by omega)] at h
              omega
            · have h := unhide HR2 s
              simp only [wrF] at h
              unfold bump
              by_cases e : s = f
              · subst e
                simp at h ⊢
                omega
              · rw [if_neg (fun h => e h.2.symm)] at h
                rw [if_neg e]
                omega
            · rw [show goff + (k + 1) * 5 = goff + k * 5 + 5 by omega]
              exact unhide HKT _ (((unhide HK5).mono (fun q _ e => Or.inl e)).trans ((unhide HK6).mono (fun q _ e => Or.inr e)))
          case measure => simp [intOf]; omega
        · go_wp2_with (go_at_call 55; refine (unhide HCALL).mono ?_; rintro e w5 ⟨rfl, n5, hn5, hc5', hk5⟩; obtain ⟨d5, HD5, hc5⟩ : ∃ d5 : Txt → Nat, Hid (∀ s, d5 s = d1 s + cntE x s) ∧ Cnt w5 w1.heap.size n5 d5 := ⟨_, fun _ => rfl, hc5'⟩; have v0 := (hk5.cell (o := 0) hxb2 hbm1).trans y0; have v1 := (hk5.cell (o := 1) hxb2 hbm1).trans y1; have hc52 := (unhide HD2).keep hk5 hm12; have hlk := hc52.look hfl; have hle := hc52.le f; obtain ⟨w6, hst, hc6, hk6⟩ := hc52.store hfl (by omega); have HC6 := hide hc6; have HK6 := hide hk6; clear hc6 hk6; have HC5 := hide hc5; have HC52 := hide hc52; have HK5 := hide hk5; clear hc5' hc5 hc52 hk5)
          go_roundw
          case rel =>
            refine ⟨rest, xs2, k + 1, n5, n2 + 1, d5, _, by go_num, by omega, unhide HWR, fun s => ?_, fun s => ?_, by omega, by omega, (unhide HC5).keep (unhide HK6) hm21, unhide HC6, ?_⟩
            · have h := unhide HR1 s
              have h5 := unhide HD5 s
              simp only [rdF] at h
              rw [if_neg (fun e => by omega)] at h
              omega
            · have h := unhide HR2 s
              simp only [wrF] at h
              unfold bump
              by_cases e : s = f
              · subst e
                simp at h ⊢
                omega
              · rw [if_neg (fun h => e h.2.symm)] at h
                rw [if_neg e]
                omega
            · rw [show goff + (k + 1) * 5 = goff + k * 5 + 5 by omega]
              exact unhide HKT _ (((unhide HK5).mono (fun q _ e => Or.inl e)).trans ((unhide HK6).mono (fun q _ e => Or.inr e)))
          case measure => simp [intOf]; omega
      · by_cases hq : op = 2 ∨ op = 3 ∨ op = 4
        · have hfl : f.length ≤ 1000 := headS_name (unhide HHS) (by omega)
          clear ho
          rcases hq with rfl | rfl | rfl
          · go_wp2_with (go_at_call 55; refine (unhide HCALL).mono ?_; rintro e w5 ⟨rfl, n5, hn5, hc5', hk5⟩; obtain ⟨d5, HD5, hc5⟩ : ∃ d5 : Txt → Nat, Hid (∀ s, d5 s = d1 s + cntE x s) ∧ Cnt w5 w1.heap.size n5 d5 := ⟨_, fun _ => rfl, hc5'⟩; have v0 := (hk5.cell (o := 0) hxb2 hbm1).trans y0; have v1 := (hk5.cell (o := 1) hxb2 hbm1).trans y1; have hc52 := (unhide HD2).keep hk5 hm12; have hlk := hc5.look hfl; have hle := hc5.le f; obtain ⟨w6, hst, hc6, hk6⟩ := hc5.store hfl (by omega); have u1 := (hk6.cell (o := 1) (Nat.lt_of_lt_of_le hxb2 hk5.size) hbm1).trans v1; have hc62 := hc52.keep hk6 hm12; have hlk2 := hc62.look hfl; have hle2 := hc62.le f; obtain ⟨w7, hst2, hc7, hk7⟩ := hc62.store hfl (by omega); have HC6 := hide (hc6.keep hk7 hm21); have HC7 := hide hc7; have HK6 := hide hk6; have HK7 := hide hk7; clear hc6 hk6 hc7 hk7 hc62; have HC5 := hide hc5; have HC52 := hide hc52; have HK5 := hide hk5; clear hc5' hc5 hc52 hk5)
            go_roundw
            case rel =>
              refine ⟨rest, xs2, k + 1, n5 + 1, n2 + 1, _, _, by go_num, by omega, unhide HWR, fun s => ?_, fun s => ?_, by omega, by omega, unhide HC6, unhide HC7, ?_⟩
              · have h := unhide HR1 s
                have h5 := unhide HD5 s
                simp only [rdF] at h
                unfold bump
                by_cases e : s = f
                · subst e
                  simp at h ⊢
                  omega
                · rw [if_neg (fun h => e h.2.symm)] at h
                  rw [if_neg e]
                  omega
              · have h := unhide HR2 s
                simp only [wrF] at h
                unfold bump
                by_cases e : s = f
                · subst e
                  simp at h ⊢
                  omega
                · rw [if_neg (fun h => e h.2.symm)] at h
                  rw [if_neg e]
                  omega
              · rw [show goff + (k + 1) * 5 = goff + k * 5 + 5 by omega]
                exact unhide HKT _ ((((unhide HK5).mono (fun q _ e => Or.inl e)).trans ((unhide HK6).mono (fun q _ e => Or.inl e))).trans ((unhide HK7).mono (fun q _ e => Or.inr e)))
            case measure => simp [intOf]; omega
          · go_wp2_with (go_at_call 55; refine (unhide HCALL).mono ?_; rintro e w5 ⟨rfl, n5, hn5, hc5', hk5⟩; obtain ⟨d5, HD5, hc5⟩ : ∃ d5 : Txt → Nat, Hid (∀ s, d5 s = d1 s + cntE x s) ∧ Cnt w5 w1.heap.size n5 d5 := ⟨_, fun _ => rfl, hc5'⟩; have v0 := (hk5.cell (o := 0) hxb2 hbm1).trans y0; have v1 := (hk5.cell (o := 1) hxb2 hbm1).trans y1; have hc52 := (unhide HD2).keep hk5 hm12; have hlk := hc5.look hfl; have hle := hc5.le f; obtain ⟨w6, hst, hc6, hk6⟩ := hc5.store hfl (by omega); have u1 := (hk6.cell (o := 1) (Nat.lt_of_lt_of_le hxb2 hk5.size) hbm1).trans v1; have hc62 := hc52.keep hk6 hm12; have hlk2 := hc62.look hfl; have hle2 := hc62.le f; obtain ⟨w7, hst2, hc7, hk7⟩ := hc62.store hfl (by omega); have HC6 := hide (hc6.keep hk7 hm21); have HC7 := hide hc7; have HK6 := hide hk6; have HK7 := hide hk7; clear hc6 hk6 hc7 hk7 hc62; have HC5 := hide hc5; have HC52 := hide hc52; have HK5 := hide hk5; clear hc5' hc5 hc52 hk5)
            go_roundw
            case rel =>
              refine ⟨rest, xs2, k + 1, n5 + 1, n2 + 1, _, _, by go_num, by omega, unhide HWR, fun s => ?_, fun s => ?_, by omega, by omega, unhide HC6, unhide HC7, ?_⟩
              · have h := unhide HR1 s
                have h5 := unhide HD5 s
                simp only [rdF] at h
                unfold bump
                by_cases e : s = f
                · subst e
                  simp at h ⊢
                  omega
                · rw [if_neg (fun h => e h.2.symm)] at h
                  rw [if_neg e]
                  omega
              · have h := unhide HR2 s
                simp only [wrF] at h
                unfold bump
                by_cases e : s = f
                · subst e
                  simp at h ⊢
                  omega
                · rw [if_neg (fun h => e h.2.symm)] at h
                  rw [if_neg e]
                  omega
              · rw [show goff + (k + 1) * 5 = goff + k * 5 + 5 by omega]
                exact unhide HKT _ ((((unhide HK5).mono (fun q _ e => Or.inl e)).trans ((unhide HK6).mono (fun q _ e => Or.inl e))).trans ((unhide HK7).mono (fun q _ e => Or.inr e)))
            case measure => simp [intOf]; omega
          · go_wp2_with (go_at_call 55; refine (unhide HCALL).mono ?_; rintro e w5 ⟨rfl, n5, hn5, hc5', hk5⟩; obtain ⟨d5, HD5, hc5⟩ : ∃ d5 : Txt → Nat, Hid (∀ s, d5 s = d1 s + cntE x s) ∧ Cnt w5 w1.heap.size n5 d5 := ⟨_, fun _ => rfl, hc5'⟩; have v0 := (hk5.cell (o := 0) hxb2 hbm1).trans y0; have v1 := (hk5.cell (o := 1) hxb2 hbm1).trans y1; have hc52 := (unhide HD2).keep hk5 hm12; have hlk := hc5.look hfl; have hle := hc5.le f; obtain ⟨w6, hst, hc6, hk6⟩ := hc5.store hfl (by omega); have u1 := (hk6.cell (o := 1) (Nat.lt_of_lt_of_le hxb2 hk5.size) hbm1).trans v1; have hc62 := hc52.keep hk6 hm12; have hlk2 := hc62.look hfl; have hle2 := hc62.le f; obtain ⟨w7, hst2, hc7, hk7⟩ := hc62.store hfl (by omega); have HC6 := hide (hc6.keep hk7 hm21); have HC7 := hide hc7; have HK6 := hide hk6; have HK7 := hide hk7; clear hc6 hk6 hc7 hk7 hc62; have HC5 := hide hc5; have HC52 := hide hc52; have HK5 := hide hk5; clear hc5' hc5 hc52 hk5)
            go_roundw
            case rel =>
              refine ⟨rest, xs2, k + 1, n5 + 1, n2 + 1, _, _, by go_num, by omega, unhide HWR, fun s => ?_, fun s => ?_, by omega, by omega, unhide HC6, unhide HC7, ?_⟩
              · have h := unhide HR1 s
                have h5 := unhide HD5 s
                simp only [rdF] at h
                unfold bump
                by_cases e : s = f
                · subst e
                  simp at h ⊢
                  omega
                · rw [if_neg (fun h => e h.2.symm)] at h
                  rw [if_neg e]
                  omega
              · have h := unhide HR2 s
                simp only [wrF] at h
                unfold bump
                by_cases e : s = f
                · subst e
                  simp at h ⊢
                  omega
                · rw [if_neg (fun h => e h.2.symm)] at h
                  rw [if_neg e]
                  omega
              · rw [show goff + (k + 1) * 5 = goff + k * 5 + 5 by omega]
                exact unhide HKT _ ((((unhide HK5).mono (fun q _ e => Or.inl e)).trans ((unhide HK6).mono (fun q _ e => Or.inl e))).trans ((unhide HK7).mono (fun q _ e => Or.inr e)))
            case measure => simp [intOf]; omega
        · have o1 : (op == 1) = false := by simp; omega
          have o2 : (op == 2) = false := by simp; omega
          have o3 : (op == 3) = false := by simp; omega
          have o4 : (op == 4) = false := by simp; omega
          have o5 : (op == 5) = false := by simp; omega
          have HOO : Hid (¬ (op = 1 ∨ op = 2 ∨ op = 3 ∨ op = 4 ∨ op = 5)) := by intro h; omega
          clear ho hq
          go_wp2_with (go_at_call 55; refine (unhide HCALL).mono ?_; rintro e w5 ⟨rfl, n5, hn5, hc5', hk5⟩; obtain ⟨d5, HD5, hc5⟩ : ∃ d5 : Txt → Nat, Hid (∀ s, d5 s = d1 s + cntE x s) ∧ Cnt w5 w1.heap.size n5 d5 := ⟨_, fun _ => rfl, hc5'⟩; have v0 := (hk5.cell (o := 0) hxb2 hbm1).trans y0; have v1 := (hk5.cell (o := 1) hxb2 hbm1).trans y1; have hc52 := (unhide HD2).keep hk5 hm12; have HC5 := hide hc5; have HC52 := hide hc52; have HK5 := hide hk5; clear hc5' hc5 hc52 hk5)
          go_roundw
          case rel =>
            refine ⟨rest, xs2, k + 1, n5, n2, d5, d2, by go_num, by omega, unhide HWR, fun s => ?_, fun s => ?_, by omega, by omega, unhide HC5, unhide HC52, ?_⟩
            · have h := unhide HR1 s
              have h5 := unhide HD5 s
              simp only [rdF] at h
              rw [if_neg (fun e => unhide HOO (by omega))] at h
              omega
            · have h := unhide HR2 s
              simp only [wrF] at h
              rw [if_neg (fun e => unhide HOO (by omega))] at h
              omega
            · rw [show goff + (k + 1) * 5 = goff + k * 5 + 5 by omega]
              exact unhide HKT _ ((unhide HK5).mono (fun q _ e => Or.inl e))
          case measure => simp [intOf]; omega
end Go.Proofs.YtjhppnecadnekaaDoor
namespace Go.Proofs.YtjhppnecadnekaaDoor
open Go.RowKit Go.Maps

/-- Does a statement by itself read the field, write it? -/
def rd1 (op : Int) (f : Txt) (ex : EL) (x : Txt) : Bool := decide (0 < cntE ex x) || decide ((op = 2 ∨ op = 3 ∨ op = 4) ∧ f = x)
def wr1 (op : Int) (f : Txt) (x : Txt) : Bool := decide ((op = 1 ∨ op = 2 ∨ op = 3 ∨ op = 4 ∨ op = 5) ∧ f = x)

theorem rd1_no {op : Int} {f : Txt} {ex : EL} {x : Txt} (h : ¬ ((op = 2 ∨ op = 3 ∨ op = 4) ∧ f = x)) : rd1 op f ex x = decide (0 < cntE ex x) := by
  unfold rd1
  rw [decide_eq_false h, Bool.or_false]
theorem wr1_no {op : Int} {f x : Txt} (h : ¬ ((op = 1 ∨ op = 2 ∨ op = 3 ∨ op = 4 ∨ op = 5) ∧ f = x)) : wr1 op f x = false := by
  unfold wr1
  rw [decide_eq_false h]

set_option maxRecDepth 100000 in
set_option maxHeartbeats 4000000 in
theorem uses_v (Z : Zone) (op : Int) (f : Txt) (l : EL) (hlen' : l.size ≤ 4294967294) (x : Txt) (w : World) (up : Nat) (v tv ev : Value) (hS : SlE Z w up v l) (hv : ∃ to tn tc eo en ec, tv = .slice to tn tc ∧ ev = .slice eo en ec) :
    Calls Tryd.prog 37 #[stV op f v tv ev, str x] w fun e w' => e = .returned (.tuple #[.bool (rd1 op f l x), .bool (wr1 op f x)]) ∧ Keeps (fun _ => False) w w' := by
  have hlen : l.len ≤ 4294967294 := by have := EL.len_le l; omega
  obtain ⟨to, tn, tc, eo, en, ec, rfl, rfl⟩ := hv
  obtain ⟨ao, cap, b, off, rfl, hcap, ha, hx⟩ := hS.open
  obtain ⟨HB, hxb, hxc⟩ := boxedT w #[.int .i64 op, str f, .slice ao l.len cap, .slice to tn tc, .slice eo en ec] 64
  have c0 := hxc 0 (.int .i64 op) rfl
  have c1 := hxc 1 (str f) rfl
  have c2 := hxc 2 (.slice ao l.len cap) rfl
  have HX := hide hx
  have HA := hide ha
  clear hS hx ha hxc
  go_enter Tryd.func37, Tryd.ntmps37
  go_wp2_with fail
  go_loopw [6, 7] (fun d i wr => ∃ (rest : EL) (k : Nat) (r : Bool), d = .bool r ∧ i = .int .i64 k ∧ k + rest.len = l.len ∧ rest.size ≤ l.size ∧ Hid ((r || decide (0 < cntE rest x)) = decide (0 < cntE l x)) ∧ Keeps (fun _ => False) (w.alloc (.cells #[.int .i64 op, str f, .slice ao l.len cap, .slice to tn tc, .slice eo en ec] 64)) wr ∧ ExIn Z wr rest b (off + k * 4)) (fun _ i _ => l.len - (intOf i).toNat)
  case atStart => exact ⟨l, 0, false, rfl, rfl, by omega, Nat.le_refl _, rfl, Keeps.refl _ _, by simpa using (unhide HX).keepF (unhide HB)⟩
  case round =>
    obtain ⟨rest, k, r, rfl, rfl, hkl, hrs, HWE, hkeep, hr⟩ := hrel
    have q0 := (hkeep.cell (o := 0) hxb id).trans c0
    have q1 := (hkeep.cell (o := 1) hxb id).trans c1
    have q2 := (hkeep.cell (o := 2) hxb id).trans c2
    have HK := hide hkeep
    clear hkeep
    cases rest with
    | nil =>
      simp only [EL.len, EL.size] at hkl hrs
      have HV : Hid (r = decide (0 < cntE l x)) := by have h := unhide HWE; exact hide (by simpa [cntE] using h)
      clear hr
      have i1 : ¬ (k : Int) < (l.len : Int) := by omega
      by_cases hf : f = x
      · subst hf
        by_cases ho : op = 2 ∨ op = 3 ∨ op = 4
        · rcases ho with rfl | rfl | rfl
          all_goals
            go_wp2_with fail
            refine bodyPost_ret (v := .tuple #[.bool true, .bool true]) (by simp [results, go_sem]) rfl ?_
            exact ⟨by simp [rd1, wr1], (unhide HB).trans (unhide HK)⟩
        · by_cases hp : op = 1 ∨ op = 5
          · rcases hp with rfl | rfl
            all_goals
              clear ho
              go_wp2_with fail
              refine bodyPost_ret (v := .tuple #[.bool r, .bool true]) (by simp [results, go_sem]) rfl ?_
              exact ⟨by rw [unhide HV]; simp [rd1, wr1], (unhide HB).trans (unhide HK)⟩
          · have o1 : (op == 1) = false := by simp; omega
            have o2 : (op == 2) = false := by simp; omega
            have o3 : (op == 3) = false := by simp; omega
            have o4 : (op == 4) = false := by simp; omega
            have o5 : (op == 5) = false := by simp; omega
            have HO : Hid (¬ (op = 2 ∨ op = 3 ∨ op = 4) ∧ ¬ (op = 1 ∨ op = 2 ∨ op = 3 ∨ op = 4 ∨ op = 5)) := ⟨ho, by omega⟩
            clear ho hp
            go_wp2_with fail
            refine bodyPost_ret (v := .tuple #[.bool r, .bool false]) (by simp [results, go_sem]) rfl ?_
            exact ⟨by rw [unhide HV]; rw [rd1_no (fun h => (unhide HO).1 h.1), wr1_no (fun h => (unhide HO).2 h.1)], (unhide HB).trans (unhide HK)⟩
      · have hfe : (f == x) = false := by simpa using hf
        have hfn : (f != x) = true := by simpa using hf
        have HF := hide hf
        clear hf
        go_wp2_with fail
        refine bodyPost_ret (v := .tuple #[.bool r, .bool false]) (by simp [results, go_sem]) rfl ?_
        exact ⟨by rw [unhide HV]; rw [rd1_no (fun h => (unhide HF) h.2), wr1_no (fun h => (unhide HF) h.2)], (unhide HB).trans (unhide HK)⟩
    | cons op' n' s' kids rest =>
      obtain ⟨h1, h2, h3, h4, h5, ⟨kao, kcap, h6, h7, h8⟩, h9⟩ := hr
      simp only [EL.len, EL.size] at hkl hrs
      obtain ⟨rfl, hp⟩ := (unhide HA) (by omega)
      have HKID : Hid (SlE Z wr b (.slice kao kids.len kcap) kids) := ⟨kao, kcap, rfl, h7, h8⟩
      have HR := hide h9
      have i1 : (k : Int) < (l.len : Int) := by omega
      have i0 : (0 : Int) ≤ (k : Int) := by omega
      have HKD := hide (names_v Z x (kids.size + 1) kids (by omega) (by omega) op' n' s' wr b (.slice kao kids.len kcap) (unhide HKID))
      have HWE2 : Hid ((r || (decide (0 < cntE (.cons op' n' s' kids .nil) x) || decide (0 < cntE rest x))) = decide (0 < cntE l x)) := by
        have h := unhide HWE
        rw [cnt_head] at h
        exact h
      generalize decide (0 < cntE (.cons op' n' s' kids .nil) x) = rr at HKD HWE2
      clear h2 h8 h9 HWE
      cases r with
      | true =>
        go_wp2_with (go_at_call 57; refine (unhide HKD).mono ?_; rintro e w1 ⟨rfl, hk1⟩; have HK1 := hide hk1; clear hk1)
        go_roundw
        case rel =>
          refine ⟨rest, k + 1, true, rfl, by go_num, by omega, by omega, by rw [← unhide HWE2]; rfl, (unhide HK).trans (unhide HK1), ?_⟩
          rw [show off + (k + 1) * 4 = off + k * 4 + 4 by omega]
          exact (unhide HR).keepF (unhide HK1)
        case measure => simp [intOf]; omega
      | false =>
        go_wp2_with (go_at_call 57; refine (unhide HKD).mono ?_; rintro e w1 ⟨rfl, hk1⟩; have HK1 := hide hk1; clear hk1)
        go_roundw
        case rel =>
          refine ⟨rest, k + 1, rr, rfl, by go_num, by omega, by omega, by rw [← unhide HWE2]; rfl, (unhide HK).trans (unhide HK1), ?_⟩
          rw [show off + (k + 1) * 4 = off + k * 4 + 4 by omega]
          exact (unhide HR).keepF (unhide HK1)
        case measure => simp [intOf]; omega
end Go.Proofs.YtjhppnecadnekaaDoor
namespace Go.Proofs.YtjhppnecadnekaaDoor
open Go.RowKit Go.Maps

/-- Two lists of names of one's own, apart. -/
def TwoNm (w : World) (base : Nat) (o1 o2 : Value) (l1 l2 : List Txt) : Prop := NmAt w base o1 l1 ∧ NmAt w base o2 l2 ∧ ∀ q, o1.ownBlock = some q → o2.ownBlock ≠ some q
theorem TwoNm.symm {w : World} {base : Nat} {o1 o2 : Value} {l1 l2 : List Txt} (h : TwoNm w base o1 o2 l1 l2) : TwoNm w base o2 o1 l2 l1 :=
  ⟨h.2.1, h.1, fun q e e2 => h.2.2 q e2 e⟩
theorem TwoNm.keepF {w w' : World} {base : Nat} {o1 o2 : Value} {l1 l2 : List Txt} (h : TwoNm w base o1 o2 l1 l2) (hk : Keeps (fun _ => False) w w') : TwoNm w' base o1 o2 l1 l2 :=
  ⟨ownsRow_kept h.1 hk (fun _ _ => id), ownsRow_kept h.2.1 hk (fun _ _ => id), h.2.2⟩
theorem TwoNm.step {w w6 : World} {base g6 c6 : Nat} {o1 o2 : Value} {l1 l2 : List Txt} {nm : Txt} (h : TwoNm w base o1 o2 l1 l2) (hown : w6.ownsRow base 9 1 (.slice (some ⟨g6, 0, none⟩) (l1.length + 1) c6) (l1.length + 1) (nmC l1 ++ [str nm])) (hgr : (w.alloc (.cells #[str nm] 9)).grownBy w6 o1.ownBlock) (hat : o1.ownBlock = some g6 ∨ g6 = w.heap.size + 1) :
    TwoNm w6 base (.slice (some ⟨g6, 0, none⟩) (l1.length + 1) c6) o2 (l1 ++ [nm]) l2 := by
  obtain ⟨h1, h2, h3⟩ := h
  refine ⟨?_, ?_, fun q e e2 => ?_⟩
  · unfold NmAt
    rw [nmC_snoc, List.length_append]
    exact hown
  · have hk : Keeps (fun q => o1.ownBlock = some q) (w.alloc (.cells #[str nm] 9)) w6 := (Keeps.refl _ _).grown hgr (fun q e _ => e)
    exact ownsRow_kept (ownsRow_kept h2 ((Keeps.refl (fun _ => False) w).alloc _) (fun _ _ => id)) hk (fun q e e1 => h3 q e1 e)
  · have e' : g6 = q := by simpa [Value.ownBlock] using e
    subst e'
    rcases hat with hat | hat
    · exact h3 _ hat e2
    · have := (h2.lt _ e2).2
      omega
theorem rd_head (op : Int) (f : Txt) (x : EL) (t e r : SL) (s : Txt) : decide (0 < rdF (.cons op f x t e r) s) = (rd1 op f x s || decide (0 < rdF r s)) := by
  rw [Bool.eq_iff_iff]
  simp only [rd1, Bool.or_eq_true, decide_eq_true_eq]
  show 0 < cntE x s + (if (op = 2 ∨ op = 3 ∨ op = 4) ∧ f = s then 1 else 0) + rdF r s ↔ _
  by_cases h : (op = 2 ∨ op = 3 ∨ op = 4) ∧ f = s
  · rw [if_pos h]
    exact ⟨fun _ => Or.inl (Or.inr h), fun _ => by omega⟩
  · rw [if_neg h]
    refine ⟨fun h2 => ?_, fun h2 => ?_⟩
    · by_cases h3 : 0 < cntE x s
      · exact Or.inl (Or.inl h3)
      · exact Or.inr (by omega)
    · rcases h2 with (h2 | h2) | h2
      · omega
      · exact absurd h2 h
      · omega
theorem wr_head (op : Int) (f : Txt) (x : EL) (t e r : SL) (s : Txt) : decide (0 < wrF (.cons op f x t e r) s) = (wr1 op f s || decide (0 < wrF r s)) := by
  rw [Bool.eq_iff_iff]
  simp only [wr1, Bool.or_eq_true, decide_eq_true_eq]
  show 0 < (if (op = 1 ∨ op = 2 ∨ op = 3 ∨ op = 4 ∨ op = 5) ∧ f = s then 1 else 0) + wrF r s ↔ _
  by_cases h : (op = 1 ∨ op = 2 ∨ op = 3 ∨ op = 4 ∨ op = 5) ∧ f = s
  · rw [if_pos h]
    exact ⟨fun _ => Or.inl h, fun _ => by omega⟩
  · rw [if_neg h]
    refine ⟨fun h2 => Or.inr (by omega), fun h2 => ?_⟩
    rcases h2 with h2 | h2
    · exact absurd h2 h
    · omega

set_option maxRecDepth 100000 in
set_option maxHeartbeats 4000000 in
theorem rfields_bad (Z : Zone) (S : List FieldA) (l : SL) (hsz : l.size ≤ 4294967294) (sv pv : Value) (w : World) (up : Nat) (hf : FldsAt w sv S) (hp : SlS Z w up pv l) (hE : (checkP S l).1 ≠ 0) :
    Calls Tryd.prog 20 #[.agg #[sv], pv] w fun e w' => e = .returned (.tuple #[.slice none 0 0, .slice none 0 0, .int .i64 (checkP S l).1]) ∧ Keeps (fun _ => False) w w' := by
  obtain ⟨ao, cap, rfl, hc⟩ := hp.head
  obtain ⟨so, sc, rfl⟩ := RowAt.form hf
  obtain ⟨HB, hxb, hxc⟩ := boxedT w #[.slice so S.length sc] 24
  have c0 := hxc 0 (.slice so S.length sc) rfl
  have HCK := fun w' (hk : Keeps (fun _ => False) w w') => hide (rcheck9_v Z S l hsz (.slice so S.length sc) (.slice ao l.len cap) w' up (hf.keepF hk) (hp.keepF hk))
  obtain ⟨⟨E, at'⟩, hpv⟩ : ∃ p, p = checkP S l := ⟨_, rfl⟩
  rw [← hpv] at hE HCK ⊢
  have hE' : (E != 0) = true := by simpa using hE
  clear hf hp hxc hpv hE
  go_enter Tryd.func20, Tryd.ntmps20
  go_wp2_with (go_at_call 15; refine (unhide (HCK _ (unhide HB))).mono ?_; rintro e w1 ⟨rfl, hk1⟩; have HKa := hide ((unhide HB).trans hk1); clear hk1)
  refine bodyPost_ret (v := .tuple #[.slice none 0 0, .slice none 0 0, .int .i64 E]) (by simp [results, go_sem]) rfl ?_
  exact ⟨rfl, unhide HKa⟩

set_option maxRecDepth 100000 in
set_option maxHeartbeats 4000000 in
theorem rfields_fit (Z : Zone) (S : List FieldA) (l : SL) (hsz : l.size ≤ 4294967294) (sv pv : Value) (w : World) (up : Nat) (hf : FldsAt w sv S) (hp : SlS Z w up pv l) (hE : (checkP S l).1 = 0) :
    Calls Tryd.prog 20 #[.agg #[sv], pv] w fun e w' => ∃ rv wv, e = .returned (.tuple #[rv, wv, .int .i64 0]) ∧ NmAt w' w.heap.size rv (pick S (fun s => decide (0 < rdF (flatS l) s))) ∧ NmAt w' w.heap.size wv (pick S (fun s => decide (0 < wrF (flatS l) s))) ∧ Keeps (fun _ => False) w w' := by
  obtain ⟨hS, hC⟩ := checkP_zero hE
  have hwl := checkS_well hC
  have hnl : (flatS l).len ≤ 4294967294 := by rw [flatS_len]; exact Nat.le_trans (countS_le l) hsz
  obtain ⟨ao, cap, rfl, hc⟩ := hp.head
  obtain ⟨so, sc, rfl⟩ := RowAt.form hf
  obtain ⟨HB, hxb, hxc⟩ := boxedT w #[.slice so S.length sc] 24
  have c0 := hxc 0 (.slice so S.length sc) rfl
  have SB : ∀ w', Keeps (fun _ => False) (w.alloc (.cells #[.slice so S.length sc] 24)) w' → w'.cell? ⟨w.heap.size, 0, none⟩ = some (.slice so S.length sc) := fun w' hk => (hk.cell hxb id).trans c0
  have HSB := hide SB
  have HCK := fun w' (hk : Keeps (fun _ => False) w w') => hide (rcheck9_v Z S l hsz (.slice so S.length sc) (.slice ao l.len cap) w' up (hf.keepF hk) (hp.keepF hk))
  have HNU := fun w' (hk : Keeps (fun _ => False) w w') => hide (flat_v w'.heap.size (l.size + 1) l (by omega) hsz w' 0 (.slice ao l.len cap) (Nat.le_refl _) ((hp.keepF hk).arg (Nat.le_refl _) 0))
  obtain ⟨⟨E, at'⟩, hpv⟩ : ∃ p, p = checkP S l := ⟨_, rfl⟩
  rw [← hpv] at hE HCK
  subst hE
  have HF := hide hf
  have HW := hide (flat_well (N := 4294967294) l hsz hwl)
  clear hf hp hxc hpv SB hC hwl
  go_enter Tryd.func20, Tryd.ntmps20
  go_wp2_with (first
    | (go_at_call 15; refine (unhide (HCK _ (unhide HB))).mono ?_; rintro e w1 ⟨rfl, hk1⟩; have HKa := hide ((unhide HB).trans hk1); have HKb := hide hk1; clear hk1)
    | (go_at_call 34; refine (unhide (HNU _ (unhide HKa))).mono ?_; rintro e w4 ⟨fo, fc, n, xs, rfl, hn, hown, hss, hk1⟩; obtain ⟨g, goff, hg, hst⟩ := num_open hn (rowAt_own hown) hss; have HNL := hide hn; have HG := hide hg; have HST := hide hst; have HKa := hide ((unhide HKa).trans hk1); have HKb := hide ((unhide HKb).trans hk1); clear hn hown hss hg hst hk1))
  have hn2 : n ≤ 4294967294 := by rw [unhide HNL]; exact hnl
  clear hnl HCK HNU c0
  obtain ⟨i0, hi, hz0, hz1, hz2⟩ := info_parts Tryd.info9
  obtain ⟨i0, hi, hz0, hz1, hz2⟩ := info_parts Tryd.info9
  obtain ⟨i0, hi, hz0, hz1, hz2⟩ := info_parts Tryd.info9
  obtain ⟨i0, hi, hz0, hz1, hz2⟩ := info_parts Tryd.info9
  obtain ⟨i0, hi, hz0, hz1, hz2⟩ := info_parts Tryd.info9
  have hSB := hS
  unfold schemaB at hSB
  simp only [Bool.and_eq_true, decide_eq_true_eq] at hSB
  have hl8 := hSB.1.1.1.2
  have hw4 : w.heap.size ≤ w4.heap.size := (unhide HKa).size
  clear hSB hS
  go_loopw [7, 8, 12] (fun o1 o2 i wr => ∃ (k : Nat), i = .int .i64 k ∧ k ≤ S.length ∧ TwoNm wr w4.heap.size o1 o2 (pick (S.take k) (fun s => decide (0 < rdF (flatS l) s))) (pick (S.take k) (fun s => decide (0 < wrF (flatS l) s))) ∧ Keeps (fun _ => False) w4 wr) (fun _ _ i _ => S.length - (intOf i).toNat)
  case atStart => exact ⟨0, rfl, Nat.zero_le _, ⟨World.ownsRow_nil _ w4.heap.size 9 1, World.ownsRow_nil _ w4.heap.size 9 1, fun q e => by simp [Value.ownBlock] at e⟩, Keeps.refl _ _⟩
  case round =>
    rename World => wo
    obtain ⟨k, rfl, hk, htwo, hkeep⟩ := hrel
    obtain ⟨oo, oc, rfl⟩ := (rowAt_own htwo.1).form
    obtain ⟨po, pc, rfl⟩ := (rowAt_own htwo.2.1).form
    have HT := hide htwo
    have HK := hide hkeep
    have p0 := unhide HSB _ ((unhide HKb).trans hkeep)
    have ha8 : (pick (S.take k) (fun s => decide (0 < rdF (flatS l) s))).length ≤ 8 := by have := pick_le (S.take k) (fun s => decide (0 < rdF (flatS l) s)); simp at this; omega
    have hb8 : (pick (S.take k) (fun s => decide (0 < wrF (flatS l) s))).length ≤ 8 := by have := pick_le (S.take k) (fun s => decide (0 < wrF (flatS l) s)); simp at this; omega
    cases h : S[k]? with
    | none =>
      have h1 := get_ge h
      obtain rfl : k = S.length := by omega
      have i1 : ¬ (S.length : Int) < (S.length : Int) := by omega
      clear h h1 htwo hkeep hk ha8 hb8
      go_wp2_with fail
      rw [List.take_length] at HT
      refine bodyPost_ret (v := .tuple #[.slice oo _ oc, .slice po _ pc, .int .i64 0]) (by simp [results, go_sem]; exact ⟨rfl, rfl⟩) rfl ?_
      exact ⟨_, _, rfl, ownsRow_lower (unhide HT).1 hw4, ownsRow_lower (unhide HT).2.1 hw4, (unhide HKa).trans (unhide HK)⟩
    | some f =>
      have h1 := get_lt h
      obtain ⟨b, off, c1, e, hbl, hc⟩ := ((unhide HF).keepF (unhide HKa)).cells (by omega)
      simp at e
      obtain ⟨rfl, rfl⟩ := e
      have hq0 := (hc k f h).1
      have HQ : Hid (∀ w', Keeps (fun _ => False) w4 w' → w'.cell? ⟨b, off + k * 3, none⟩ = some (str f.name)) := fun w' hk' => (hk'.cell hbl id).trans hq0
      have i1 : (k : Int) < (S.length : Int) := by omega
      have ix0 : (0 : Int) ≤ (k : Int) := by omega
      have HTK := hide (take_snoc _ _ _ h)
      have HP1 := hide (pick_snoc (S.take k) f (fun s => decide (0 < rdF (flatS l) s)))
      have HP2 := hide (pick_snoc (S.take k) f (fun s => decide (0 < wrF (flatS l) s)))
      clear h hc hq0 htwo hkeep
      go_wp2_with fail
      go_loopw [13, 14, 15] (fun r1 r2 i wq => ∃ (rest : SL) (j : Nat) (a b : Bool), r1 = .bool a ∧ r2 = .bool b ∧ i = .int .i64 j ∧ j + rest.len = n ∧ Hid ((a || decide (0 < rdF rest f.name)) = decide (0 < rdF (flatS l) f.name)) ∧ Hid ((b || decide (0 < wrF rest f.name)) = decide (0 < wrF (flatS l) f.name)) ∧ wellF 4294967294 rest ∧ Keeps (fun _ => False) wo wq ∧ StIn (argZ w4.heap.size) w4 rest g (goff + j * 5)) (fun _ _ i _ => n - (intOf i).toNat)
      case atStart => exact ⟨flatS l, 0, false, false, rfl, rfl, rfl, by rw [Nat.zero_add]; exact (unhide HNL).symm, rfl, rfl, unhide HW, Keeps.refl _ _, by simpa using unhide HST⟩
      case round =>
        obtain ⟨rest, j, a, bb, rfl, rfl, rfl, hjl, HA1, HB1, hwf, hkeep2, hr⟩ := hrel
        have HK2 := hide hkeep2
        cases rest with
        | cons op ff x t el rest =>
          obtain ⟨h1, h2, h3, h4, ⟨xv, h5, hxs⟩, ⟨tao, tcap, h6, h7, h8⟩, ⟨eao, ecap, j6, j7, j8⟩, h9⟩ := hr
          obtain ⟨hh, hwx, hxz, hwr⟩ := hwf
          simp only [SL.len] at hjl
          obtain ⟨xao, xcap, rfl, hxl⟩ := hxs.head
          obtain rfl := (unhide HG) (by omega)
          have HR := hide h9
          have HWq := hide hwr
          have j1 : (j : Int) < (n : Int) := by omega
          have jx0 : (0 : Int) ≤ (j : Int) := by omega
          have HJL := hide hjl
          have hkw : Keeps (fun _ => False) w4 wr := (unhide HK).trans hkeep2
          have e0 : ∀ m : KW wr, m.wd.cell? ⟨w.heap.size, 0, none⟩ = some (.slice (some ⟨b, off, none⟩) S.length sc) := fun m => unhide HSB _ (((unhide HKb).trans hkw).trans m.kept)
          have e1 : ∀ m : KW wr, m.wd.cell? ⟨b, off + k * 3, none⟩ = some (str f.name) := fun m => unhide HQ _ (hkw.trans m.kept)
          have f0 : ∀ m : KW wr, m.wd.cell? ⟨g, goff + j * 5, none⟩ = some (.int .i64 op) := fun m => ((hkw.trans m.kept).cell h1 id).trans h3
          have f1 : ∀ m : KW wr, m.wd.cell? ⟨g, goff + j * 5 + 1, none⟩ = some (str ff) := fun m => ((hkw.trans m.kept).cell h1 id).trans h4
          have f2 : ∀ m : KW wr, m.wd.cell? ⟨g, goff + j * 5 + 2, none⟩ = some (.slice xao x.len xcap) := fun m => ((hkw.trans m.kept).cell h1 id).trans h5
          have f3 : ∀ m : KW wr, m.wd.cell? ⟨g, goff + j * 5 + 3, none⟩ = some (.slice tao t.len tcap) := fun m => ((hkw.trans m.kept).cell h1 id).trans h6
          have f4 : ∀ m : KW wr, m.wd.cell? ⟨g, goff + j * 5 + 4, none⟩ = some (.slice eao el.len ecap) := fun m => ((hkw.trans m.kept).cell h1 id).trans j6
          have HE := hide (fun (m : KW wr) => kw_of m (uses_v (argZ w4.heap.size) op ff x hxz f.name m.wd g _ (.slice tao t.len tcap) (.slice eao el.len ecap) (hxs.keepF (hkw.trans m.kept)) ⟨_, _, _, _, _, _, rfl, rfl⟩))
          have HA2 : Hid ((a || (rd1 op ff x f.name || decide (0 < rdF rest f.name))) = decide (0 < rdF (flatS l) f.name)) := by have hh := unhide HA1; rw [rd_head] at hh; exact hh
          have HB2 : Hid ((bb || (wr1 op ff f.name || decide (0 < wrF rest f.name))) = decide (0 < wrF (flatS l) f.name)) := by have hh := unhide HB1; rw [wr_head] at hh; exact hh
          generalize rd1 op ff x f.name = R1 at HE HA2
          generalize wr1 op ff f.name = R2 at HE HB2
          clear hkeep2 hkw h1 h2 h3 h4 h5 h6 h8 h9 j6 j8 hxs hh hwx hwr hjl HA1 HB1
          cases a <;> cases bb
          all_goals
            go_wp2_with fail
            refine region_kept (by kernel_rfl) (by kernel_rfl) ?_
            repeat (go_big_quiet_step ((go_at_call 37; exact unhide HE _)))
            refine wpQuiet_nil ?_
            rintro _ ⟨nq, rfl⟩
            have HK1 := hide nq.kept
            go_wp2_with fail
            go_roundw
            case rel =>
              refine ⟨rest, j + 1, _, _, rfl, rfl, by go_num, by have := unhide HJL; omega, ?_, ?_, unhide HWq, (unhide HK2).trans (unhide HK1), ?_⟩
              · exact (by rw [← unhide HA2]; rfl)
              · exact (by rw [← unhide HB2]; rfl)
              · rw [show goff + (j + 1) * 5 = goff + j * 5 + 5 by omega]
                exact unhide HR
            case measure => have := unhide HJL; simp [intOf]; omega
        | nil =>
          simp only [SL.len, Nat.add_zero] at hjl
          have j1 : ¬ (j : Int) < (n : Int) := by omega
          have HA1 : Hid (a = decide (0 < rdF (flatS l) f.name)) := by have h := unhide HA1; exact hide (by simpa [rdF] using h)
          have HB1 : Hid (bb = decide (0 < wrF (flatS l) f.name)) := by have h := unhide HB1; exact hide (by simpa [wrF] using h)
          have hk4 : Keeps (fun _ => False) w4 wr := (unhide HK).trans hkeep2
          have hswr := hk4.size
          have HKwr := hide hk4
          have HTwr := hide ((unhide HT).keepF hkeep2)
          have swr := unhide HSB _ ((unhide HKb).trans hk4)
          have twr := unhide HQ _ hk4
          clear hkeep2 hr hwf hk4 hjl p0
          cases a with
          | false =>
            cases bb with
            | false =>
              go_wp2_with fail
              go_roundw
              case rel =>
                refine ⟨k + 1, by go_num, by omega, ?_, unhide HKwr⟩
                rw [unhide HTK, unhide HP1, unhide HP2, if_neg (by rw [← unhide HA1]; simp), List.append_nil, if_neg (by rw [← unhide HB1]; simp), List.append_nil]
                exact unhide HTwr
              case measure => simp [intOf]; omega

            | true =>
              go_wp2_with (at_builtin; refine wpList_append_lies _ rfl _ _ _ rfl w4.heap.size 9 i0 _ 1 16 Tryd.underlying39 hi hz0 hz1 hz2 rfl (by omega) (.slice po _ pc) _ _ rfl (ownsRow_kept (unhide HTwr).2.1 ((Keeps.refl (fun _ => False) _).alloc _) (fun _ _ => id)) ⟨wr.heap.size, 0, none⟩ 1 1 [str f.name] rfl rfl (World.news_of_block (cs := #[str f.name]) (t := 9) (fr := (0, 0)) (heap_alloc_new wr _)) (by simp [Value.oneCell']) (by omega) (by unfold maxLen; omega) (by omega) (by simp; omega) (wr.heap.size + 1) (by simp) ?_; intro gw6 cw6 w6 hown hgrow hat _; have HTw6 := hide ((((unhide HTwr).symm).step hown hgrow hat).symm); have hk6 : Keeps (fun _ => False) w4 w6 := ((unhide HKwr).alloc _).grown hgrow (fun q e hq => by have := ((unhide HTwr).2.1.lt q e).1; omega); have hsw6 := hk6.size; have HKw6 := hide hk6; have sw6 := unhide HSB _ ((unhide HKb).trans hk6); have tw6 := unhide HQ _ hk6; clear hown hgrow hat hk6)
              go_roundw
              case rel =>
                refine ⟨k + 1, by go_num, by omega, ?_, unhide HKw6⟩
                rw [unhide HTK, unhide HP1, unhide HP2, if_neg (by rw [← unhide HA1]; simp), List.append_nil, if_pos (unhide HB1).symm]
                exact unhide HTw6
              case measure => simp [intOf]; omega

          | true =>
            cases bb with
            | false =>
              go_wp2_with (at_builtin; refine wpList_append_lies _ rfl _ _ _ rfl w4.heap.size 9 i0 _ 1 16 Tryd.underlying39 hi hz0 hz1 hz2 rfl (by omega) (.slice oo _ oc) _ _ rfl (ownsRow_kept (unhide HTwr).1 ((Keeps.refl (fun _ => False) _).alloc _) (fun _ _ => id)) ⟨wr.heap.size, 0, none⟩ 1 1 [str f.name] rfl rfl (World.news_of_block (cs := #[str f.name]) (t := 9) (fr := (0, 0)) (heap_alloc_new wr _)) (by simp [Value.oneCell']) (by omega) (by unfold maxLen; omega) (by omega) (by simp; omega) (wr.heap.size + 1) (by simp) ?_; intro gw6 cw6 w6 hown hgrow hat _; have HTw6 := hide ((unhide HTwr).step hown hgrow hat); have hk6 : Keeps (fun _ => False) w4 w6 := ((unhide HKwr).alloc _).grown hgrow (fun q e hq => by have := ((unhide HTwr).1.lt q e).1; omega); have hsw6 := hk6.size; have HKw6 := hide hk6; have sw6 := unhide HSB _ ((unhide HKb).trans hk6); have tw6 := unhide HQ _ hk6; clear hown hgrow hat hk6)
              go_roundw
              case rel =>
                refine ⟨k + 1, by go_num, by omega, ?_, unhide HKw6⟩
                rw [unhide HTK, unhide HP1, unhide HP2, if_pos (unhide HA1).symm, if_neg (by rw [← unhide HB1]; simp), List.append_nil]
                exact unhide HTw6
              case measure => simp [intOf]; omega

            | true =>
              have mk1 : True := trivial
              go_wp2_with (first
                | (clear mk1; at_builtin; refine wpList_append_lies _ rfl _ _ _ rfl w4.heap.size 9 i0 _ 1 16 Tryd.underlying39 hi hz0 hz1 hz2 rfl (by omega) (.slice oo _ oc) _ _ rfl (ownsRow_kept (unhide HTwr).1 ((Keeps.refl (fun _ => False) _).alloc _) (fun _ _ => id)) ⟨wr.heap.size, 0, none⟩ 1 1 [str f.name] rfl rfl (World.news_of_block (cs := #[str f.name]) (t := 9) (fr := (0, 0)) (heap_alloc_new wr _)) (by simp [Value.oneCell']) (by omega) (by unfold maxLen; omega) (by omega) (by simp; omega) (wr.heap.size + 1) (by simp) ?_; intro gw6 cw6 w6 hown hgrow hat _; have HTw6 := hide ((unhide HTwr).step hown hgrow hat); have hk6 : Keeps (fun _ => False) w4 w6 := ((unhide HKwr).alloc _).grown hgrow (fun q e hq => by have := ((unhide HTwr).1.lt q e).1; omega); have hsw6 := hk6.size; have HKw6 := hide hk6; have sw6 := unhide HSB _ ((unhide HKb).trans hk6); have tw6 := unhide HQ _ hk6; clear hown hgrow hat hk6; have mk2 : True := trivial)
                | (clear mk2; at_builtin; refine wpList_append_lies _ rfl _ _ _ rfl w4.heap.size 9 i0 _ 1 16 Tryd.underlying39 hi hz0 hz1 hz2 rfl (by omega) (.slice po _ pc) _ _ rfl (ownsRow_kept (unhide HTw6).2.1 ((Keeps.refl (fun _ => False) _).alloc _) (fun _ _ => id)) ⟨w6.heap.size, 0, none⟩ 1 1 [str f.name] rfl rfl (World.news_of_block (cs := #[str f.name]) (t := 9) (fr := (0, 0)) (heap_alloc_new w6 _)) (by simp [Value.oneCell']) (by omega) (by unfold maxLen; omega) (by omega) (by simp; omega) (w6.heap.size + 1) (by simp) ?_; intro gw7 cw7 w7 hown hgrow hat _; have HTw7 := hide ((((unhide HTw6).symm).step hown hgrow hat).symm); have hk6 : Keeps (fun _ => False) w4 w7 := ((unhide HKw6).alloc _).grown hgrow (fun q e hq => by have := ((unhide HTw6).2.1.lt q e).1; omega); have hsw7 := hk6.size; have HKw7 := hide hk6; have sw7 := unhide HSB _ ((unhide HKb).trans hk6); have tw7 := unhide HQ _ hk6; clear hown hgrow hat hk6))
              go_roundw
              case rel =>
                refine ⟨k + 1, by go_num, by omega, ?_, unhide HKw7⟩
                rw [unhide HTK, unhide HP1, unhide HP2, if_pos (unhide HA1).symm, if_pos (unhide HB1).symm]
                exact unhide HTw7
              case measure => simp [intOf]; omega
end Go.Proofs.YtjhppnecadnekaaDoor
namespace Go.Proofs.YtjhppnecadnekaaDoor
open Go.RowKit Go.Maps

/-- What Fields leaves. -/
def FdPost (S : List FieldA) (l : SL) (w : World) (e : Ending) (w' : World) : Prop :=
  ∃ rv wv, e = .returned (.tuple #[rv, wv, .int .i64 (fieldsP S l).2.2]) ∧ NmAt w' w.heap.size rv (fieldsP S l).1 ∧ NmAt w' w.heap.size wv (fieldsP S l).2.1 ∧ Keeps (fun _ => False) w w'
theorem tfields_v (Z : Zone) (S : List FieldA) (l : SL) (hsz : l.size ≤ 4294967294) (sv pv : Value) (w : World) (up : Nat) (hT : Types w) (hF : Forms w) (hf : FldsAt w sv S) (hp : SlS Z w up pv l) :
    Calls Tryd.prog 36 #[.agg #[sv], pv] w (FdPost S l w) := by
  by_cases hE : (checkP S l).1 = 0
  · refine (tfields_fit Z S l hsz sv pv w up hT hF hf hp hE).mono ?_
    rintro e w' ⟨rv, wv, he, h1, h2, h3⟩
    unfold FdPost fieldsP
    rw [if_neg (by simpa using hE)]
    exact ⟨rv, wv, he, h1, h2, h3⟩
  · refine (tfields_bad Z S l hsz sv pv w up hT hF hf hp hE).mono ?_
    rintro e w' ⟨he, h3⟩
    unfold FdPost fieldsP
    rw [if_pos hE]
    exact ⟨_, _, he, World.ownsRow_nil _ _ 9 1, World.ownsRow_nil _ _ 9 1, h3⟩
theorem rfields_v (Z : Zone) (S : List FieldA) (l : SL) (hsz : l.size ≤ 4294967294) (sv pv : Value) (w : World) (up : Nat) (hf : FldsAt w sv S) (hp : SlS Z w up pv l) :
    Calls Tryd.prog 20 #[.agg #[sv], pv] w (FdPost S l w) := by
  by_cases hE : (checkP S l).1 = 0
  · refine (rfields_fit Z S l hsz sv pv w up hf hp hE).mono ?_
    rintro e w' ⟨rv, wv, he, h1, h2, h3⟩
    unfold FdPost fieldsP
    rw [if_neg (by simpa using hE)]
    exact ⟨rv, wv, he, h1, h2, h3⟩
  · refine (rfields_bad Z S l hsz sv pv w up hf hp hE).mono ?_
    rintro e w' ⟨he, h3⟩
    unfold FdPost fieldsP
    rw [if_pos hE]
    exact ⟨_, _, he, World.ownsRow_nil _ _ 9 1, World.ownsRow_nil _ _ 9 1, h3⟩

set_option maxRecDepth 100000 in
set_option maxHeartbeats 4000000 in
/-- The law's own call of Fields, on twins. -/
theorem lawFields_v (Z : Zone) (S : List FieldA) (hlS : S.length ≤ 4398046511104) (l : SL) (hsz : l.size ≤ 4294967294) (sv pv : Value) (w : World) (up : Nat) (hT : Types w) (hF : Forms w) (hf : FldsAt w sv S) (hp : SlS Z w up pv l) :
    Calls Tryd.prog 16 #[.agg #[sv], pv] w (FdPost S l w) := by
  obtain ⟨ao, cap, rfl, hc⟩ := hp.head
  obtain ⟨so, sc, rfl⟩ := RowAt.form hf
  obtain ⟨HB, hxb, hxc⟩ := boxedT w #[.slice so S.length sc] 24
  have c0 := hxc 0 (.slice so S.length sc) rfl
  have SB : ∀ w', Keeps (fun _ => False) (w.alloc (.cells #[.slice so S.length sc] 24)) w' → w'.cell? ⟨w.heap.size, 0, none⟩ = some (.slice so S.length sc) := fun w' hk => (hk.cell hxb id).trans c0
  have HSB := hide SB
  have HCP := hide (copySchema_big _ (.slice so S.length sc) S (hf.keepF (unhide HB)) hlS)
  have HCT := fun w' (hk : Keeps (fun _ => False) w w') => hide (copyStmts_v Z (l.size + 1) l (by omega) hsz w' up (.slice ao l.len cap) (hp.keepF hk))
  have HT := hide hT
  have HFM := hide hF
  have HF := hide hf
  have HP := hide hp
  have hw0 : w.heap.size ≤ w.heap.size := Nat.le_refl _
  clear hT hF hf hp SB hxc
  go_enter Tryd.func16, Tryd.ntmps16
  go_wp2_with (first
    | (go_at_call 22; refine (unhide HCP).mono ?_; rintro e w1 ⟨v', rfl, hown, hk1⟩; obtain ⟨vo, vc, rfl⟩ := (rowAt_own hown).form; have hka := hk1.alloc (.cells #[.slice vo S.length vc] 24); have HFC := hide (RowAt.keepF (rowAt_own hown) ((Keeps.refl _ w1).alloc (.cells #[.slice vo S.length vc] 24)) : RowAt _ _ S.length (fcs S)); have HB2 := hide (heap_alloc_new w1 (.cells #[.slice vo S.length vc] 24)); have y2 := cell_of_blk (unhide HB2) 0; simp at y2; have y1 := unhide HSB _ hka; have HKa := hide ((unhide HB).trans hka); have HKb := hide hka; clear hown hk1 hka)
    | (go_at_call 23; refine (unhide (HCT _ (unhide HKa))).mono ?_; rintro e w2 ⟨pv2, rfl, hs2, hk2⟩; obtain ⟨po, pc, rfl, hpc⟩ := hs2.head; have HPC := hide hs2; have HFC := hide (RowAt.keepF (unhide HFC) hk2); have HB2 := hide ((hk2.block _ (lt_of_block (unhide HB2)) id).trans (unhide HB2)); have y2 := cell_of_blk (unhide HB2) 0; simp at y2; have HKa := hide ((unhide HKa).trans hk2); have HKb := hide ((unhide HKb).trans hk2); have y1 := unhide HSB _ (unhide HKb); clear hs2 hk2)
    | (go_at_call 36; refine (tfields_v _ S l hsz _ _ _ 0 ((unhide HT).keepF (unhide HKa)) ((unhide HFM).keepF (unhide HKa)) (unhide HFC) (unhide HPC)).mono ?_; rintro e w3 ⟨rv, wv, rfl, hrv, hwv, hk3⟩; have HRV := hide (ownsRow_lower hrv (unhide HKa).size); have HWV := hide (ownsRow_lower hwv (unhide HKa).size); have HFC := hide (RowAt.keepF (unhide HFC) hk3); have HPC := hide ((unhide HPC).keepF hk3); have HB2 := hide ((hk3.block _ (lt_of_block (unhide HB2)) id).trans (unhide HB2)); have y2 := cell_of_blk (unhide HB2) 0; simp at y2; have HKa := hide ((unhide HKa).trans hk3); have HKb := hide ((unhide HKb).trans hk3); have y1 := unhide HSB _ (unhide HKb); clear hk3 hrv hwv)
    | (go_at_call 25; refine (eqSchema_any _ _ _ S S (unhide HFC) ((unhide HF).keepF (unhide HKa)) (by unfold maxLen; omega)).mono ?_; rintro e w4 ⟨rfl, hk4⟩; rw [decide_eq_true rfl]; have HRV := hide (ownsRow_kept (unhide HRV) hk4 (fun _ _ => id)); have HWV := hide (ownsRow_kept (unhide HWV) hk4 (fun _ _ => id)); have HPC := hide ((unhide HPC).keepF hk4); have HKa := hide ((unhide HKa).trans hk4); clear hk4)
    | (go_at_call 26; refine (eqStmts_same _ Z (l.size + 1) l (by omega) hsz _ 0 up _ _ (unhide HPC) ((unhide HP).keepF (unhide HKa))).mono ?_; rintro e w5 ⟨rfl, hk5⟩; have HRV := hide (ownsRow_kept (unhide HRV) hk5 (fun _ _ => id)); have HWV := hide (ownsRow_kept (unhide HWV) hk5 (fun _ _ => id)); have HKa := hide ((unhide HKa).trans hk5); clear hk5))
  refine bodyPost_ret (v := .tuple #[rv, wv, .int .i64 (fieldsP S l).2.2]) (by simp [results, go_sem]) rfl ?_
  exact ⟨rv, wv, rfl, unhide HRV, unhide HWV, unhide HKa⟩
end Go.Proofs.YtjhppnecadnekaaDoor
namespace Go.Proofs.YtjhppnecadnekaaDoor
open Go.RowKit Go.Maps

theorem nm_at {l : List Txt} {k : Nat} {x : Txt} (h : l[k]? = some x) : (nmC l)[k]? = some (str x) := by simp [nmC, h]
set_option maxRecDepth 100000 in
set_option maxHeartbeats 4000000 in
theorem eqNames_v (la lb : List Txt) (hl : la.length ≤ 1000) (hl2 : lb.length ≤ 1000) (va vb : Value) (w : World) (ha : RowAt w va la.length (nmC la)) (hb : RowAt w vb lb.length (nmC lb)) :
    Calls Tryd.prog 19 #[va, vb] w fun e w' => e = .returned (.bool (decide (la = lb))) ∧ Keeps (fun _ => False) w w' := by
  obtain ⟨ao, ac, rfl⟩ := RowAt.form ha
  obtain ⟨bo, bc, rfl⟩ := RowAt.form hb
  by_cases hle : la.length = lb.length
  · have hlz : ((la.length : Int) != (lb.length : Int)) = false := by simp [hle]
    have HL := hide hle
    have HA := hide ha
    have HB := hide hb
    clear ha hb hle
    go_enter Tryd.func19, Tryd.ntmps19
    go_wp2_with fail
    go_loopw [5] (fun i wr => ∃ k : Nat, i = .int .i64 k ∧ k ≤ la.length ∧ Hid (la.take k = lb.take k) ∧ Keeps (fun _ => False) w wr) (fun i _ => la.length - (intOf i).toNat)
    case atStart => exact ⟨0, rfl, Nat.zero_le _, rfl, Keeps.refl _ _⟩
    case round =>
      obtain ⟨k, rfl, hk, HE, hkeep⟩ := hrel
      have HK := hide hkeep
      cases h : la[k]? with
      | none =>
        have h1 := get_ge h
        obtain rfl : k = la.length := by omega
        have i1 : ¬ (la.length : Int) < (la.length : Int) := by omega
        clear h h1 hkeep hk
        have he : la = lb := by
          have h := unhide HE
          rw [List.take_length] at h
          have e := unhide HL
          rw [e, List.take_length] at h
          exact h
        have HEQ := hide he
        clear he
        go_wp2_with fail
        go_ret
        exact ⟨ret_bool (decide_eq_true (unhide HEQ)).symm, unhide HK⟩
      | some x =>
        have h1 := get_lt h
        have hlb : k < lb.length := by have := unhide HL; omega
        obtain ⟨y, hy⟩ : ∃ y, lb[k]? = some y := ⟨_, List.getElem?_eq_getElem hlb⟩
        obtain ⟨b, off, c1, e, hbl, hc⟩ := RowAt.cells ((unhide HA).keepF hkeep) (by omega)
        simp at e
        obtain ⟨rfl, rfl⟩ := e
        obtain ⟨b2, off2, c2, e2, hbl2, hc2⟩ := RowAt.cells ((unhide HB).keepF hkeep) (by omega)
        simp at e2
        obtain ⟨rfl, rfl⟩ := e2
        have q0 := hc k (str x) (nm_at h)
        have q1 := hc2 k (str y) (nm_at hy)
        have i1 : (k : Int) < (la.length : Int) := by omega
        have i2 : (k : Int) < (lb.length : Int) := by omega
        have ix0 : (0 : Int) ≤ (k : Int) := by omega
        have HTA := hide (take_snoc _ _ _ h)
        have HTB := hide (take_snoc _ _ _ hy)
        have HX := hide h
        have HY := hide hy
        have e0 : ∀ m : KW wr, m.wd.cell? ⟨b, off + k, none⟩ = some (str x) := fun m => (m.kept.cell hbl id).trans q0
        have e1 : ∀ m : KW wr, m.wd.cell? ⟨b2, off2 + k, none⟩ = some (str y) := fun m => (m.kept.cell hbl2 id).trans q1
        clear h hy hc hc2 hkeep q0 q1
        by_cases hxy : x = y
        · subst hxy
          go_wp2_with fail
          refine region_kept (by kernel_rfl) (by kernel_rfl) ?_
          repeat (go_big_quiet_step (fail))
          refine wpQuiet_nil ?_
          rintro _ ⟨nq, rfl⟩
          have HK1 := hide nq.kept
          go_wp2_with fail
          go_roundw
          case rel => exact ⟨k + 1, by go_num, by omega, hide (by rw [unhide HTA, unhide HTB, unhide HE]), (unhide HK).trans (unhide HK1)⟩
          case measure => simp [intOf]; omega
        · have hne : (x != y) = true := by simpa using hxy
          have hne2 : (x == y) = false := by simpa using hxy
          have hd : la ≠ lb := fun e => hxy (by have h1 := unhide HX; rw [e, unhide HY] at h1; simpa using h1.symm)
          have HDF := hide hd
          clear hxy hd
          go_wp2_with fail
          refine region_kept (by kernel_rfl) (by kernel_rfl) ?_
          repeat (go_big_quiet_step (fail))
          refine wpQuiet_nil ?_
          rintro _ ⟨nq, rfl⟩
          have HK1 := hide nq.kept
          go_wp2_with fail
          go_ret
          exact ⟨ret_bool (decide_eq_false (unhide HDF)).symm, (unhide HK).trans (unhide HK1)⟩
  · have hlz : ((la.length : Int) != (lb.length : Int)) = true := by simp; omega
    have hne : la ≠ lb := fun e => hle (by rw [e])
    rw [decide_eq_false hne]
    clear ha hb
    go_enter Tryd.func19, Tryd.ntmps19
    go_wp2_with fail
    go_ret
    exact ⟨rfl, Keeps.refl _ _⟩
end Go.Proofs.YtjhppnecadnekaaDoor
namespace Go.Proofs.YtjhppnecadnekaaDoor
open Go.RowKit Go.Maps

theorem fieldsP_le (S : List FieldA) (l : SL) : (fieldsP S l).1.length ≤ 8 ∧ (fieldsP S l).2.1.length ≤ 8 := by
  unfold fieldsP
  by_cases hE : (checkP S l).1 = 0
  · rw [if_neg (by simpa using hE)]
    have hS := (checkP_zero hE).1
    unfold schemaB at hS
    simp only [Bool.and_eq_true, decide_eq_true_eq] at hS
    have h8 := hS.1.1.1.2
    exact ⟨Nat.le_trans (pick_le _ _) h8, Nat.le_trans (pick_le _ _) h8⟩
  · rw [if_pos hE]
    exact ⟨Nat.zero_le _, Nat.zero_le _⟩

set_option maxRecDepth 100000 in
set_option maxHeartbeats 4000000 in
theorem fields_walk (S : List FieldA) (hlS : S.length ≤ 4398046511104) (l : SL) (sv pv : Value) (w : World) (hT : Types w) (hF : Forms w) (hf : FldsAt w sv S) (hp : SlS (argZ w.heap.size) w 0 pv l) :
    Calls Tryd.prog 7 #[.agg #[sv], pv] w fun e w' => e = .returned (.bool true) ∧ Keeps (fun _ => False) w w' := by
  obtain ⟨ao, cap, rfl, hc⟩ := hp.head
  obtain ⟨so, sc, rfl⟩ := RowAt.form hf
  obtain ⟨HB, hxb, hxc⟩ := boxedT w #[.slice so S.length sc] 24
  have SB : ∀ w', Keeps (fun _ => False) (w.alloc (.cells #[.slice so S.length sc] 24)) w' → w'.cell? ⟨w.heap.size, 0, none⟩ = some (.slice so S.length sc) := fun w' hk => (hk.cell hxb id).trans (hxc 0 _ rfl)
  have HSB := hide SB
  have HD := hide (deepStmts w.heap.size 0 l (.slice ao l.len cap) _ (by simp) (hp.keepF (unhide HB)))
  have HCH' := fun (hsz : l.size ≤ 4294967294) w' (hk : Keeps (fun _ => False) w w') => hide (lawFields_v (argZ w.heap.size) S hlS l hsz (.slice so S.length sc) (.slice ao l.len cap) w' 0 (hT.keepF hk) (hF.keepF hk) (hf.keepF hk) (hp.keepF hk))
  have HRC' := fun (hsz : l.size ≤ 4294967294) w' (hk : Keeps (fun _ => False) w w') => hide (rfields_v (argZ w.heap.size) S l hsz (.slice so S.length sc) (.slice ao l.len cap) w' 0 (hf.keepF hk) (hp.keepF hk))
  obtain ⟨hl1, hl2⟩ := fieldsP_le S l
  have HL1 := hide hl1
  have HL2 := hide hl2
  clear hT hF hf hp SB hxc hl1 hl2
  go_enter Tryd.func7, Tryd.ntmps7
  go_wp2_with fail
  refine (unhide HD).mono ?_
  rintro e w1 ⟨r, rfl, hk1, hsz⟩
  have HK1 := hide ((unhide HB).trans hk1)
  have HKb := hide hk1
  have y1 := unhide HSB _ hk1
  cases r with
  | true =>
    clear hk1 hsz
    go_wp2_with fail
    go_ret
    exact ⟨rfl, unhide HK1⟩
  | false =>
    have hs : l.size ≤ 4294967294 := by have := hsz rfl; omega
    have HCH := HCH' hs
    have HRC := HRC' hs
    clear HCH' HRC' hk1 hsz hs
    have mk1 : True := trivial
    unfold FdPost at HCH HRC
    generalize fieldsP S l = P at HCH HRC HL1 HL2
    obtain ⟨lr, lw, E⟩ := P
    go_wp2_with (first
      | (go_at_call 16; refine (unhide (HCH _ (unhide HK1))).mono ?_; rintro e w2 ⟨rv, wv, rfl, hrv, hwv, hk2⟩; obtain ⟨ro, rc, rfl⟩ := (rowAt_own hrv).form; obtain ⟨wo, wc, rfl⟩ := (rowAt_own hwv).form; have HRV := hide (rowAt_own hrv); have HWV := hide (rowAt_own hwv); have HK1 := hide ((unhide HK1).trans hk2); have HKb := hide ((unhide HKb).trans hk2); have y2 := unhide HSB _ (unhide HKb); clear hk2 hrv hwv)
      | (go_at_call 20; refine (unhide (HRC _ (unhide HK1))).mono ?_; rintro e w3 ⟨rv2, wv2, rfl, hrv, hwv, hk2⟩; obtain ⟨qo, qc, rfl⟩ := (rowAt_own hrv).form; obtain ⟨vo, vc, rfl⟩ := (rowAt_own hwv).form; have HRV2 := hide (rowAt_own hrv); have HWV2 := hide (rowAt_own hwv); have HRV := hide ((unhide HRV).keepF hk2); have HWV := hide ((unhide HWV).keepF hk2); have HK1 := hide ((unhide HK1).trans hk2); clear hk2 hrv hwv)
      | (clear mk1; go_at_call 19; refine (eqNames_v lr lr (by have := unhide HL1; omega) (by have := unhide HL1; omega) _ _ _ (unhide HRV) (unhide HRV2)).mono ?_; rintro e w4 ⟨rfl, hk2⟩; rw [decide_eq_true rfl]; have HWV := hide ((unhide HWV).keepF hk2); have HWV2 := hide ((unhide HWV2).keepF hk2); have HK1 := hide ((unhide HK1).trans hk2); clear hk2; have mk2 : True := trivial)
      | (clear mk2; go_at_call 19; refine (eqNames_v lw lw (by have := unhide HL2; omega) (by have := unhide HL2; omega) _ _ _ (unhide HWV) (unhide HWV2)).mono ?_; rintro e w5 ⟨rfl, hk2⟩; rw [decide_eq_true rfl]; have HK1 := hide ((unhide HK1).trans hk2); clear hk2))
    go_ret
    exact ⟨rfl, unhide HK1⟩
end Go.Proofs.YtjhppnecadnekaaDoor
