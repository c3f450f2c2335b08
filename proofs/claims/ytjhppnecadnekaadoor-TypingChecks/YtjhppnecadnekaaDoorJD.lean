import Derived.Test.YtjhppnecadnekaaDoorJB
import Derived.Test.YtjhppnecadnekaaDoorJt
namespace Go.Proofs.YtjhppnecadnekaaDoor
open Go.RowKit Go.Maps

theorem chg_val {E : Int} {K : KA} {d : FieldA} (hE : E = 0) : orL [0, E, ofI ⟨d.type, d.opt⟩ [1], plainI K [1]] = if d.type ≠ 1 then 91 else if K.t ≠ 1 then 91 else if K.o then 92 else 0 := by
  subst hE
  obtain ⟨nm, DT, DO⟩ := d
  obtain ⟨T, O⟩ := K
  by_cases h1 : DT = 1
  · subst h1
    by_cases h2 : T = 1
    · subst h2
      cases O <;> rfl
    · simp [orL, ofI, plainI, orI, h2]
  · simp [orL, ofI, h1]
theorem set_val {E : Int} {K : KA} {d : FieldA} (hE : E = 0) : orL [0, E, ofI K [d.type], if K.o = true ∧ d.opt = false then 92 else 0] = if K.t ≠ d.type then 91 else if K.o = true ∧ d.opt = false then 92 else 0 := by
  subst hE
  obtain ⟨nm, DT, DO⟩ := d
  obtain ⟨T, O⟩ := K
  by_cases h1 : T = DT
  · subst h1
    cases O <;> cases DO <;> simp [orL, ofI]
  · simp [orL, ofI, h1]
theorem if_val {E : Int} {K : KA} (hE : E = 0) : orL [E, plainI K [2]] = if K.t ≠ 2 then 91 else if K.o then 92 else 0 := by
  subst hE
  obtain ⟨T, O⟩ := K
  by_cases h1 : T = 2
  · subst h1
    cases O <;> rfl
  · simp [orL, plainI, orI, ofI, h1]
/-- The reference's own check of a statement. -/
theorem refOwn_v (Z : Zone) (S : List FieldA) (hS : schemaB S = true) (so : Option Addr) (sc : Nat) (op : Int) (f : Txt) (x : EL) (t e : SL) (xv tv ev : Value) (up : Nat) (w : World) (hf : FldsAt w (.slice so S.length sc) S)
    (hx : SlE Z w up xv x) (hv : ∃ to tn tc eo en ec, tv = .slice to tn tc ∧ ev = .slice eo en ec) (hh : headS op f x.len t.len e.len = true) (hw : wellE x = true) :
    Calls Tryd.prog 35 #[.agg #[.slice so S.length sc], stV op f xv tv ev] w fun e w' => e = .returned (.int .i64 (ownP S op f x)) ∧ Keeps (fun _ => False) w w' := by
  obtain ⟨to, tn, tc, eo, en, ec, rfl, rfl⟩ := hv
  rcases head_open hh with ⟨h1, _, hl⟩ | ⟨rfl, _, rfl⟩ | ⟨h1, rfl⟩ | ⟨rfl, hl⟩
  · obtain ⟨o, n, s, kids, rfl⟩ := EL.one_of hl
    simp only [wellE, Bool.and_eq_true] at hw
    have hhk : headK S (.cons o n s kids .nil) = kindP S o s kids := rfl
    obtain ⟨xo, xc, rfl, _⟩ := hx.head
    cases hfo : fieldOf S f with
    | none =>
      have hn : namedK S f = (⟨0, false⟩, 90) := by unfold namedK; rw [hfo]
      have ho : ownP S op f (.cons o n s kids .nil) = 90 := by
        unfold ownP
        rcases h1 with rfl | rfl | rfl | rfl
        · rw [if_pos rfl, hn]; rfl
        all_goals rw [if_neg (by decide), if_pos (by decide), hn]; rfl
      rw [ho]
      rcases h1 with rfl | rfl | rfl | rfl
      · exact own1x S hS so sc f xo to eo _ xc tn tc en ec w hf hfo
      · exact own2x S hS so sc f xo to eo _ xc tn tc en ec w hf hfo
      · exact own3x S hS so sc f xo to eo _ xc tn tc en ec w hf hfo
      · exact own4x S hS so sc f xo to eo _ xc tn tc en ec w hf hfo
    | some d =>
      have hn : namedK S f = (⟨d.type, d.opt⟩, 0) := by unfold namedK; rw [hfo]
      obtain ⟨kf, hkf⟩ := field_at hfo
      by_cases hE : (kindP S o s kids).2 = 0
      · have hk : kindP S o s kids = (⟨(kindP S o s kids).1.t, (kindP S o s kids).1.o⟩, 0) := by rw [← hE]
        rcases h1 with rfl | h1
        · have ho : ownP S 1 f (.cons o n s kids .nil) = if (kindP S o s kids).1.t ≠ d.type then 91 else if (kindP S o s kids).1.o = true ∧ d.opt = false then 92 else 0 := by
            unfold ownP
            rw [if_pos rfl, hn, hhk]
            exact set_val hE
          rw [ho]
          by_cases hT : (kindP S o s kids).1.t = d.type
          · rw [if_neg (by simpa using hT)]
            rw [hT] at hk
            cases hO : (kindP S o s kids).1.o with
            | false =>
              rw [hO] at hk
              rw [if_neg (by simp)]
              exact own1p Z S hS so sc f o n s kids _ up to eo tn tc en ec w hf hx hw.1 hw.2.1 kf d.name d.type d.opt hkf hfo hk
            | true =>
              rw [hO] at hk
              cases hD : d.opt with
              | false =>
                rw [if_pos ⟨rfl, rfl⟩]
                exact own1n Z S hS so sc f o n s kids _ up to eo tn tc en ec w hf hx hw.1 hw.2.1 kf d.name d.type (by rw [hkf, ← hD]) (by rw [hfo, ← hD]) hk
              | true =>
                rw [if_neg (by simp)]
                exact own1o Z S hS so sc f o n s kids _ up to eo tn tc en ec w hf hx hw.1 hw.2.1 kf d.name d.type (by rw [hkf, ← hD]) (by rw [hfo, ← hD]) hk
          · rw [if_pos hT]
            exact own1t Z S hS so sc f o n s kids _ up to eo tn tc en ec w hf hx hw.1 hw.2.1 kf d.name d.type d.opt hkf hfo _ _ hk hT
        · have ho : ownP S op f (.cons o n s kids .nil) = if d.type ≠ 1 then 91 else if (kindP S o s kids).1.t ≠ 1 then 91 else if (kindP S o s kids).1.o then 92 else 0 := by
            unfold ownP
            rw [if_neg (by omega), if_pos h1, hn, hhk]
            exact chg_val hE
          rw [ho]
          by_cases hD : d.type = 1
          · rw [if_neg (by simpa using hD)]
            by_cases hT : (kindP S o s kids).1.t = 1
            · rw [if_neg (by simpa using hT)]
              rw [hT] at hk
              cases hO : (kindP S o s kids).1.o with
              | false =>
                rw [hO] at hk
                rw [if_neg (by simp)]
                rcases h1 with rfl | rfl | rfl
                · exact own2z Z S hS so sc f o n s kids _ up to eo tn tc en ec w hf hx hw.1 hw.2.1 kf d.name d.opt (by rw [hkf, ← hD]) (by rw [hfo, ← hD]) hk
                · exact own3z Z S hS so sc f o n s kids _ up to eo tn tc en ec w hf hx hw.1 hw.2.1 kf d.name d.opt (by rw [hkf, ← hD]) (by rw [hfo, ← hD]) hk
                · exact own4z Z S hS so sc f o n s kids _ up to eo tn tc en ec w hf hx hw.1 hw.2.1 kf d.name d.opt (by rw [hkf, ← hD]) (by rw [hfo, ← hD]) hk
              | true =>
                rw [hO] at hk
                rw [if_pos rfl]
                rcases h1 with rfl | rfl | rfl
                · exact own2o Z S hS so sc f o n s kids _ up to eo tn tc en ec w hf hx hw.1 hw.2.1 kf d.name d.opt (by rw [hkf, ← hD]) (by rw [hfo, ← hD]) hk
                · exact own3o Z S hS so sc f o n s kids _ up to eo tn tc en ec w hf hx hw.1 hw.2.1 kf d.name d.opt (by rw [hkf, ← hD]) (by rw [hfo, ← hD]) hk
                · exact own4o Z S hS so sc f o n s kids _ up to eo tn tc en ec w hf hx hw.1 hw.2.1 kf d.name d.opt (by rw [hkf, ← hD]) (by rw [hfo, ← hD]) hk
            · rw [if_pos hT]
              rcases h1 with rfl | rfl | rfl
              · exact own2t Z S hS so sc f o n s kids _ up to eo tn tc en ec w hf hx hw.1 hw.2.1 kf d.name d.opt (by rw [hkf, ← hD]) (by rw [hfo, ← hD]) _ _ hk hT
              · exact own3t Z S hS so sc f o n s kids _ up to eo tn tc en ec w hf hx hw.1 hw.2.1 kf d.name d.opt (by rw [hkf, ← hD]) (by rw [hfo, ← hD]) _ _ hk hT
              · exact own4t Z S hS so sc f o n s kids _ up to eo tn tc en ec w hf hx hw.1 hw.2.1 kf d.name d.opt (by rw [hkf, ← hD]) (by rw [hfo, ← hD]) _ _ hk hT
          · rw [if_pos hD]
            rcases h1 with rfl | rfl | rfl
            · exact own2f Z S hS so sc f o n s kids _ up to eo tn tc en ec w hf hx hw.1 hw.2.1 kf d.name d.type d.opt hkf hfo _ _ hk hD
            · exact own3f Z S hS so sc f o n s kids _ up to eo tn tc en ec w hf hx hw.1 hw.2.1 kf d.name d.type d.opt hkf hfo _ _ hk hD
            · exact own4f Z S hS so sc f o n s kids _ up to eo tn tc en ec w hf hx hw.1 hw.2.1 kf d.name d.type d.opt hkf hfo _ _ hk hD
      · have ho : ownP S op f (.cons o n s kids .nil) = (kindP S o s kids).2 := by
          unfold ownP
          rcases h1 with rfl | h1
          · rw [if_pos rfl, hn, hhk, orL_skip, orL_head hE]
          · rw [if_neg (by omega), if_pos h1, hn, hhk, orL_skip, orL_head hE]
        rw [ho]
        rcases h1 with rfl | rfl | rfl | rfl
        · exact own1e Z S hS so sc f o n s kids _ up to eo tn tc en ec w hf hx hw.1 hw.2.1 kf d.name d.type d.opt hkf hfo _ rfl hE
        · exact own2e Z S hS so sc f o n s kids _ up to eo tn tc en ec w hf hx hw.1 hw.2.1 kf d.name d.type d.opt hkf hfo _ rfl hE
        · exact own3e Z S hS so sc f o n s kids _ up to eo tn tc en ec w hf hx hw.1 hw.2.1 kf d.name d.type d.opt hkf hfo _ rfl hE
        · exact own4e Z S hS so sc f o n s kids _ up to eo tn tc en ec w hf hx hw.1 hw.2.1 kf d.name d.type d.opt hkf hfo _ rfl hE
  · obtain ⟨xo, xc, rfl, _⟩ := hx.head
    have ho : ownP S 5 f .nil = orL [(namedK S f).2, optI (namedK S f).1] := rfl
    rw [ho]
    cases hfo : fieldOf S f with
    | none =>
      rw [show namedK S f = (⟨0, false⟩, 90) from by unfold namedK; rw [hfo]]
      exact own5x S hS so sc f xo to eo _ xc tn tc en ec w hf hfo
    | some d =>
      obtain ⟨kf, hkf⟩ := field_at hfo
      rw [show namedK S f = (⟨d.type, d.opt⟩, 0) from by unfold namedK; rw [hfo]]
      cases hD : d.opt with
      | true => exact own5true S hS so sc f xo to eo _ xc tn tc en ec w hf kf d.name d.type d.opt hD hkf hfo
      | false => exact own5false S hS so sc f xo to eo _ xc tn tc en ec w hf kf d.name d.type d.opt hD hkf hfo
  · obtain ⟨xo, xc, rfl, _⟩ := hx.head
    rcases h1 with rfl | rfl
    · exact own6 S hS so sc f xo to eo _ xc tn tc en ec w hf
    · exact own7 S hS so sc f xo to eo _ xc tn tc en ec w hf
  · obtain ⟨o, n, s, kids, rfl⟩ := EL.one_of hl
    simp only [wellE, Bool.and_eq_true] at hw
    have ho : ownP S 8 f (.cons o n s kids .nil) = orL [(kindP S o s kids).2, plainI (kindP S o s kids).1 [2]] := rfl
    rw [ho]
    by_cases hE : (kindP S o s kids).2 = 0
    · have hk : kindP S o s kids = (⟨(kindP S o s kids).1.t, (kindP S o s kids).1.o⟩, 0) := by rw [← hE]
      rw [if_val hE]
      by_cases hT : (kindP S o s kids).1.t = 2
      · rw [if_neg (by simpa using hT)]
        rw [hT] at hk
        cases hO : (kindP S o s kids).1.o with
        | false =>
          rw [hO] at hk
          rw [if_neg (by simp)]
          exact own8z Z S hS so sc f o n s kids xv up to eo tn tc en ec w hf hx hw.1 hw.2.1 hk
        | true =>
          rw [hO] at hk
          rw [if_pos rfl]
          exact own8o Z S hS so sc f o n s kids xv up to eo tn tc en ec w hf hx hw.1 hw.2.1 hk
      · rw [if_pos hT]
        exact own8t Z S hS so sc f o n s kids xv up to eo tn tc en ec w hf hx hw.1 hw.2.1 _ _ hk hT
    · rw [orL_head hE]
      exact own8e Z S hS so sc f o n s kids xv up to eo tn tc en ec w hf hx hw.1 hw.2.1 _ rfl hE
end Go.Proofs.YtjhppnecadnekaaDoor
namespace Go.Proofs.YtjhppnecadnekaaDoor
open Go.RowKit Go.Maps

set_option maxRecDepth 100000 in
set_option maxHeartbeats 4000000 in
theorem rcheck_bad (Z : Zone) (S : List FieldA) (l : SL) (hsz : l.size ≤ 4294967294) (sv pv : Value) (w : World) (up : Nat) (hf : FldsAt w sv S) (hp : SlS Z w up pv l) (E : Int) (hE : E ≠ 0)
    (h : schemaB S = false ∧ E = 60 ∨ schemaB S = true ∧ checkS l = E) :
    Calls Tryd.prog 15 #[.agg #[sv], pv] w fun e w' => e = .returned (chkV (E, 0)) ∧ Keeps (fun _ => False) w w' := by
  obtain ⟨ao, cap, rfl, hc⟩ := hp.head
  obtain ⟨so, sc, rfl⟩ := RowAt.form hf
  obtain ⟨HB, hxb, hxc⟩ := boxedT w #[.slice so S.length sc] 24
  have c0 := hxc 0 (.slice so S.length sc) rfl
  have HCS := hide (checkSchema_any S (.slice so S.length sc) _ (hf.keepF (unhide HB)))
  have HCE := fun w' (hk : Keeps (fun _ => False) w w') => hide (rCheck_v Z l hsz w' up (.slice ao l.len cap) (hp.keepF hk))
  clear hf hp hxc
  rcases h with ⟨h1, rfl⟩ | ⟨h1, h2⟩
  · rw [errS_bad h1] at HCS
    clear h1 HCE
    go_enter Tryd.func15, Tryd.ntmps15
    go_wp2_with (go_at_call 10; refine (unhide HCS).mono ?_; rintro e w1 ⟨rfl, hk1⟩; have HKa := hide ((unhide HB).trans hk1); clear hk1)
    refine bodyPost_ret (v := .tuple #[.int .i64 60, .int .i64 0]) (by simp [results, go_sem]) rfl ?_
    exact ⟨rfl, unhide HKa⟩
  · rw [errS_good h1] at HCS
    rw [h2] at HCE
    have n0 : (E != 0) = true := by simpa using hE
    clear h1 h2 hE
    go_enter Tryd.func15, Tryd.ntmps15
    go_wp2_with (first
      | (go_at_call 10; refine (unhide HCS).mono ?_; rintro e w1 ⟨rfl, hk1⟩; have HKa := hide ((unhide HB).trans hk1); clear hk1)
      | (go_at_call 11; refine (unhide (HCE _ (unhide HKa))).mono ?_; rintro e w2 ⟨rfl, hk1⟩; have HKa := hide ((unhide HKa).trans hk1); clear hk1))
    refine bodyPost_ret (v := .tuple #[.int .i64 E, .int .i64 0]) (by simp [results, go_sem]) rfl ?_
    exact ⟨rfl, unhide HKa⟩

set_option maxRecDepth 100000 in
set_option maxHeartbeats 8000000 in
theorem rcheck_fit (Z : Zone) (S : List FieldA) (l : SL) (hsz : l.size ≤ 4294967294) (sv pv : Value) (w : World) (up : Nat) (hf : FldsAt w sv S) (hp : SlS Z w up pv l) (hS : schemaB S = true) (hC : checkS l = 0) :
    Calls Tryd.prog 15 #[.agg #[sv], pv] w fun e w' => e = .returned (chkV (firstBad S (flatS l) 0)) ∧ Keeps (fun _ => False) w w' := by
  have hwl := checkS_well hC
  have hnl : (flatS l).len ≤ 4294967294 := by rw [flatS_len]; exact Nat.le_trans (countS_le l) hsz
  obtain ⟨ao, cap, rfl, hc⟩ := hp.head
  obtain ⟨so, sc, rfl⟩ := RowAt.form hf
  obtain ⟨HB, hxb, hxc⟩ := boxedT w #[.slice so S.length sc] 24
  have c0 := hxc 0 (.slice so S.length sc) rfl
  have SB : ∀ w', Keeps (fun _ => False) (w.alloc (.cells #[.slice so S.length sc] 24)) w' → w'.cell? ⟨w.heap.size, 0, none⟩ = some (.slice so S.length sc) := fun w' hk => (hk.cell hxb id).trans c0
  have HSB := hide SB
  have HCS := hide (checkSchema_any S (.slice so S.length sc) _ (hf.keepF (unhide HB)))
  have HCE := fun w' (hk : Keeps (fun _ => False) w w') => hide (rCheck_v Z l hsz w' up (.slice ao l.len cap) (hp.keepF hk))
  have HNU := fun w' (hk : Keeps (fun _ => False) w w') => hide (flat_v w'.heap.size (l.size + 1) l (by omega) hsz w' 0 (.slice ao l.len cap) (Nat.le_refl _) ((hp.keepF hk).arg (Nat.le_refl _) 0))
  have HF := hide hf
  have HSG := hide hS
  rw [errS_good hS] at HCS
  rw [hC] at HCE
  have HW := hide (flat_well (N := 4294967294) l hsz hwl)
  clear hf hp hxc SB hS hC hwl
  go_enter Tryd.func15, Tryd.ntmps15
  go_wp2_with (first
    | (go_at_call 10; refine (unhide HCS).mono ?_; rintro e w1 ⟨rfl, hk1⟩; have HKa := hide ((unhide HB).trans hk1); have HKb := hide hk1; clear hk1)
    | (go_at_call 11; refine (unhide (HCE _ (unhide HKa))).mono ?_; rintro e w2 ⟨rfl, hk1⟩; have HKa := hide ((unhide HKa).trans hk1); have HKb := hide ((unhide HKb).trans hk1); clear hk1)
    | (go_at_call 34; refine (unhide (HNU _ (unhide HKa))).mono ?_; rintro e w4 ⟨fo, fc, n, xs, rfl, hn, hown, hss, hk1⟩; obtain ⟨g, goff, hg, hst⟩ := num_open hn (rowAt_own hown) hss; have HNL := hide hn; have HG := hide hg; have HST := hide hst; have HKa := hide ((unhide HKa).trans hk1); have HKb := hide ((unhide HKb).trans hk1); clear hn hown hss hg hst hk1))
  have hn2 : n ≤ 4294967294 := by rw [unhide HNL]; exact hnl
  clear hnl HCS HCE HNU c0
  go_loopw [8] (fun i wr => ∃ (rest : SL) (k : Nat), i = .int .i64 k ∧ k + rest.len = n ∧ Hid (firstBad S rest k = firstBad S (flatS l) 0) ∧ wellF 4294967294 rest ∧ Keeps (fun _ => False) w4 wr ∧ StIn (argZ w4.heap.size) w4 rest g (goff + k * 5)) (fun i _ => n - (intOf i).toNat)
  case atStart => exact ⟨flatS l, 0, rfl, by rw [Nat.zero_add]; exact (unhide HNL).symm, rfl, unhide HW, Keeps.refl _ _, by simpa using unhide HST⟩
  case round =>
    obtain ⟨rest, k, rfl, hkl, HS, hwf, hkeep, hr⟩ := hrel
    have HK := hide hkeep
    cases rest with
    | nil =>
      simp only [SL.len, Nat.add_zero] at hkl
      have i1 : ¬ (k : Int) < (n : Int) := by omega
      clear hr hkeep hwf hkl
      go_wp2_with fail
      refine bodyPost_ret (v := .tuple #[.int .i64 0, .int .i64 0]) (by simp [results, go_sem]) rfl ?_
      exact ⟨by rw [← unhide HS]; rfl, (unhide HKa).trans (unhide HK)⟩
    | cons op f x t el rest =>
      obtain ⟨h1, h2, h3, h4, ⟨xv, h5, hxs⟩, ⟨tao, tcap, h6, h7, h8⟩, ⟨eao, ecap, j6, j7, j8⟩, h9⟩ := hr
      obtain ⟨hh, hwx, hxz, hwr⟩ := hwf
      simp only [SL.len] at hkl
      obtain ⟨xao, xcap, rfl, hxl⟩ := hxs.head
      obtain rfl := (unhide HG) (by omega)
      have HR := hide h9
      have HWR := hide hwr
      have i1 : (k : Int) < (n : Int) := by omega
      have ix0 : (0 : Int) ≤ (k : Int) := by omega
      have HKL := hide hkl
      have e0 : ∀ m : KW wr, m.wd.cell? ⟨w.heap.size, 0, none⟩ = some (.slice so S.length sc) := fun m => unhide HSB _ (((unhide HKb).trans hkeep).trans m.kept)
      have f0 : ∀ m : KW wr, m.wd.cell? ⟨g, goff + k * 5, none⟩ = some (.int .i64 op) := fun m => ((hkeep.trans m.kept).cell h1 id).trans h3
      have f1 : ∀ m : KW wr, m.wd.cell? ⟨g, goff + k * 5 + 1, none⟩ = some (str f) := fun m => ((hkeep.trans m.kept).cell h1 id).trans h4
      have f2 : ∀ m : KW wr, m.wd.cell? ⟨g, goff + k * 5 + 2, none⟩ = some (.slice xao x.len xcap) := fun m => ((hkeep.trans m.kept).cell h1 id).trans h5
      have f3 : ∀ m : KW wr, m.wd.cell? ⟨g, goff + k * 5 + 3, none⟩ = some (.slice tao t.len tcap) := fun m => ((hkeep.trans m.kept).cell h1 id).trans h6
      have f4 : ∀ m : KW wr, m.wd.cell? ⟨g, goff + k * 5 + 4, none⟩ = some (.slice eao el.len ecap) := fun m => ((hkeep.trans m.kept).cell h1 id).trans j6
      have HE := hide (fun (m : KW wr) => kw_of m (refOwn_v (argZ w4.heap.size) S (unhide HSG) so sc op f x t el _ (.slice tao t.len tcap) (.slice eao el.len ecap) g m.wd ((unhide HF).keepF (((unhide HKa).trans hkeep).trans m.kept)) (hxs.keepF (hkeep.trans m.kept)) ⟨_, _, _, _, _, _, rfl, rfl⟩ hh hwx))
      have hst : firstBad S (.cons op f x t el rest) k = if ownP S op f x ≠ 0 then (ownP S op f x, k) else firstBad S rest (k + 1) := rfl
      rw [hst] at HS
      obtain ⟨R, hR⟩ : ∃ R, R = ownP S op f x := ⟨_, rfl⟩
      rw [← hR] at HE HS
      clear hkeep h1 h2 h3 h4 h5 h6 h8 h9 j6 j8 hxs hst hR hh hwx hwr hkl
      by_cases hR0 : R = 0
      · subst hR0
        rw [if_neg (by simp)] at HS
        go_wp2_with fail
        refine region_kept (by kernel_rfl) (by kernel_rfl) ?_
        repeat (go_big_quiet_step ((go_at_call 35; exact unhide HE _)))
        refine wpQuiet_nil ?_
        rintro _ ⟨nq, rfl⟩
        have HK1 := hide nq.kept
        go_wp2_with fail
        go_roundw
        case rel =>
          refine ⟨rest, k + 1, by go_num, by have := unhide HKL; omega, unhide HS, unhide HWR, (unhide HK).trans (unhide HK1), ?_⟩
          rw [show goff + (k + 1) * 5 = goff + k * 5 + 5 by omega]
          exact unhide HR
        case measure => have := unhide HKL; simp [intOf]; omega
      · have n0 : (R != 0) = true := by simpa using hR0
        rw [if_pos hR0] at HS
        clear hR0
        go_wp2_with fail
        refine region_kept (by kernel_rfl) (by kernel_rfl) ?_
        repeat (go_big_quiet_step ((go_at_call 35; exact unhide HE _)))
        refine wpQuiet_nil ?_
        rintro _ ⟨nq, rfl⟩
        have HK1 := hide nq.kept
        go_wp2_with fail
        refine bodyPost_ret (v := .tuple #[.int .i64 R, .int .i64 (k : Int)]) (by simp [results, go_sem]) rfl ?_
        exact ⟨by rw [← unhide HS], ((unhide HKa).trans (unhide HK)).trans (unhide HK1)⟩
theorem rcheck9_v (Z : Zone) (S : List FieldA) (l : SL) (hsz : l.size ≤ 4294967294) (sv pv : Value) (w : World) (up : Nat) (hf : FldsAt w sv S) (hp : SlS Z w up pv l) :
    Calls Tryd.prog 15 #[.agg #[sv], pv] w fun e w' => e = .returned (chkV (checkP S l)) ∧ Keeps (fun _ => False) w w' := by
  unfold checkP
  cases hS : schemaB S with
  | false =>
    rw [errS_bad hS, if_pos (by decide)]
    exact rcheck_bad Z S l hsz sv pv w up hf hp 60 (by decide) (Or.inl ⟨hS, rfl⟩)
  | true =>
    rw [errS_good hS, if_neg (by simp)]
    by_cases hE : checkS l = 0
    · rw [if_neg (by simpa using hE)]
      exact rcheck_fit Z S l hsz sv pv w up hf hp hS hE
    · rw [if_pos hE]
      exact rcheck_bad Z S l hsz sv pv w up hf hp _ hE (Or.inr ⟨hS, rfl⟩)

set_option maxRecDepth 100000 in
set_option maxHeartbeats 4000000 in
theorem checks_walk (S : List FieldA) (hlS : S.length ≤ 4398046511104) (l : SL) (sv pv : Value) (w : World) (hT : Types w) (hF : Forms w) (hf : FldsAt w sv S) (hp : SlS (argZ w.heap.size) w 0 pv l) :
    Calls Tryd.prog 5 #[.agg #[sv], pv] w fun e w' => e = .returned (.bool true) ∧ Keeps (fun _ => False) w w' := by
  obtain ⟨ao, cap, rfl, hc⟩ := hp.head
  obtain ⟨so, sc, rfl⟩ := RowAt.form hf
  obtain ⟨HB, hxb, hxc⟩ := boxedT w #[.slice so S.length sc] 24
  have SB : ∀ w', Keeps (fun _ => False) (w.alloc (.cells #[.slice so S.length sc] 24)) w' → w'.cell? ⟨w.heap.size, 0, none⟩ = some (.slice so S.length sc) := fun w' hk => (hk.cell hxb id).trans (hxc 0 _ rfl)
  have HSB := hide SB
  have HD := hide (deepStmts w.heap.size 0 l (.slice ao l.len cap) _ (by simp) (hp.keepF (unhide HB)))
  have HCH' := fun (hsz : l.size ≤ 4294967294) w' (hk : Keeps (fun _ => False) w w') => hide (lawCheck_v (argZ w.heap.size) S hlS l hsz (.slice so S.length sc) (.slice ao l.len cap) w' 0 (hT.keepF hk) (hF.keepF hk) (hf.keepF hk) (hp.keepF hk))
  have HRC' := fun (hsz : l.size ≤ 4294967294) w' (hk : Keeps (fun _ => False) w w') => hide (rcheck9_v (argZ w.heap.size) S l hsz (.slice so S.length sc) (.slice ao l.len cap) w' 0 (hf.keepF hk) (hp.keepF hk))
  obtain ⟨⟨E, a⟩, hp⟩ : ∃ z, z = checkP S l := ⟨_, rfl⟩
  rw [← hp] at HCH' HRC'
  clear hT hF hf hp SB hxc
  go_enter Tryd.func5, Tryd.ntmps5
  go_wp2_with fail
  refine (unhide HD).mono ?_
  rintro e w1 ⟨r, rfl, hk1, hsz⟩
  have HK1 := hide ((unhide HB).trans hk1)
  have HKb := hide hk1
  have y1 := unhide HSB _ hk1
  cases r with
  | true =>
    clear hk1 hsz
    go_wp2_with fail
    go_ret
    exact ⟨rfl, unhide HK1⟩
  | false =>
    have hs : l.size ≤ 4294967294 := by have := hsz rfl; omega
    have HCH := HCH' hs
    have HRC := HRC' hs
    clear HCH' HRC' hk1 hsz hs
    go_wp2_with (first
      | (go_at_call 9; refine (unhide (HCH _ (unhide HK1))).mono ?_; rintro e w2 ⟨rfl, hk2⟩; have HK1 := hide ((unhide HK1).trans hk2); have HKb := hide ((unhide HKb).trans hk2); have y2 := unhide HSB _ (unhide HKb); clear hk2)
      | (go_at_call 15; refine (unhide (HRC _ (unhide HK1))).mono ?_; rintro e w3 ⟨rfl, hk2⟩; have HK1 := hide ((unhide HK1).trans hk2); clear hk2))
    go_ret
    exact ⟨rfl, unhide HK1⟩
end Go.Proofs.YtjhppnecadnekaaDoor
