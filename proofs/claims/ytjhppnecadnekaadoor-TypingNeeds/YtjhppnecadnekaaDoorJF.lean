import Derived.Test.YtjhppnecadnekaaDoorJB
import Derived.Test.YtjhppnecadnekaaDoorJt
import Derived.Test.YtjhppnecadnekaaDoorJr
import Derived.Maps.OwnSet
namespace Go.Proofs.YtjhppnecadnekaaDoor
open Go.RowKit Go.Maps

theorem chg_val {E : Int} {K : KA} {d : FieldA} (hE : E = 0) : orL [0, E, ofI ⟨d.type, d.opt⟩ [1], plainI K [1]] = if d.type ≠ 1 then 91 else if K.t ≠ 1 then 91 else if K.o then 92 else 0 := by
  subst hE
  obtain ⟨nm, DT, DO⟩ := d
  obtain ⟨T, O⟩ := K
  by_cases h1 : DT = 1
  · subst h1
    by_cases h2 : T = 1
    · subst h2
      cases O <;> rfl
    · simp [orL, ofI, plainI, orI, h2]
  · simp [orL, ofI, h1]
theorem set_val {E : Int} {K : KA} {d : FieldA} (hE : E = 0) : orL [0, E, ofI K [d.type], if K.o = true ∧ d.opt = false then 92 else 0] = if K.t ≠ d.type then 91 else if K.o = true ∧ d.opt = false then 92 else 0 := by
  subst hE
  obtain ⟨nm, DT, DO⟩ := d
  obtain ⟨T, O⟩ := K
  by_cases h1 : T = DT
  · subst h1
    cases O <;> cases DO <;> simp [orL, ofI]
  · simp [orL, ofI, h1]
theorem if_val {E : Int} {K : KA} (hE : E = 0) : orL [E, plainI K [2]] = if K.t ≠ 2 then 91 else if K.o then 92 else 0 := by
  subst hE
  obtain ⟨T, O⟩ := K
  by_cases h1 : T = 2
  · subst h1
    cases O <;> rfl
  · simp [orL, plainI, orI, ofI, h1]
/-- The reference's own check of a statement. -/
theorem refOwn_v (Z : Zone) (S : List FieldA) (hS : schemaB S = true) (so : Option Addr) (sc : Nat) (op : Int) (f : Txt) (x : EL) (t e : SL) (xv tv ev : Value) (up : Nat) (w : World) (hf : FldsAt w (.slice so S.length sc) S)
    (hx : SlE Z w up xv x) (hv : ∃ to tn tc eo en ec, tv = .slice to tn tc ∧ ev = .slice eo en ec) (hh : headS op f x.len t.len e.len = true) (hw : wellE x = true) :
    Calls Tryd.prog 35 #[.agg #[.slice so S.length sc], stV op f xv tv ev] w fun e w' => e = .returned (.int .i64 (ownP S op f x)) ∧ Keeps (fun _ => False) w w' := by
  obtain ⟨to, tn, tc, eo, en, ec, rfl, rfl⟩ := hv
  rcases head_open hh with ⟨h1, _, hl⟩ | ⟨rfl, _, rfl⟩ | ⟨h1, rfl⟩ | ⟨rfl, hl⟩
  · obtain ⟨o, n, s, kids, rfl⟩ := EL.one_of hl
    simp only [wellE, Bool.and_eq_true] at hw
    have hhk : headK S (.cons o n s kids .nil) = kindP S o s kids := rfl
    obtain ⟨xo, xc, rfl, _⟩ := hx.head
    cases hfo : fieldOf S f with
    | none =>
      have hn : namedK S f = (⟨0, false⟩, 90) := by unfold namedK; rw [hfo]
      have ho : ownP S op f (.cons o n s kids .nil) = 90 := by
        unfold ownP
        rcases h1 with rfl | rfl | rfl | rfl
        · rw [if_pos rfl, hn]; rfl
        all_goals rw [if_neg (by decide), if_pos (by decide), hn]; rfl
      rw [ho]
      rcases h1 with rfl | rfl | rfl | rfl
      · exact own1x S hS so sc f xo to eo _ xc tn tc en ec w hf hfo
      · exact own2x S hS so sc f xo to eo _ xc tn tc en ec w hf hfo
      · exact own3x S hS so sc f xo to eo _ xc tn tc en ec w hf hfo
      · exact own4x S hS so sc f xo to eo _ xc tn tc en ec w hf hfo
    | some d =>
      have hn : namedK S f = (⟨d.type, d.opt⟩, 0) := by unfold namedK; rw [hfo]
      obtain ⟨kf, hkf⟩ := field_at hfo
      by_cases hE : (kindP S o s kids).2 = 0
      · have hk : kindP S o s kids = (⟨(kindP S o s kids).1.t, (kindP S o s kids).1.o⟩, 0) := by rw [← hE]
        rcases h1 with rfl | h1
        · have ho : ownP S 1 f (.cons o n s kids .nil) = if (kindP S o s kids).1.t ≠ d.type then 91 else if (kindP S o s kids).1.o = true ∧ d.opt = false then 92 else 0 := by
            unfold ownP
            rw [if_pos rfl, hn, hhk]
            exact set_val hE
          rw [ho]
          by_cases hT : (kindP S o s kids).1.t = d.type
          · rw [if_neg (by simpa using hT)]
            rw [hT] at hk
            cases hO : (kindP S o s kids).1.o with
            | false =>
              rw [hO] at hk
              rw [if_neg (by simp)]
              exact own1p Z S hS so sc f o n s kids _ up to eo tn tc en ec w hf hx hw.1 hw.2.1 kf d.name d.type d.opt hkf hfo hk
            | true =>
              rw [hO] at hk
              cases hD : d.opt with
              | false =>
                rw [if_pos ⟨rfl, rfl⟩]
                exact own1n Z S hS so sc f o n s kids _ up to eo tn tc en ec w hf hx hw.1 hw.2.1 kf d.name d.type (by rw [hkf, ← hD]) (by rw [hfo, ← hD]) hk
              | true =>
                rw [if_neg (by simp)]
                exact own1o Z S hS so sc f o n s kids _ up to eo tn tc en ec w hf hx hw.1 hw.2.1 kf d.name d.type (by rw [hkf, ← hD]) (by rw [hfo, ← hD]) hk
          · rw [if_pos hT]
            exact own1t Z S hS so sc f o n s kids _ up to eo tn tc en ec w hf hx hw.1 hw.2.1 kf d.name d.type d.opt hkf hfo _ _ hk hT
        · have ho : ownP S op f (.cons o n s kids .nil) = if d.type ≠ 1 then 91 else if (kindP S o s kids).1.t ≠ 1 then 91 else if (kindP S o s kids).1.o then 92 else 0 := by
            unfold ownP
            rw [if_neg (by omega), if_pos h1, hn, hhk]
            exact chg_val hE
          rw [ho]
          by_cases hD : d.type = 1
          · rw [if_neg (by simpa using hD)]
            by_cases hT : (kindP S o s kids).1.t = 1
            · rw [if_neg (by simpa using hT)]
              rw [hT] at hk
              cases hO : (kindP S o s kids).1.o with
              | false =>
                rw [hO] at hk
                rw [if_neg (by simp)]
                rcases h1 with rfl | rfl | rfl
                · exact own2z Z S hS so sc f o n s kids _ up to eo tn tc en ec w hf hx hw.1 hw.2.1 kf d.name d.opt (by rw [hkf, ← hD]) (by rw [hfo, ← hD]) hk
                · exact own3z Z S hS so sc f o n s kids _ up to eo tn tc en ec w hf hx hw.1 hw.2.1 kf d.name d.opt (by rw [hkf, ← hD]) (by rw [hfo, ← hD]) hk
                · exact own4z Z S hS so sc f o n s kids _ up to eo tn tc en ec w hf hx hw.1 hw.2.1 kf d.name d.opt (by rw [hkf, ← hD]) (by rw [hfo, ← hD]) hk
              | true =>
                rw [hO] at hk
                rw [if_pos rfl]
                rcases h1 with rfl | rfl | rfl
                · exact own2o Z S hS so sc f o n s kids _ up to eo tn tc en ec w hf hx hw.1 hw.2.1 kf d.name d.opt (by rw [hkf, ← hD]) (by rw [hfo, ← hD]) hk
                · exact own3o Z S hS so sc f o n s kids _ up to eo tn tc en ec w hf hx hw.1 hw.2.1 kf d.name d.opt (by rw [hkf, ← hD]) (by rw [hfo, ← hD]) hk
                · exact own4o Z S hS so sc f o n s kids _ up to eo tn tc en ec w hf hx hw.1 hw.2.1 kf d.name d.opt (by rw [hkf, ← hD]) (by rw [hfo, ← hD]) hk
            · rw [if_pos hT]
              rcases h1 with rfl | rfl | rfl
              · exact own2t Z S hS so sc f o n s kids _ up to eo tn tc en ec w hf hx hw.1 hw.2.1 kf d.name d.opt (by rw [hkf, ← hD]) (by rw [hfo, ← hD]) _ _ hk hT
              · exact own3t Z S hS so sc f o n s kids _ up to eo tn tc en ec w hf hx hw.1 hw.2.1 kf d.name d.opt (by rw [hkf, ← hD]) (by rw [hfo, ← hD]) _ _ hk hT
              · exact own4t Z S hS so sc f o n s kids _ up to eo tn tc en ec w hf hx hw.1 hw.2.1 kf d.name d.opt (by rw [hkf, ← hD]) (by rw [hfo, ← hD]) _ _ hk hT
          · rw [if_pos hD]
            rcases h1 with rfl | rfl | rfl
            · exact own2f Z S hS so sc f o n s kids _ up to eo tn tc en ec w hf hx hw.1 hw.2.1 kf d.name d.type d.opt hkf hfo _ _ hk hD
            · exact own3f Z S hS so sc f o n s kids _ up to eo tn tc en ec w hf hx hw.1 hw.2.1 kf d.name d.type d.opt hkf hfo _ _ hk hD
            · exact own4f Z S hS so sc f o n s kids _ up to eo tn tc en ec w hf hx hw.1 hw.2.1 kf d.name d.type d.opt hkf hfo _ _ hk hD
      · have ho : ownP S op f (.cons o n s kids .nil) = (kindP S o s kids).2 := by
          unfold ownP
          rcases h1 with rfl | h1
          · rw [if_pos rfl, hn, hhk, orL_skip, orL_head hE]
          · rw [if_neg (by omega), if_pos h1, hn, hhk, orL_skip, orL_head hE]
        rw [ho]
        rcases h1 with rfl | rfl | rfl | rfl
        · exact own1e Z S hS so sc f o n s kids _ up to eo tn tc en ec w hf hx hw.1 hw.2.1 kf d.name d.type d.opt hkf hfo _ rfl hE
        · exact own2e Z S hS so sc f o n s kids _ up to eo tn tc en ec w hf hx hw.1 hw.2.1 kf d.name d.type d.opt hkf hfo _ rfl hE
        · exact own3e Z S hS so sc f o n s kids _ up to eo tn tc en ec w hf hx hw.1 hw.2.1 kf d.name d.type d.opt hkf hfo _ rfl hE
        · exact own4e Z S hS so sc f o n s kids _ up to eo tn tc en ec w hf hx hw.1 hw.2.1 kf d.name d.type d.opt hkf hfo _ rfl hE
  · obtain ⟨xo, xc, rfl, _⟩ := hx.head
    have ho : ownP S 5 f .nil = orL [(namedK S f).2, optI (namedK S f).1] := rfl
    rw [ho]
    cases hfo : fieldOf S f with
    | none =>
      rw [show namedK S f = (⟨0, false⟩, 90) from by unfold namedK; rw [hfo]]
      exact own5x S hS so sc f xo to eo _ xc tn tc en ec w hf hfo
    | some d =>
      obtain ⟨kf, hkf⟩ := field_at hfo
      rw [show namedK S f = (⟨d.type, d.opt⟩, 0) from by unfold namedK; rw [hfo]]
      cases hD : d.opt with
      | true => exact own5true S hS so sc f xo to eo _ xc tn tc en ec w hf kf d.name d.type d.opt hD hkf hfo
      | false => exact own5false S hS so sc f xo to eo _ xc tn tc en ec w hf kf d.name d.type d.opt hD hkf hfo
  · obtain ⟨xo, xc, rfl, _⟩ := hx.head
    rcases h1 with rfl | rfl
    · exact own6 S hS so sc f xo to eo _ xc tn tc en ec w hf
    · exact own7 S hS so sc f xo to eo _ xc tn tc en ec w hf
  · obtain ⟨o, n, s, kids, rfl⟩ := EL.one_of hl
    simp only [wellE, Bool.and_eq_true] at hw
    have ho : ownP S 8 f (.cons o n s kids .nil) = orL [(kindP S o s kids).2, plainI (kindP S o s kids).1 [2]] := rfl
    rw [ho]
    by_cases hE : (kindP S o s kids).2 = 0
    · have hk : kindP S o s kids = (⟨(kindP S o s kids).1.t, (kindP S o s kids).1.o⟩, 0) := by rw [← hE]
      rw [if_val hE]
      by_cases hT : (kindP S o s kids).1.t = 2
      · rw [if_neg (by simpa using hT)]
        rw [hT] at hk
        cases hO : (kindP S o s kids).1.o with
        | false =>
          rw [hO] at hk
          rw [if_neg (by simp)]
          exact own8z Z S hS so sc f o n s kids xv up to eo tn tc en ec w hf hx hw.1 hw.2.1 hk
        | true =>
          rw [hO] at hk
          rw [if_pos rfl]
          exact own8o Z S hS so sc f o n s kids xv up to eo tn tc en ec w hf hx hw.1 hw.2.1 hk
      · rw [if_pos hT]
        exact own8t Z S hS so sc f o n s kids xv up to eo tn tc en ec w hf hx hw.1 hw.2.1 _ _ hk hT
    · rw [orL_head hE]
      exact own8e Z S hS so sc f o n s kids xv up to eo tn tc en ec w hf hx hw.1 hw.2.1 _ rfl hE
end Go.Proofs.YtjhppnecadnekaaDoor
namespace Go.Proofs.YtjhppnecadnekaaDoor
open Go.RowKit Go.Maps

set_option maxRecDepth 100000 in
set_option maxHeartbeats 4000000 in
theorem rcheck_bad (Z : Zone) (S : List FieldA) (l : SL) (hsz : l.size ≤ 4294967294) (sv pv : Value) (w : World) (up : Nat) (hf : FldsAt w sv S) (hp : SlS Z w up pv l) (E : Int) (hE : E ≠ 0)
    (h : schemaB S = false ∧ E = 60 ∨ schemaB S = true ∧ checkS l = E) :
    Calls Tryd.prog 15 #[.agg #[sv], pv] w fun e w' => e = .returned (chkV (E, 0)) ∧ Keeps (fun _ => False) w w' := by
  obtain ⟨ao, cap, rfl, hc⟩ := hp.head
  obtain ⟨so, sc, rfl⟩ := RowAt.form hf
  obtain ⟨HB, hxb, hxc⟩ := boxedT w #[.slice so S.length sc] 24
  have c0 := hxc 0 (.slice so S.length sc) rfl
  have HCS := hide (checkSchema_any S (.slice so S.length sc) _ (hf.keepF (unhide HB)))
  have HCE := fun w' (hk : Keeps (fun _ => False) w w') => hide (rCheck_v Z l hsz w' up (.slice ao l.len cap) (hp.keepF hk))
  clear hf hp hxc
  rcases h with ⟨h1, rfl⟩ | ⟨h1, h2⟩
  · rw [errS_bad h1] at HCS
    clear h1 HCE
    go_enter Tryd.func15, Tryd.ntmps15
    go_wp2_with (go_at_call 10; refine (unhide HCS).mono ?_; rintro e w1 ⟨rfl, hk1⟩; have HKa := hide ((unhide HB).trans hk1); clear hk1)
    refine bodyPost_ret (v := .tuple #[.int .i64 60, .int .i64 0]) (by simp [results, go_sem]) rfl ?_
    exact ⟨rfl, unhide HKa⟩
  · rw [errS_good h1] at HCS
    rw [h2] at HCE
    have n0 : (E != 0) = true := by simpa using hE
    clear h1 h2 hE
    go_enter Tryd.func15, Tryd.ntmps15
    go_wp2_with (first
      | (go_at_call 10; refine (unhide HCS).mono ?_; rintro e w1 ⟨rfl, hk1⟩; have HKa := hide ((unhide HB).trans hk1); clear hk1)
      | (go_at_call 11; refine (unhide (HCE _ (unhide HKa))).mono ?_; rintro e w2 ⟨rfl, hk1⟩; have HKa := hide ((unhide HKa).trans hk1); clear hk1))
    refine bodyPost_ret (v := .tuple #[.int .i64 E, .int .i64 0]) (by simp [results, go_sem]) rfl ?_
    exact ⟨rfl, unhide HKa⟩

set_option maxRecDepth 100000 in
set_option maxHeartbeats 8000000 in
theorem rcheck_fit (Z : Zone) (S : List FieldA) (l : SL) (hsz : l.size ≤ 4294967294) (sv pv : Value) (w : World) (up : Nat) (hf : FldsAt w sv S) (hp : SlS Z w up pv l) (hS : schemaB S = true) (hC : checkS l = 0) :
    Calls Tryd.prog 15 #[.agg #[sv], pv] w fun e w' => e = .returned (chkV (firstBad S (flatS l) 0)) ∧ Keeps (fun _ => False) w w' := by
  have hwl := checkS_well hC
  have hnl : (flatS l).len ≤ 4294967294 := by rw [flatS_len]; exact Nat.le_trans (countS_le l) hsz
  obtain ⟨ao, cap, rfl, hc⟩ := hp.head
  obtain ⟨so, sc, rfl⟩ := RowAt.form hf
  obtain ⟨HB, hxb, hxc⟩ := boxedT w #[.slice so S.length sc] 24
  have c0 := hxc 0 (.slice so S.length sc) rfl
  have SB : ∀ w', Keeps (fun _ => False) (w.alloc (.cells #[.slice so S.length sc] 24)) w' → w'.cell? ⟨w.heap.size, 0, none⟩ = some (.slice so S.length sc) := fun w' hk => (hk.cell hxb id).trans c0
  have HSB := hide SB
  have HCS := hide (checkSchema_any S (.slice so S.length sc) _ (hf.keepF (unhide HB)))
  have HCE := fun w' (hk : Keeps (fun _ => False) w w') => hide (rCheck_v Z l hsz w' up (.slice ao l.len cap) (hp.keepF hk))
  have HNU := fun w' (hk : Keeps (fun _ => False) w w') => hide (flat_v w'.heap.size (l.size + 1) l (by omega) hsz w' 0 (.slice ao l.len cap) (Nat.le_refl _) ((hp.keepF hk).arg (Nat.le_refl _) 0))
  have HF := hide hf
  have HSG := hide hS
  rw [errS_good hS] at HCS
  rw [hC] at HCE
  have HW := hide (flat_well (N := 4294967294) l hsz hwl)
  clear hf hp hxc SB hS hC hwl
  go_enter Tryd.func15, Tryd.ntmps15
  go_wp2_with (first
    | (go_at_call 10; refine (unhide HCS).mono ?_; rintro e w1 ⟨rfl, hk1⟩; have HKa := hide ((unhide HB).trans hk1); have HKb := hide hk1; clear hk1)
    | (go_at_call 11; refine (unhide (HCE _ (unhide HKa))).mono ?_; rintro e w2 ⟨rfl, hk1⟩; have HKa := hide ((unhide HKa).trans hk1); have HKb := hide ((unhide HKb).trans hk1); clear hk1)
    | (go_at_call 34; refine (unhide (HNU _ (unhide HKa))).mono ?_; rintro e w4 ⟨fo, fc, n, xs, rfl, hn, hown, hss, hk1⟩; obtain ⟨g, goff, hg, hst⟩ := num_open hn (rowAt_own hown) hss; have HNL := hide hn; have HG := hide hg; have HST := hide hst; have HKa := hide ((unhide HKa).trans hk1); have HKb := hide ((unhide HKb).trans hk1); clear hn hown hss hg hst hk1))
  have hn2 : n ≤ 4294967294 := by rw [unhide HNL]; exact hnl
  clear hnl HCS HCE HNU c0
  go_loopw [8] (fun i wr => ∃ (rest : SL) (k : Nat), i = .int .i64 k ∧ k + rest.len = n ∧ Hid (firstBad S rest k = firstBad S (flatS l) 0) ∧ wellF 4294967294 rest ∧ Keeps (fun _ => False) w4 wr ∧ StIn (argZ w4.heap.size) w4 rest g (goff + k * 5)) (fun i _ => n - (intOf i).toNat)
  case atStart => exact ⟨flatS l, 0, rfl, by rw [Nat.zero_add]; exact (unhide HNL).symm, rfl, unhide HW, Keeps.refl _ _, by simpa using unhide HST⟩
  case round =>
    obtain ⟨rest, k, rfl, hkl, HS, hwf, hkeep, hr⟩ := hrel
    have HK := hide hkeep
    cases rest with
    | nil =>
      simp only [SL.len, Nat.add_zero] at hkl
      have i1 : ¬ (k : Int) < (n : Int) := by omega
      clear hr hkeep hwf hkl
      go_wp2_with fail
      refine bodyPost_ret (v := .tuple #[.int .i64 0, .int .i64 0]) (by simp [results, go_sem]) rfl ?_
      exact ⟨by rw [← unhide HS]; rfl, (unhide HKa).trans (unhide HK)⟩
    | cons op f x t el rest =>
      obtain ⟨h1, h2, h3, h4, ⟨xv, h5, hxs⟩, ⟨tao, tcap, h6, h7, h8⟩, ⟨eao, ecap, j6, j7, j8⟩, h9⟩ := hr
      obtain ⟨hh, hwx, hxz, hwr⟩ := hwf
      simp only [SL.len] at hkl
      obtain ⟨xao, xcap, rfl, hxl⟩ := hxs.head
      obtain rfl := (unhide HG) (by omega)
      have HR := hide h9
      have HWR := hide hwr
      have i1 : (k : Int) < (n : Int) := by omega
      have ix0 : (0 : Int) ≤ (k : Int) := by omega
      have HKL := hide hkl
      have e0 : ∀ m : KW wr, m.wd.cell? ⟨w.heap.size, 0, none⟩ = some (.slice so S.length sc) := fun m => unhide HSB _ (((unhide HKb).trans hkeep).trans m.kept)
      have f0 : ∀ m : KW wr, m.wd.cell? ⟨g, goff + k * 5, none⟩ = some (.int .i64 op) := fun m => ((hkeep.trans m.kept).cell h1 id).trans h3
      have f1 : ∀ m : KW wr, m.wd.cell? ⟨g, goff + k * 5 + 1, none⟩ = some (str f) := fun m => ((hkeep.trans m.kept).cell h1 id).trans h4
      have f2 : ∀ m : KW wr, m.wd.cell? ⟨g, goff + k * 5 + 2, none⟩ = some (.slice xao x.len xcap) := fun m => ((hkeep.trans m.kept).cell h1 id).trans h5
      have f3 : ∀ m : KW wr, m.wd.cell? ⟨g, goff + k * 5 + 3, none⟩ = some (.slice tao t.len tcap) := fun m => ((hkeep.trans m.kept).cell h1 id).trans h6
      have f4 : ∀ m : KW wr, m.wd.cell? ⟨g, goff + k * 5 + 4, none⟩ = some (.slice eao el.len ecap) := fun m => ((hkeep.trans m.kept).cell h1 id).trans j6
      have HE := hide (fun (m : KW wr) => kw_of m (refOwn_v (argZ w4.heap.size) S (unhide HSG) so sc op f x t el _ (.slice tao t.len tcap) (.slice eao el.len ecap) g m.wd ((unhide HF).keepF (((unhide HKa).trans hkeep).trans m.kept)) (hxs.keepF (hkeep.trans m.kept)) ⟨_, _, _, _, _, _, rfl, rfl⟩ hh hwx))
      have hst : firstBad S (.cons op f x t el rest) k = if ownP S op f x ≠ 0 then (ownP S op f x, k) else firstBad S rest (k + 1) := rfl
      rw [hst] at HS
      obtain ⟨R, hR⟩ : ∃ R, R = ownP S op f x := ⟨_, rfl⟩
      rw [← hR] at HE HS
      clear hkeep h1 h2 h3 h4 h5 h6 h8 h9 j6 j8 hxs hst hR hh hwx hwr hkl
      by_cases hR0 : R = 0
      · subst hR0
        rw [if_neg (by simp)] at HS
        go_wp2_with fail
        refine region_kept (by kernel_rfl) (by kernel_rfl) ?_
        repeat (go_big_quiet_step ((go_at_call 35; exact unhide HE _)))
        refine wpQuiet_nil ?_
        rintro _ ⟨nq, rfl⟩
        have HK1 := hide nq.kept
        go_wp2_with fail
        go_roundw
        case rel =>
          refine ⟨rest, k + 1, by go_num, by have := unhide HKL; omega, unhide HS, unhide HWR, (unhide HK).trans (unhide HK1), ?_⟩
          rw [show goff + (k + 1) * 5 = goff + k * 5 + 5 by omega]
          exact unhide HR
        case measure => have := unhide HKL; simp [intOf]; omega
      · have n0 : (R != 0) = true := by simpa using hR0
        rw [if_pos hR0] at HS
        clear hR0
        go_wp2_with fail
        refine region_kept (by kernel_rfl) (by kernel_rfl) ?_
        repeat (go_big_quiet_step ((go_at_call 35; exact unhide HE _)))
        refine wpQuiet_nil ?_
        rintro _ ⟨nq, rfl⟩
        have HK1 := hide nq.kept
        go_wp2_with fail
        refine bodyPost_ret (v := .tuple #[.int .i64 R, .int .i64 (k : Int)]) (by simp [results, go_sem]) rfl ?_
        exact ⟨by rw [← unhide HS], ((unhide HKa).trans (unhide HK)).trans (unhide HK1)⟩
theorem rcheck9_v (Z : Zone) (S : List FieldA) (l : SL) (hsz : l.size ≤ 4294967294) (sv pv : Value) (w : World) (up : Nat) (hf : FldsAt w sv S) (hp : SlS Z w up pv l) :
    Calls Tryd.prog 15 #[.agg #[sv], pv] w fun e w' => e = .returned (chkV (checkP S l)) ∧ Keeps (fun _ => False) w w' := by
  unfold checkP
  cases hS : schemaB S with
  | false =>
    rw [errS_bad hS, if_pos (by decide)]
    exact rcheck_bad Z S l hsz sv pv w up hf hp 60 (by decide) (Or.inl ⟨hS, rfl⟩)
  | true =>
    rw [errS_good hS, if_neg (by simp)]
    by_cases hE : checkS l = 0
    · rw [if_neg (by simpa using hE)]
      exact rcheck_fit Z S l hsz sv pv w up hf hp hS hE
    · rw [if_pos hE]
      exact rcheck_bad Z S l hsz sv pv w up hf hp _ hE (Or.inr ⟨hS, rfl⟩)

set_option maxRecDepth 100000 in
set_option maxHeartbeats 4000000 in
theorem checks_walk (S : List FieldA) (hlS : S.length ≤ 4398046511104) (l : SL) (sv pv : Value) (w : World) (hT : Types w) (hF : Forms w) (hf : FldsAt w sv S) (hp : SlS (argZ w.heap.size) w 0 pv l) :
    Calls Tryd.prog 5 #[.agg #[sv], pv] w fun e w' => e = .returned (.bool true) ∧ Keeps (fun _ => False) w w' := by
  obtain ⟨ao, cap, rfl, hc⟩ := hp.head
  obtain ⟨so, sc, rfl⟩ := RowAt.form hf
  obtain ⟨HB, hxb, hxc⟩ := boxedT w #[.slice so S.length sc] 24
  have SB : ∀ w', Keeps (fun _ => False) (w.alloc (.cells #[.slice so S.length sc] 24)) w' → w'.cell? ⟨w.heap.size, 0, none⟩ = some (.slice so S.length sc) := fun w' hk => (hk.cell hxb id).trans (hxc 0 _ rfl)
  have HSB := hide SB
  have HD := hide (deepStmts w.heap.size 0 l (.slice ao l.len cap) _ (by simp) (hp.keepF (unhide HB)))
  have HCH' := fun (hsz : l.size ≤ 4294967294) w' (hk : Keeps (fun _ => False) w w') => hide (lawCheck_v (argZ w.heap.size) S hlS l hsz (.slice so S.length sc) (.slice ao l.len cap) w' 0 (hT.keepF hk) (hF.keepF hk) (hf.keepF hk) (hp.keepF hk))
  have HRC' := fun (hsz : l.size ≤ 4294967294) w' (hk : Keeps (fun _ => False) w w') => hide (rcheck9_v (argZ w.heap.size) S l hsz (.slice so S.length sc) (.slice ao l.len cap) w' 0 (hf.keepF hk) (hp.keepF hk))
  obtain ⟨⟨E, a⟩, hp⟩ : ∃ z, z = checkP S l := ⟨_, rfl⟩
  rw [← hp] at HCH' HRC'
  clear hT hF hf hp SB hxc
  go_enter Tryd.func5, Tryd.ntmps5
  go_wp2_with fail
  refine (unhide HD).mono ?_
  rintro e w1 ⟨r, rfl, hk1, hsz⟩
  have HK1 := hide ((unhide HB).trans hk1)
  have HKb := hide hk1
  have y1 := unhide HSB _ hk1
  cases r with
  | true =>
    clear hk1 hsz
    go_wp2_with fail
    go_ret
    exact ⟨rfl, unhide HK1⟩
  | false =>
    have hs : l.size ≤ 4294967294 := by have := hsz rfl; omega
    have HCH := HCH' hs
    have HRC := HRC' hs
    clear HCH' HRC' hk1 hsz hs
    go_wp2_with (first
      | (go_at_call 9; refine (unhide (HCH _ (unhide HK1))).mono ?_; rintro e w2 ⟨rfl, hk2⟩; have HK1 := hide ((unhide HK1).trans hk2); have HKb := hide ((unhide HKb).trans hk2); have y2 := unhide HSB _ (unhide HKb); clear hk2)
      | (go_at_call 15; refine (unhide (HRC _ (unhide HK1))).mono ?_; rintro e w3 ⟨rfl, hk2⟩; have HK1 := hide ((unhide HK1).trans hk2); clear hk2))
    go_ret
    exact ⟨rfl, unhide HK1⟩
end Go.Proofs.YtjhppnecadnekaaDoor
namespace Go.Proofs.YtjhppnecadnekaaDoor
open Go.RowKit Go.Maps

/-- A map of counts. -/
def Cnt (w : World) (mb n : Nat) (c : Txt → Nat) : Prop :=
  ∃ D : DataW Unit, w.ownsMap Tryd.prog 9 (plainElem Tryd.prog 3) mb n D ∧ (∀ s, D.atKey (.string s) (.lit (.int .i64 0)) = .lit (.int .i64 (c s))) ∧ ∀ s, c s ≤ n
def bump (c : Txt → Nat) (nm : Txt) (s : Txt) : Nat := if s = nm then c s + 1 else c s
theorem zero3 (w : World) : (zeroValue 3).run Tryd.prog w = .ok (.int .i64 0) w := by kernel_rfl
theorem Cnt.congr {w : World} {mb n : Nat} {c c' : Txt → Nat} (h : Cnt w mb n c) (e : ∀ s, c s = c' s) : Cnt w mb n c' := by
  have : c = c' := funext e
  rw [← this]
  exact h
theorem Cnt.keep {w w' : World} {mb n : Nat} {c : Txt → Nat} (h : Cnt w mb n c) {F : Nat → Prop} (hk : Keeps F w w') (hF : ¬ F mb) : Cnt w' mb n c := by
  obtain ⟨D, ⟨es, clock, hb, r⟩, h2⟩ := h
  exact ⟨D, ⟨es, clock, (hk.block _ (lt_of_block hb) hF).trans hb, r⟩, h2⟩
theorem Cnt.lt {w : World} {mb n : Nat} {c : Txt → Nat} (h : Cnt w mb n c) : mb < w.heap.size := by
  obtain ⟨D, h1, _⟩ := h
  exact h1.lt
theorem Cnt.le {w : World} {mb n : Nat} {c : Txt → Nat} (h : Cnt w mb n c) (s : Txt) : c s ≤ n := by
  obtain ⟨D, _, _, h1⟩ := h
  exact h1 s
theorem Cnt.made (w : World) : Cnt (w.alloc (.map #[] 0)) w.heap.size 0 (fun _ => 0) :=
  ⟨.map [], World.ownsMap_made w Tryd.prog 9 _, fun _ => rfl, fun _ => Nat.le_refl _⟩
theorem Cnt.look {w : World} {mb n : Nat} {c : Txt → Nat} (h : Cnt w mb n c) {nm : Txt} (hl : nm.length ≤ 1000) :
    (Instr.lookup 85 (.map (some mb)) (str nm) false).run Tryd.prog w = .ok (.int .i64 (c nm)) w := by
  obtain ⟨D, h1, h2, _⟩ := h
  obtain ⟨x, hrun, hat, _⟩ := h1.lookup_int strKeyed Tryd.underlying85 Tryd.underlying3 (zero3 w) (keyStr hl)
  rw [h2 nm] at hat
  simp at hat
  rw [hrun, hat]
theorem Cnt.store {w : World} {mb n : Nat} {c : Txt → Nat} (h : Cnt w mb n c) {nm : Txt} (hl : nm.length ≤ 1000) (hn : n ≤ 4611686018427387904) :
    ∃ w', (Instr.mapUpdate 85 (.map (some mb)) (str nm) (.int .i64 ((c nm : Int) + 1))).run Tryd.prog w = .ok () w' ∧ Cnt w' mb (n + 1) (bump c nm) ∧ Keeps (fun k => k = mb) w w' := by
  obtain ⟨D, h1, h2, h3⟩ := h
  have hc := h3 nm
  have hw : (Lit.int .i64 ((c nm : Int) + 1)).wf = true := by simp [Lit.wf, IntKind.min, IntKind.max, IntKind.signed, IntKind.bits]; omega
  obtain ⟨w', hrun, hm, ht⟩ := h1.store strKeyed Tryd.underlying85 (by unfold maxLen; omega) (keyStr hl) (plainElem_int Tryd.underlying3 hw)
  refine ⟨w', hrun, ⟨_, hm, fun s => ?_, fun s => ?_⟩, (Keeps.refl _ _).grown ht.grown (fun q e _ => by simpa using e.symm)⟩
  · unfold bump
    by_cases e : s = nm
    · subst e
      rw [atKey_put_same h1.isMap (isKeyStr _), if_pos rfl]
      simp
    · rw [atKey_put_other (fun h => e (by simpa using h)), if_neg e, h2 s]
  · have := h3 s
    unfold bump
    split <;> omega
/-- How often a list of expressions names a field. -/
def cntE : EL → Txt → Nat
  | .nil, _ => 0
  | .cons op _ s kids rest, x => (if (op = 4 ∨ op = 5) ∧ s = x then 1 else 0) + cntE kids x + cntE rest x
theorem rootB_name {op n : Int} {s : Txt} {k : Nat} (h : rootB op n s k = true) (ho : op = 4 ∨ op = 5) : s.length ≤ 1000 := by
  unfold rootB leafB at h
  rw [if_neg (show ¬ op = 1 by omega), if_neg (show ¬ op = 2 by omega), if_neg (show ¬ op = 3 by omega), if_pos ho] at h
  simp only [Bool.and_eq_true] at h
  have := name_short h.2.2.2
  omega

set_option maxRecDepth 100000 in
set_option maxHeartbeats 4000000 in
theorem countNames_v (B mb : Nat) (hBm : B ≤ mb) (N : Nat) : ∀ (l : EL), l.size < N → l.size ≤ 4294967294 → wellE l = true → ∀ (w : World) (up : Nat) (v : Value) (n : Nat) (c : Txt → Nat), SlE (argZ B) w up v l → Cnt w mb n c → n + l.size ≤ 4611686018427387904 →
    Calls Tryd.prog 55 #[.map (some mb), v] w fun e w' => e = .returned (.tuple #[]) ∧ ∃ n', n' ≤ n + l.size ∧ Cnt w' mb n' (fun x => c x + cntE l x) ∧ Keeps (fun k => k = mb) w w' := by
  induction N with
  | zero => intro l h; omega
  | succ N ih =>
    intro l hsz hlen' hwl w up v n c hS hC hn
    have hlen : l.len ≤ 4294967294 := by have := EL.len_le l; omega
    obtain ⟨ao, cap, b, off, rfl, hcap, ha, hx⟩ := hS.open
    have IH := hide ih
    have HX := hide hx
    have HA := hide ha
    have HC := hide hC
    have HWL := hide hwl
    clear hS ih hx ha hC hwl
    go_enter Tryd.func55, Tryd.ntmps55
    go_wp2_with fail
    go_loopw [8] (fun i wr => ∃ (rest : EL) (k m : Nat) (d : Txt → Nat), i = .int .i64 k ∧ k + rest.len = l.len ∧ rest.size ≤ l.size ∧ wellE rest = true ∧ m + rest.size ≤ n + l.size ∧ Hid (∀ x, d x + cntE rest x = c x + cntE l x) ∧ Cnt wr mb m d ∧ Keeps (fun k => k = mb) w wr ∧ ExIn (argZ B) wr rest b (off + k * 4)) (fun i _ => l.len - (intOf i).toNat)
    case atStart => exact ⟨l, 0, n, c, rfl, by omega, Nat.le_refl _, unhide HWL, Nat.le_refl _, fun _ => rfl, unhide HC, Keeps.refl _ _, by simpa using unhide HX⟩
    case round =>
      obtain ⟨rest, k, m, d, rfl, hkl, hrs, hwr, hm, HD, hc, hkeep, hr⟩ := hrel
      have HK := hide hkeep
      have HCN := hide hc
      cases rest with
      | nil =>
        simp only [EL.len, EL.size] at hkl hm hrs
        have i1 : ¬ (k : Int) < (l.len : Int) := by omega
        clear hc hkeep hr hwr
        go_wp2_with fail
        go_end0
        exact ⟨rfl, m, by omega, (unhide HCN).congr (fun x => by have := unhide HD x; simpa [cntE] using this), unhide HK⟩
      | cons op nn s kids rest =>
        obtain ⟨h1, h2, h3, h4, h5, ⟨kao, kcap, h6, h7, h8⟩, h9⟩ := hr
        simp only [EL.len, EL.size] at hkl hm hrs
        simp only [wellE, Bool.and_eq_true] at hwr
        obtain ⟨hroot, hwk, hwr⟩ := hwr
        obtain ⟨rfl, hp⟩ := (unhide HA) (by omega)
        have HKID : Hid (SlE (argZ B) wr b (.slice kao kids.len kcap) kids) := ⟨kao, kcap, rfl, h7, h8⟩
        have HR := hide h9
        have i1 : (k : Int) < (l.len : Int) := by omega
        have ix0 : (0 : Int) ≤ (k : Int) := by omega
        obtain ⟨HB, hxb, hxc⟩ := boxedT wr #[.int .i64 op, .int .i64 nn, str s, .slice kao kids.len kcap] 78
        have y0 := hxc 0 (.int .i64 op) rfl
        have y2 := hxc 2 (str s) rfl
        have y3 := hxc 3 (.slice kao kids.len kcap) rfl
        have HWK := hide hwk
        have HWR := hide hwr
        have hc1 : Cnt (wr.alloc (.cells #[.int .i64 op, .int .i64 nn, str s, .slice kao kids.len kcap] 78)) mb m d := hc.keep (unhide HB) id
        have hmlt := hc.lt
        have HKA : Hid (Keeps (fun k => k = mb) w (wr.alloc (.cells #[.int .i64 op, .int .i64 nn, str s, .slice kao kids.len kcap] 78))) := (unhide HK).alloc _
        have HKB : Hid (Keeps (fun k => k = mb) wr (wr.alloc (.cells #[.int .i64 op, .int .i64 nn, str s, .slice kao kids.len kcap] 78))) := (Keeps.refl _ wr).alloc _
        by_cases ho : op = 4 ∨ op = 5
        · have hl := rootB_name hroot ho
          have hlk := hc1.look hl
          obtain ⟨w1, hst, hc2, hk2⟩ := hc1.store hl (by omega)
          have q3 := (hk2.cell (o := 3) hxb (show ¬ wr.heap.size = mb by omega)).trans y3
          have HCALL := hide (unhide IH kids (by omega) (by omega) (unhide HWK) w1 b (.slice kao kids.len kcap) (m + 1) _ ((unhide HKID).argKeep ((unhide HKB).trans hk2) (fun k e => by omega)) hc2 (by omega))
          have HK2 := hide hk2
          have hd1 : d s ≤ 4611686018427387904 := by have := hc1.le s; omega
          clear hc hkeep h2 h8 h9 hxc hc1 hc2 hk2 hroot hwk hwr hl
          rcases ho with rfl | rfl
          · go_wp2_with (go_at_call 55; refine (unhide HCALL).mono ?_; rintro e w2 ⟨rfl, n2, hn2, hc3, hk3⟩; have HC3 := hide hc3; have HK3 := hide hk3; clear hc3 hk3)
            go_roundw
            case rel =>
              refine ⟨rest, k + 1, n2, _, by go_num, by omega, by omega, unhide HWR, by omega, fun x => ?_, unhide HC3, ((unhide HKA).trans (unhide HK2)).trans (unhide HK3), ?_⟩
              · have h := unhide HD x
                simp only [cntE] at h
                unfold bump
                by_cases e : x = s
                · subst e; simp at h ⊢; omega
                · rw [if_neg e]; rw [if_neg (fun h => e h.2.symm)] at h; omega
              · rw [show off + (k + 1) * 4 = off + k * 4 + 4 by omega]
                exact (unhide HR).argKeep (((unhide HKB).trans (unhide HK2)).trans (unhide HK3)) (fun k e => by omega)
            case measure => simp [intOf]; omega
          · go_wp2_with (go_at_call 55; refine (unhide HCALL).mono ?_; rintro e w2 ⟨rfl, n2, hn2, hc3, hk3⟩; have HC3 := hide hc3; have HK3 := hide hk3; clear hc3 hk3)
            go_roundw
            case rel =>
              refine ⟨rest, k + 1, n2, _, by go_num, by omega, by omega, unhide HWR, by omega, fun x => ?_, unhide HC3, ((unhide HKA).trans (unhide HK2)).trans (unhide HK3), ?_⟩
              · have h := unhide HD x
                simp only [cntE] at h
                unfold bump
                by_cases e : x = s
                · subst e; simp at h ⊢; omega
                · rw [if_neg e]; rw [if_neg (fun h => e h.2.symm)] at h; omega
              · rw [show off + (k + 1) * 4 = off + k * 4 + 4 by omega]
                exact (unhide HR).argKeep (((unhide HKB).trans (unhide HK2)).trans (unhide HK3)) (fun k e => by omega)
            case measure => simp [intOf]; omega
        · have o4 : (op == 4) = false := by simp; omega
          have o5 : (op == 5) = false := by simp; omega
          have HCALL := hide (unhide IH kids (by omega) (by omega) (unhide HWK) _ b (.slice kao kids.len kcap) m _ ((unhide HKID).argKeep (unhide HKB) (fun k e => by omega)) hc1 (by omega))
          have HO := hide ho
          clear hc hkeep h2 h8 h9 hxc hc1 hroot hwk hwr ho
          go_wp2_with (go_at_call 55; refine (unhide HCALL).mono ?_; rintro e w2 ⟨rfl, n2, hn2, hc3, hk3⟩; have HC3 := hide hc3; have HK3 := hide hk3; clear hc3 hk3)
          go_roundw
          case rel =>
            refine ⟨rest, k + 1, n2, _, by go_num, by omega, by omega, unhide HWR, by omega, fun x => ?_, unhide HC3, (unhide HKA).trans (unhide HK3), ?_⟩
            · have h := unhide HD x
              simp only [cntE] at h
              rw [if_neg (fun h => (unhide HO) h.1)] at h
              omega
            · rw [show off + (k + 1) * 4 = off + k * 4 + 4 by omega]
              exact (unhide HR).argKeep ((unhide HKB).trans (unhide HK3)) (fun k e => by omega)
          case measure => simp [intOf]; omega
end Go.Proofs.YtjhppnecadnekaaDoor
namespace Go.Proofs.YtjhppnecadnekaaDoor
open Go.RowKit Go.Maps

theorem Tryd.info9 : (Tryd.prog.info? 9).map (fun i => (i.zero, i.size, i.bytes)) = some (some (.string ⟨#[]⟩), 1, 16) := by kernel_rfl
/-- The names of the fields that are meant, as cells. -/
def nmC (l : List Txt) : List Value := l.map str
def pick (S : List FieldA) (p : Txt → Bool) : List Txt := (S.map FieldA.name).filter p
theorem pick_snoc (S : List FieldA) (f : FieldA) (p : Txt → Bool) : pick (S ++ [f]) p = pick S p ++ (if p f.name then [f.name] else []) := by
  unfold pick
  rw [List.map_append, List.filter_append]
  simp [List.filter]
  split <;> simp_all
theorem pick_le (S : List FieldA) (p : Txt → Bool) : (pick S p).length ≤ S.length := by
  unfold pick
  have := List.length_filter_le p (S.map FieldA.name)
  simpa using this
theorem nmC_snoc (l : List Txt) (x : Txt) : nmC (l ++ [x]) = nmC l ++ [str x] := by simp [nmC]
/-- A list of names of one's own. -/
def NmAt (w : World) (base : Nat) (v : Value) (l : List Txt) : Prop := w.ownsRow base 9 1 v l.length (nmC l)

set_option maxRecDepth 100000 in
set_option maxHeartbeats 4000000 in
theorem namesOf_v (S : List FieldA) (hl : S.length ≤ 8) (hn : ∀ f ∈ S, f.name.length ≤ 8) (mb n : Nat) (c : Txt → Nat) (sv : Value) (w : World) (hf : FldsAt w sv S) (hC : Cnt w mb n c) :
    Calls Tryd.prog 56 #[.agg #[sv], .map (some mb)] w fun e w' => ∃ v, e = .returned v ∧ NmAt w' w.heap.size v (pick S (fun s => decide (0 < c s))) ∧ Keeps (fun _ => False) w w' := by
  obtain ⟨i0, hi, hz0, hz1, hz2⟩ := info_parts Tryd.info9
  obtain ⟨ao, cap, rfl⟩ := RowAt.form hf
  have HF := hide hf
  have HC := hide hC
  have HN := hide hn
  obtain ⟨HB, hxb, hxc⟩ := boxedT w #[.slice ao S.length cap] 24
  have c0 := hxc 0 (.slice ao S.length cap) rfl
  have hsz : (w.alloc (.cells #[.slice ao S.length cap] 24)).heap.size = w.heap.size + 1 := by simp
  clear hf hC hn hxc
  go_enter Tryd.func56, Tryd.ntmps56
  go_wp2_with fail
  go_loopw [5, 11] (fun o i wr => ∃ (k : Nat), i = .int .i64 k ∧ k ≤ S.length ∧ NmAt wr w.heap.size o (pick (S.take k) (fun s => decide (0 < c s))) ∧ Keeps (fun _ => False) w wr) (fun _ i _ => S.length - (intOf i).toNat)
  case atStart => exact ⟨0, rfl, Nat.zero_le _, World.ownsRow_nil _ w.heap.size 9 1, unhide HB⟩
  case round =>
    obtain ⟨k, rfl, hk, hown, hkeep⟩ := hrel
    obtain ⟨oo, oc, rfl⟩ := (rowAt_own hown).form
    have HO := hide hown
    have HK := hide hkeep
    cases h : S[k]? with
    | none =>
      have h1 := get_ge h
      obtain rfl : k = S.length := by omega
      have i1 : ¬ (S.length : Int) < (S.length : Int) := by omega
      clear h h1 hown hkeep hk
      go_wp2_with fail
      go_ret
      exact ⟨_, rfl, by have := unhide HO; rwa [List.take_length] at this, unhide HK⟩
    | some f =>
      have h1 := get_lt h
      have hfl := (unhide HN) f (List.mem_of_getElem? h)
      obtain ⟨b, off, c1, e, hbl, hc⟩ := (unhide HF).cells (by omega)
      simp at e
      obtain ⟨rfl, rfl⟩ := e
      have q0 := (hkeep.cell hbl id).trans (hc k f h).1
      have q1 := (hkeep.cell hbl id).trans (hc k f h).2.1
      have q2 := (hkeep.cell hbl id).trans (hc k f h).2.2
      have i1 : (k : Int) < (S.length : Int) := by omega
      have ix0 : (0 : Int) ≤ (k : Int) := by omega
      obtain ⟨HB2, hxb2, hxc2⟩ := boxedT wr #[str f.name, .int .i64 f.type, .bool f.opt] 45
      have y0 := hxc2 0 (str f.name) rfl
      have hlk := (((unhide HC).keep hkeep id).keep (unhide HB2) id).look (nm := f.name) (by omega)
      have HTK := hide (take_snoc _ _ _ h)
      have hm : (pick (S.take k) (fun s => decide (0 < c s))).length ≤ 8 := by have := pick_le (S.take k) (fun s => decide (0 < c s)); simp at this; omega
      have HPS := hide (pick_snoc (S.take k) f (fun s => decide (0 < c s)))
      by_cases hp : 0 < c f.name
      · have hpi : (0 : Int) < (c f.name : Int) := by omega
        have HP := hide hp
        have HNB := hide (heap_alloc_new (wr.alloc (.cells #[str f.name, .int .i64 f.type, .bool f.opt] 45)) (.cells #[str f.name] 9))
        have hs2 : (wr.alloc (.cells #[str f.name, .int .i64 f.type, .bool f.opt] 45)).heap.size = wr.heap.size + 1 := by simp
        rw [hs2] at HNB
        have HOX := hide (ownsRow_kept hown (((Keeps.refl (fun _ => False) wr).alloc (.cells #[str f.name, .int .i64 f.type, .bool f.opt] 45)).alloc (.cells #[str f.name] 9)) (fun _ _ => id))
        have hB0 := hkeep.size
        clear h hc hown hkeep hxc2 hp
        go_wp2_with (at_builtin; refine wpList_append_lies _ rfl _ _ _ rfl w.heap.size 9 i0 _ 1 16 Tryd.underlying39 hi hz0 hz1 hz2 rfl (by omega) (.slice oo _ oc) _ _ rfl (unhide HOX) ⟨wr.heap.size + 1, 0, none⟩ 1 1 [str f.name] rfl rfl (World.news_of_block (cs := #[str f.name]) (t := 9) (fr := (0, 0)) (unhide HNB)) (by simp [Value.oneCell']) (by omega) (by unfold maxLen; omega) (by omega) (by simp; omega) (wr.heap.size + 2) (by simp) ?_; intro g6 c6 w6 hown6 hgrow hat _; have HO6 := hide hown6; have HGR := hide hgrow; clear hown6 hgrow hat)
        go_roundw
        case rel =>
          refine ⟨k + 1, by go_num, by omega, ?_, (((unhide HK).alloc _).alloc _).grown (unhide HGR) (fun q e hq => by have := ((unhide HO).lt q e).1; omega)⟩
          rw [unhide HTK, unhide HPS, if_pos (by simpa using unhide HP)]
          unfold NmAt
          rw [nmC_snoc, List.length_append]
          exact unhide HO6
        case measure => simp [intOf]; omega
      · have hpi : ¬ (0 : Int) < (c f.name : Int) := by omega
        have HP := hide hp
        have HOX := hide (ownsRow_kept hown ((Keeps.refl (fun _ => False) wr).alloc (.cells #[str f.name, .int .i64 f.type, .bool f.opt] 45)) (fun _ _ => id))
        clear h hc hown hkeep hxc2 hp
        go_wp2_with fail
        go_roundw
        case rel =>
          refine ⟨k + 1, by go_num, by omega, ?_, (unhide HK).alloc _⟩
          rw [unhide HTK, unhide HPS, if_neg (by simpa using unhide HP), List.append_nil]
          exact unhide HOX
        case measure => simp [intOf]; omega
end Go.Proofs.YtjhppnecadnekaaDoor
namespace Go.Proofs.YtjhppnecadnekaaDoor
open Go.RowKit Go.Maps

theorem cnt_one (op n : Int) (s : Txt) (k r : EL) (x : Txt) : decide (0 < cntE (.cons op n s k r) x) = (decide ((op = 4 ∨ op = 5) ∧ s = x) || decide (0 < cntE k x) || decide (0 < cntE r x)) := by
  rw [Bool.eq_iff_iff]
  simp only [Bool.or_eq_true, decide_eq_true_eq]
  show 0 < (if (op = 4 ∨ op = 5) ∧ s = x then 1 else 0) + cntE k x + cntE r x ↔ _
  by_cases h : (op = 4 ∨ op = 5) ∧ s = x
  · rw [if_pos h]
    exact ⟨fun _ => Or.inl (Or.inl h), fun _ => by omega⟩
  · rw [if_neg h]
    refine ⟨fun h2 => ?_, fun h2 => ?_⟩
    · by_cases h3 : 0 < cntE k x
      · exact Or.inl (Or.inr h3)
      · exact Or.inr (by omega)
    · rcases h2 with (h2 | h2) | h2
      · exact absurd h2 h
      · omega
      · omega

theorem cnt_head (op n : Int) (s : Txt) (k r : EL) (x : Txt) : decide (0 < cntE (.cons op n s k r) x) = (decide (0 < cntE (.cons op n s k .nil) x) || decide (0 < cntE r x)) := by
  rw [cnt_one, cnt_one]
  have e0 : decide (0 < cntE EL.nil x) = false := by simp [cntE]
  rw [e0, Bool.or_false]

set_option maxRecDepth 100000 in
set_option maxHeartbeats 4000000 in
theorem names_v (Z : Zone) (x : Txt) (N : Nat) : ∀ (kids : EL), kids.size < N → kids.size ≤ 4294967294 → ∀ (op n : Int) (s : Txt) (w : World) (up : Nat) (v : Value), SlE Z w up v kids →
    Calls Tryd.prog 57 #[exV op n s v, str x] w fun e w' => e = .returned (.bool (decide (0 < cntE (.cons op n s kids .nil) x))) ∧ Keeps (fun _ => False) w w' := by
  induction N with
  | zero => intro l h; omega
  | succ N ih =>
    intro l hsz hlen' op n s w up v hS
    have hlen : l.len ≤ 4294967294 := by have := EL.len_le l; omega
    obtain ⟨ao, cap, b, off, rfl, hcap, ha, hx⟩ := hS.open
    obtain ⟨HB, hxb, hxc⟩ := boxedT w #[.int .i64 op, .int .i64 n, str s, .slice ao l.len cap] 78
    have c0 := hxc 0 (.int .i64 op) rfl
    have c2 := hxc 2 (str s) rfl
    have c3 := hxc 3 (.slice ao l.len cap) rfl
    have IH := hide ih
    have HX := hide hx
    have HA := hide ha
    clear hS ih hx ha hxc
    rw [cnt_one]
    by_cases hh : (op = 4 ∨ op = 5) ∧ s = x
    · rw [decide_eq_true hh, Bool.true_or, Bool.true_or]
      obtain ⟨ho, rfl⟩ := hh
      rcases ho with rfl | rfl
      all_goals
        go_enter Tryd.func57, Tryd.ntmps57
        go_wp2_with fail
        go_ret
        exact ⟨rfl, unhide HB⟩
    · rw [decide_eq_false hh, Bool.false_or]
      have e0 : decide (0 < cntE EL.nil x) = false := by simp [cntE]
      rw [e0, Bool.or_false]
      have HH := hide hh
      by_cases ho : op = 4 ∨ op = 5
      · have hs : (s == x) = false := by
          simp only [beq_eq_false_iff_ne, ne_eq]
          exact fun e => hh ⟨ho, e⟩
        clear hh
        rcases ho with rfl | rfl
        · go_enter Tryd.func57, Tryd.ntmps57
          go_wp2_with fail
          go_loopw [5] (fun i wr => ∃ (rest : EL) (k : Nat), i = .int .i64 k ∧ k + rest.len = l.len ∧ rest.size ≤ l.size ∧ Hid (decide (0 < cntE rest x) = decide (0 < cntE l x)) ∧ Keeps (fun _ => False) (w.alloc (.cells #[.int .i64 4, .int .i64 n, str s, .slice ao l.len cap] 78)) wr ∧ ExIn Z wr rest b (off + k * 4)) (fun i _ => l.len - (intOf i).toNat)
          case atStart => exact ⟨l, 0, rfl, by omega, Nat.le_refl _, rfl, Keeps.refl _ _, by simpa using (unhide HX).keepF (unhide HB)⟩
          case round =>
            obtain ⟨rest, k, rfl, hkl, hrs, HWE, hkeep, hr⟩ := hrel
            have q3 := (hkeep.cell (o := 3) hxb id).trans c3
            have HK := hide hkeep
            clear hkeep
            cases rest with
            | nil =>
              simp only [EL.len, EL.size] at hkl hrs
              clear hr
              have i1 : ¬ (k : Int) < (l.len : Int) := by omega
              go_wp2_with fail
              go_ret
              exact ⟨ret_bool (by rw [← unhide HWE]; simp [cntE]), (unhide HB).trans (unhide HK)⟩
            | cons op' n' s' kids rest =>
              obtain ⟨h1, h2, h3, h4, h5, ⟨kao, kcap, h6, h7, h8⟩, h9⟩ := hr
              simp only [EL.len, EL.size] at hkl hrs
              obtain ⟨rfl, hp⟩ := (unhide HA) (by omega)
              have HKID : Hid (SlE Z wr b (.slice kao kids.len kcap) kids) := ⟨kao, kcap, rfl, h7, h8⟩
              have HR := hide h9
              have i1 : (k : Int) < (l.len : Int) := by omega
              have i0 : (0 : Int) ≤ (k : Int) := by omega
              have HKD := hide (unhide IH kids (by omega) (by omega) op' n' s' wr b (.slice kao kids.len kcap) (unhide HKID))
              have HWE2 := hide ((cnt_head op' n' s' kids rest x).symm.trans (unhide HWE))
              generalize decide (0 < cntE (.cons op' n' s' kids .nil) x) = r at HKD HWE2
              clear h2 h8 h9 HWE
              cases r with
              | true =>
                go_wp2_with (go_at_call 57; refine (unhide HKD).mono ?_; rintro e w1 ⟨rfl, hk1⟩; have HK1 := hide hk1; clear hk1)
                go_ret
                exact ⟨ret_bool (by rw [← unhide HWE2]; rfl), ((unhide HB).trans (unhide HK)).trans (unhide HK1)⟩
              | false =>
                go_wp2_with (go_at_call 57; refine (unhide HKD).mono ?_; rintro e w1 ⟨rfl, hk1⟩; have HK1 := hide hk1; clear hk1)
                go_roundw
                case rel =>
                  refine ⟨rest, k + 1, by go_num, by omega, by omega, by rw [← unhide HWE2]; rfl, (unhide HK).trans (unhide HK1), ?_⟩
                  rw [show off + (k + 1) * 4 = off + k * 4 + 4 by omega]
                  exact (unhide HR).keepF (unhide HK1)
                case measure => simp [intOf]; omega
        · go_enter Tryd.func57, Tryd.ntmps57
          go_wp2_with fail
          go_loopw [5] (fun i wr => ∃ (rest : EL) (k : Nat), i = .int .i64 k ∧ k + rest.len = l.len ∧ rest.size ≤ l.size ∧ Hid (decide (0 < cntE rest x) = decide (0 < cntE l x)) ∧ Keeps (fun _ => False) (w.alloc (.cells #[.int .i64 5, .int .i64 n, str s, .slice ao l.len cap] 78)) wr ∧ ExIn Z wr rest b (off + k * 4)) (fun i _ => l.len - (intOf i).toNat)
          case atStart => exact ⟨l, 0, rfl, by omega, Nat.le_refl _, rfl, Keeps.refl _ _, by simpa using (unhide HX).keepF (unhide HB)⟩
          case round =>
            obtain ⟨rest, k, rfl, hkl, hrs, HWE, hkeep, hr⟩ := hrel
            have q3 := (hkeep.cell (o := 3) hxb id).trans c3
            have HK := hide hkeep
            clear hkeep
            cases rest with
            | nil =>
              simp only [EL.len, EL.size] at hkl hrs
              clear hr
              have i1 : ¬ (k : Int) < (l.len : Int) := by omega
              go_wp2_with fail
              go_ret
              exact ⟨ret_bool (by rw [← unhide HWE]; simp [cntE]), (unhide HB).trans (unhide HK)⟩
            | cons op' n' s' kids rest =>
              obtain ⟨h1, h2, h3, h4, h5, ⟨kao, kcap, h6, h7, h8⟩, h9⟩ := hr
              simp only [EL.len, EL.size] at hkl hrs
              obtain ⟨rfl, hp⟩ := (unhide HA) (by omega)
              have HKID : Hid (SlE Z wr b (.slice kao kids.len kcap) kids) := ⟨kao, kcap, rfl, h7, h8⟩
              have HR := hide h9
              have i1 : (k : Int) < (l.len : Int) := by omega
              have i0 : (0 : Int) ≤ (k : Int) := by omega
              have HKD := hide (unhide IH kids (by omega) (by omega) op' n' s' wr b (.slice kao kids.len kcap) (unhide HKID))
              have HWE2 := hide ((cnt_head op' n' s' kids rest x).symm.trans (unhide HWE))
              generalize decide (0 < cntE (.cons op' n' s' kids .nil) x) = r at HKD HWE2
              clear h2 h8 h9 HWE
              cases r with
              | true =>
                go_wp2_with (go_at_call 57; refine (unhide HKD).mono ?_; rintro e w1 ⟨rfl, hk1⟩; have HK1 := hide hk1; clear hk1)
                go_ret
                exact ⟨ret_bool (by rw [← unhide HWE2]; rfl), ((unhide HB).trans (unhide HK)).trans (unhide HK1)⟩
              | false =>
                go_wp2_with (go_at_call 57; refine (unhide HKD).mono ?_; rintro e w1 ⟨rfl, hk1⟩; have HK1 := hide hk1; clear hk1)
                go_roundw
                case rel =>
                  refine ⟨rest, k + 1, by go_num, by omega, by omega, by rw [← unhide HWE2]; rfl, (unhide HK).trans (unhide HK1), ?_⟩
                  rw [show off + (k + 1) * 4 = off + k * 4 + 4 by omega]
                  exact (unhide HR).keepF (unhide HK1)
                case measure => simp [intOf]; omega
      · have o4 : (op == 4) = false := by simp; omega
        have o5 : (op == 5) = false := by simp; omega
        clear hh
        go_enter Tryd.func57, Tryd.ntmps57
        go_wp2_with fail
        go_loopw [5] (fun i wr => ∃ (rest : EL) (k : Nat), i = .int .i64 k ∧ k + rest.len = l.len ∧ rest.size ≤ l.size ∧ Hid (decide (0 < cntE rest x) = decide (0 < cntE l x)) ∧ Keeps (fun _ => False) (w.alloc (.cells #[.int .i64 op, .int .i64 n, str s, .slice ao l.len cap] 78)) wr ∧ ExIn Z wr rest b (off + k * 4)) (fun i _ => l.len - (intOf i).toNat)
        case atStart => exact ⟨l, 0, rfl, by omega, Nat.le_refl _, rfl, Keeps.refl _ _, by simpa using (unhide HX).keepF (unhide HB)⟩
        case round =>
          obtain ⟨rest, k, rfl, hkl, hrs, HWE, hkeep, hr⟩ := hrel
          have q3 := (hkeep.cell (o := 3) hxb id).trans c3
          have HK := hide hkeep
          clear hkeep
          cases rest with
          | nil =>
            simp only [EL.len, EL.size] at hkl hrs
            clear hr
            have i1 : ¬ (k : Int) < (l.len : Int) := by omega
            go_wp2_with fail
            go_ret
            exact ⟨ret_bool (by rw [← unhide HWE]; simp [cntE]), (unhide HB).trans (unhide HK)⟩
          | cons op' n' s' kids rest =>
            obtain ⟨h1, h2, h3, h4, h5, ⟨kao, kcap, h6, h7, h8⟩, h9⟩ := hr
            simp only [EL.len, EL.size] at hkl hrs
            obtain ⟨rfl, hp⟩ := (unhide HA) (by omega)
            have HKID : Hid (SlE Z wr b (.slice kao kids.len kcap) kids) := ⟨kao, kcap, rfl, h7, h8⟩
            have HR := hide h9
            have i1 : (k : Int) < (l.len : Int) := by omega
            have i0 : (0 : Int) ≤ (k : Int) := by omega
            have HKD := hide (unhide IH kids (by omega) (by omega) op' n' s' wr b (.slice kao kids.len kcap) (unhide HKID))
            have HWE2 := hide ((cnt_head op' n' s' kids rest x).symm.trans (unhide HWE))
            generalize decide (0 < cntE (.cons op' n' s' kids .nil) x) = r at HKD HWE2
            clear h2 h8 h9 HWE
            cases r with
            | true =>
              go_wp2_with (go_at_call 57; refine (unhide HKD).mono ?_; rintro e w1 ⟨rfl, hk1⟩; have HK1 := hide hk1; clear hk1)
              go_ret
              exact ⟨ret_bool (by rw [← unhide HWE2]; rfl), ((unhide HB).trans (unhide HK)).trans (unhide HK1)⟩
            | false =>
              go_wp2_with (go_at_call 57; refine (unhide HKD).mono ?_; rintro e w1 ⟨rfl, hk1⟩; have HK1 := hide hk1; clear hk1)
              go_roundw
              case rel =>
                refine ⟨rest, k + 1, by go_num, by omega, by omega, by rw [← unhide HWE2]; rfl, (unhide HK).trans (unhide HK1), ?_⟩
                rw [show off + (k + 1) * 4 = off + k * 4 + 4 by omega]
                exact (unhide HR).keepF (unhide HK1)
              case measure => simp [intOf]; omega
end Go.Proofs.YtjhppnecadnekaaDoor
namespace Go.Proofs.YtjhppnecadnekaaDoor
open Go.RowKit Go.Maps

/-- How often a program's statements, laid flat, read a field; how often they write it. -/
def rdF : SL → Txt → Nat
  | .nil, _ => 0
  | .cons op f x _ _ r, s => cntE x s + (if (op = 2 ∨ op = 3 ∨ op = 4) ∧ f = s then 1 else 0) + rdF r s
def wrF : SL → Txt → Nat
  | .nil, _ => 0
  | .cons op f _ _ _ r, s => (if (op = 1 ∨ op = 2 ∨ op = 3 ∨ op = 4 ∨ op = 5) ∧ f = s then 1 else 0) + wrF r s
/-- What Fields answers. -/
def fieldsP (S : List FieldA) (l : SL) : List Txt × List Txt × Int :=
  if (checkP S l).1 ≠ 0 then ([], [], (checkP S l).1) else (pick S (fun s => decide (0 < rdF (flatS l) s)), pick S (fun s => decide (0 < wrF (flatS l) s)), 0)
def weight : SL → Nat
  | .nil => 0
  | .cons _ _ x _ _ r => x.size + 2 + weight r
theorem weight_app : ∀ l m : SL, weight (l.app m) = weight l + weight m
  | .nil, m => by simp [SL.app, weight]
  | .cons _ _ x _ _ r, m => by simp only [SL.app, weight, weight_app r m]; omega
theorem weight_flat : ∀ l : SL, weight (flatS l) ≤ 2 * l.size
  | .nil => by simp [flatS, weight]
  | .cons _ _ x t e r => by
    have h1 := weight_flat t
    have h2 := weight_flat e
    have h3 := weight_flat r
    simp only [flatS, weight, weight_app, SL.size]
    omega
/-- Where the numbered statements lie. -/
theorem nums_open {base n c : Nat} {w' : World} {ao : Option Addr} {xs : List Value} (ho : w'.ownsRow base 64 5 (.slice ao n c) n xs) :
    ∃ g go, base ≤ g ∧ (n ≠ 0 → ao = some ⟨g, go, none⟩) ∧ ∀ j x, xs[j]? = some x → g < w'.heap.size ∧ w'.cell? ⟨g, go + j, none⟩ = some x := by
  rcases Nat.eq_zero_or_pos n with h0 | h0
  · refine ⟨base, 0, Nat.le_refl _, fun h => absurd h0 h, fun i x hx => ?_⟩
    have hl := ho.1
    rw [h0, Nat.zero_mul] at hl
    rw [List.eq_nil_of_length_eq_zero hl] at hx
    simp at hx
  · obtain ⟨g, go, cap, e, hg, hc⟩ := (rowAt_own ho).cells h0
    simp at e
    obtain ⟨rfl, rfl⟩ := e
    exact ⟨g, go, (ho.lt g rfl).1, fun _ => rfl, fun j x hx => ⟨hg, hc j x hx⟩⟩
theorem cnt_two {w1 w4 : World} (hk : Keeps (fun _ => False) ((w1.alloc (.map #[] 0)).alloc (.map #[] 0)) w4) : Cnt w4 w1.heap.size 0 (fun _ => 0) ∧ Cnt w4 (w1.heap.size + 1) 0 (fun _ => 0) := by
  have h := Cnt.made (w1.alloc (.map #[] 0))
  have e : (w1.alloc (.map #[] 0)).heap.size = w1.heap.size + 1 := by simp
  rw [e] at h
  exact ⟨((Cnt.made w1).keep ((Keeps.refl (fun _ => False) _).alloc _) id).keep hk id, h.keep hk id⟩
/-- What is left of the numbered statements. -/
def NIn (B : Nat) (w4 : World) (F : Nat → Prop) (g o : Nat) (rest : SL) (yr : List Value) (wr : World) : Prop :=
  SsIn (argZ B) wr rest yr ∧ (∀ j x, yr[j]? = some x → g < wr.heap.size ∧ wr.cell? ⟨g, o + j, none⟩ = some x) ∧ Keeps F w4 wr
theorem NIn.step {B g o : Nat} {w4 wr wa w' : World} {F : Nat → Prop} {op : Int} {f : Txt} {x : EL} {t e r : SL} {a1 a2 a3 a4 a5 : Value} {ys : List Value} (h : NIn B w4 F g o (.cons op f x t e r) (a1 :: a2 :: a3 :: a4 :: a5 :: ys) wr) (ha : Keeps (fun _ => False) wr wa) (hk : Keeps F wa w') (hF : ∀ q, F q → B ≤ q) (hg : ¬ F g) : NIn B w4 F g (o + 5) r ys w' := by
  obtain ⟨h1, h2, h3⟩ := h
  have hk2 : Keeps F wr w' := (ha.mono (fun _ _ h => h.elim)).trans hk
  obtain ⟨xv, tv, ev, xs', e', _, _, _, hs⟩ := h1
  simp only [List.cons.injEq] at e'
  obtain ⟨_, _, _, _, _, rfl⟩ := e'
  refine ⟨hs.argKeep hk2 hF, fun j x hx => ?_, h3.trans hk2⟩
  obtain ⟨hl, hc⟩ := h2 (j + 5) x (by simpa using hx)
  rw [show o + 5 + j = o + (j + 5) by omega]
  exact ⟨Nat.lt_of_lt_of_le hl hk2.size, (hk2.cell hl hg).trans hc⟩
theorem headS_name {op : Int} {f : Txt} {a b c : Nat} (h : headS op f a b c = true) (ho : op = 1 ∨ op = 2 ∨ op = 3 ∨ op = 4 ∨ op = 5) : f.length ≤ 1000 := by
  unfold headS at h
  split at h
  · simp only [Bool.and_eq_true] at h
    have := name_short h.1
    omega
  · rw [if_pos (by omega)] at h
    simp only [Bool.and_eq_true] at h
    have := name_short h.1
    omega
theorem checkP_zero {S : List FieldA} {l : SL} (h : (checkP S l).1 = 0) : schemaB S = true ∧ checkS l = 0 := by
  unfold checkP at h
  cases hs : schemaB S with
  | false => rw [errS_bad hs, if_pos (by decide)] at h; simp at h
  | true =>
    rw [errS_good hs, if_neg (by simp)] at h
    by_cases hc : checkS l = 0
    · exact ⟨rfl, hc⟩
    · rw [if_pos hc] at h
      exact absurd h hc

set_option maxRecDepth 100000 in
set_option maxHeartbeats 4000000 in
theorem tfields_bad (Z : Zone) (S : List FieldA) (l : SL) (hsz : l.size ≤ 4294967294) (sv pv : Value) (w : World) (up : Nat) (hT : Types w) (hF : Forms w) (hf : FldsAt w sv S) (hp : SlS Z w up pv l) (hE : (checkP S l).1 ≠ 0) :
    Calls Tryd.prog 36 #[.agg #[sv], pv] w fun e w' => e = .returned (.tuple #[.slice none 0 0, .slice none 0 0, .int .i64 (checkP S l).1]) ∧ Keeps (fun _ => False) w w' := by
  obtain ⟨ao, cap, rfl, hc⟩ := hp.head
  obtain ⟨so, sc, rfl⟩ := RowAt.form hf
  obtain ⟨HB, hxb, hxc⟩ := boxedT w #[.slice so S.length sc] 24
  have c0 := hxc 0 (.slice so S.length sc) rfl
  have HCK := fun w' (hk : Keeps (fun _ => False) w w') => hide (tcheck_v Z S l hsz (.slice so S.length sc) (.slice ao l.len cap) w' up (hT.keepF hk) (hF.keepF hk) (hf.keepF hk) (hp.keepF hk))
  obtain ⟨⟨E, at'⟩, hpv⟩ : ∃ p, p = checkP S l := ⟨_, rfl⟩
  rw [← hpv] at hE HCK ⊢
  have hE' : (E != 0) = true := by simpa using hE
  clear hT hF hf hp hxc hpv hE
  go_enter Tryd.func36, Tryd.ntmps36
  go_wp2_with (go_at_call 24; refine (unhide (HCK _ (unhide HB))).mono ?_; rintro e w1 ⟨rfl, hk1⟩; have HKa := hide ((unhide HB).trans hk1); clear hk1)
  refine bodyPost_ret (v := .tuple #[.slice none 0 0, .slice none 0 0, .int .i64 E]) (by simp [results, go_sem]) rfl ?_
  exact ⟨rfl, unhide HKa⟩

set_option maxRecDepth 100000 in
set_option maxHeartbeats 4000000 in
theorem tfields_fit (Z : Zone) (S : List FieldA) (l : SL) (hsz : l.size ≤ 4294967294) (sv pv : Value) (w : World) (up : Nat) (hT : Types w) (hF : Forms w) (hf : FldsAt w sv S) (hp : SlS Z w up pv l) (hE : (checkP S l).1 = 0) :
    Calls Tryd.prog 36 #[.agg #[sv], pv] w fun e w' => ∃ rv wv, e = .returned (.tuple #[rv, wv, .int .i64 0]) ∧ NmAt w' w.heap.size rv (pick S (fun s => decide (0 < rdF (flatS l) s))) ∧ NmAt w' w.heap.size wv (pick S (fun s => decide (0 < wrF (flatS l) s))) ∧ Keeps (fun _ => False) w w' := by
  obtain ⟨hS, hC⟩ := checkP_zero hE
  have hwl := checkS_well hC
  have hnl : (flatS l).len ≤ 4294967294 := by rw [flatS_len]; exact Nat.le_trans (countS_le l) hsz
  obtain ⟨ao, cap, rfl, hc⟩ := hp.head
  obtain ⟨so, sc, rfl⟩ := RowAt.form hf
  obtain ⟨HB, hxb, hxc⟩ := boxedT w #[.slice so S.length sc] 24
  have c0 := hxc 0 (.slice so S.length sc) rfl
  have SB : ∀ w', Keeps (fun _ => False) (w.alloc (.cells #[.slice so S.length sc] 24)) w' → w'.cell? ⟨w.heap.size, 0, none⟩ = some (.slice so S.length sc) := fun w' hk => (hk.cell hxb id).trans c0
  have HSB := hide SB
  have HCK := fun w' (hk : Keeps (fun _ => False) w w') => hide (tcheck_v Z S l hsz (.slice so S.length sc) (.slice ao l.len cap) w' up (hT.keepF hk) (hF.keepF hk) (hf.keepF hk) (hp.keepF hk))
  have HNU := fun w' (hk : Keeps (fun _ => False) w w') => hide (numbered_v w.heap.size (l.size + 1) l (by omega) hsz w' 0 (.slice ao l.len cap) hk.size ((hp.arg (Nat.le_refl _) 0).keepF hk))
  obtain ⟨⟨E, at'⟩, hpv⟩ : ∃ p, p = checkP S l := ⟨_, rfl⟩
  rw [← hpv] at hE HCK
  subst hE
  have hmm := @run_makeMap Tryd.prog
  have HF := hide hf
  have HW := hide (flat_well (N := 4294967294) l hsz hwl)
  clear hT hF hf hp hxc hpv SB hC hwl
  go_enter Tryd.func36, Tryd.ntmps36
  go_wp2_with (first
    | (go_at_call 24; refine (unhide (HCK _ (unhide HB))).mono ?_; rintro e w1 ⟨rfl, hk1⟩; have HKa := hide ((unhide HB).trans hk1); have HKb := hide hk1; clear hk1)
    | (go_at_call 43; refine (unhide (HNU _ (((unhide HKa).alloc _).alloc _))).mono ?_; rintro e w4 ⟨fo, fc, n, xs, rfl, hn, hown, hss, hk4⟩; obtain ⟨g, goff, hgb, hg, hcl⟩ := nums_open hown; have HNL := hide hn; have HG := hide hg; have HCL := hide hcl; have HGB := hide hgb; have HSS := hide hss; have HC1 := hide (cnt_two hk4).1; have HC2 := hide (cnt_two hk4).2; have HK4 := hide ((((unhide HKa).alloc _).alloc _).trans hk4); have HK4b := hide ((((unhide HKb).alloc _).alloc _).trans hk4); clear hn hg hcl hown hss hk4 hgb))
  have hn2 : n ≤ 4294967294 := by rw [unhide HNL]; exact hnl
  have hw1 : w.heap.size ≤ w1.heap.size := (unhide HKa).size
  have hgm : w1.heap.size + 2 ≤ g := by have := unhide HGB; simpa using this
  have hwt : weight (flatS l) ≤ 8589934588 := by have := weight_flat l; omega
  clear hnl HCK HNU c0 HGB
  go_loopw [27] (fun i wr => ∃ (rest : SL) (yr : List Value) (k n1 n2 : Nat) (d1 d2 : Txt → Nat), i = .int .i64 k ∧ k + rest.len = n ∧ wellF 4294967294 rest ∧ Hid (∀ s, d1 s + rdF rest s = rdF (flatS l) s) ∧ Hid (∀ s, d2 s + wrF rest s = wrF (flatS l) s) ∧ n1 + weight rest ≤ 8589934588 ∧ n2 + weight rest ≤ 8589934588 ∧ Cnt wr w1.heap.size n1 d1 ∧ Cnt wr (w1.heap.size + 1) n2 d2 ∧ NIn w.heap.size w4 (fun q => q = w1.heap.size ∨ q = w1.heap.size + 1) g (goff + k * 5) rest yr wr) (fun i _ => n - (intOf i).toNat)
  case atStart => exact ⟨flatS l, xs, 0, 0, 0, fun _ => 0, fun _ => 0, rfl, by rw [Nat.zero_add]; exact (unhide HNL).symm, unhide HW, fun s => Nat.zero_add _, fun s => Nat.zero_add _, by omega, by omega, unhide HC1, unhide HC2, unhide HSS, by simpa using unhide HCL, Keeps.refl _ _⟩
  case round =>
    obtain ⟨rest, yr, k, n1, n2, d1, d2, rfl, hkl, hwf, HR1, HR2, hw1', hw2', hd1, hd2, hin⟩ := hrel
    have HIN := hide hin
    have HD1 := hide hd1
    have HD2' := hide hd2
    cases rest with
    | nil =>
      simp only [SL.len, Nat.add_zero] at hkl
      have i1 : ¬ (k : Int) < (n : Int) := by omega
      have hkw := hin.2.2
      have hs1 : w.heap.size + 1 ≤ w1.heap.size := by have := (unhide HKb).size; simpa using this
      have hs4 := (unhide HK4b).size
      have cr := (hkw.cell (o := 0) (Nat.lt_of_lt_of_le hxb hs4) (show ¬ (w.heap.size = w1.heap.size ∨ w.heap.size = w1.heap.size + 1) by omega)).trans (unhide HSB _ (unhide HK4b))
      have hkr : Keeps (fun _ => False) w wr := (unhide HK4).narrow hkw (fun q e => by omega)
      have HKR := hide hkr
      have hwl := hkr.size
      have hSB := hS
      unfold schemaB at hSB
      simp only [Bool.and_eq_true, decide_eq_true_eq] at hSB
      have hl8 := hSB.1.1.1.2
      have hnm : ∀ f ∈ S, f.name.length ≤ 8 := by
        intro f hf
        have h := List.all_eq_true.1 hSB.1.1.2 f hf
        unfold fieldOK at h
        simp only [Bool.and_eq_true] at h
        exact name_short h.1
      have HN1 := fun (w' : World) (hk : Keeps (fun _ => False) wr w') => hide (namesOf_v S hl8 hnm w1.heap.size n1 d1 (.slice so S.length sc) w' (((unhide HF).keepF hkr).keepF hk) (hd1.keep hk id))
      have HN2 := fun (w' : World) (hk : Keeps (fun _ => False) wr w') => hide (namesOf_v S hl8 hnm (w1.heap.size + 1) n2 d2 (.slice so S.length sc) w' (((unhide HF).keepF hkr).keepF hk) (hd2.keep hk id))
      have e1 : d1 = rdF (flatS l) := funext (fun s => by have := unhide HR1 s; simpa [rdF] using this)
      have e2 : d2 = wrF (flatS l) := funext (fun s => by have := unhide HR2 s; simpa [wrF] using this)
      rw [e1] at HN1
      rw [e2] at HN2
      have hxw : w.heap.size < wr.heap.size := by have := hkw.size; omega
      have CR : ∀ w', Keeps (fun _ => False) wr w' → w'.cell? ⟨w.heap.size, 0, none⟩ = some (.slice so S.length sc) := fun w' hk => (hk.cell hxw id).trans cr
      have HCR := hide CR
      have HWL := hide hwl
      have mk1 : True := trivial
      have kr0 : Hid (Keeps (fun _ => False) wr wr) := Keeps.refl _ _
      clear hd1 hd2 hin hkw hkr hSB hnm e1 e2 hwf hw1' hw2' HR1 HR2 HIN HD1 HD2' hs1 hs4 CR hl8 hwl hkl
      go_wp2_with fail
      go_region_held3 (fun w' => w'.cell? ⟨w.heap.size, 0, none⟩ = some (.slice so S.length sc)) (first | with_reducible exact unhide HCR _ (unhide kr0) | with_reducible exact unhide HCR _ (unhide kr0).drew)
        ((first
          | (clear mk1; go_at_call 56; refine (unhide (HN1 _ (by first | with_reducible exact unhide kr0 | with_reducible exact (unhide kr0).drew))).mono ?_; rintro e wA ⟨v1, rfl, hv1, hkA⟩; have HV1 := hide hv1; have HKA := hide hkA; have kr1 : Keeps (fun _ => False) wr wA := (by first | with_reducible exact (unhide kr0).trans hkA | with_reducible exact (unhide kr0).drew.trans hkA); have kr0 := hide kr1; clear kr1 hv1 hkA; have mk2 : True := trivial)
          | (clear mk2; go_at_call 56; refine (unhide (HN2 _ (by first | with_reducible exact unhide kr0 | with_reducible exact (unhide kr0).drew))).mono ?_; rintro e wB ⟨v2, rfl, hv2, hkB⟩; have HV2 := hide hv2; have HKB := hide hkB; have kr1 : Keeps (fun _ => False) wr wB := (by first | with_reducible exact (unhide kr0).trans hkB | with_reducible exact (unhide kr0).drew.trans hkB); have kr0 := hide kr1; clear kr1 hv2 hkB)))
      all_goals go_wp2_with fail
      all_goals
        refine bodyPost_ret (v := .tuple #[v1, v2, .int .i64 0]) (by simp [results, go_sem]) rfl ?_
        exact ⟨v1, v2, rfl, ownsRow_lower (ownsRow_kept (unhide HV1) (by first | exact unhide HKB | exact (Keeps.refl _ _).drew.trans (unhide HKB)) (fun _ _ => id)) (unhide HWL), ownsRow_lower (unhide HV2) (Nat.le_trans (unhide HWL) (unhide HKA).size), (unhide HKR).trans (unhide kr0)⟩
    | cons op f x t el rest =>
      obtain ⟨xv, tv, ev, xs2, rfl, hsx, hst', hse, hsr⟩ := hin.1
      obtain ⟨xao, xcap, rfl, hxl⟩ := hsx.head
      obtain ⟨tao, tcap, rfl, htl⟩ := hst'.head
      obtain ⟨eao, ecap, rfl, hel⟩ := hse.head
      obtain ⟨hh, hwx, hxz, hwr⟩ := hwf
      simp only [SL.len] at hkl
      simp only [weight] at hw1' hw2'
      obtain rfl := (unhide HG) (by omega)
      have z0 := (hin.2.1 0 _ rfl).2
      have z1 := (hin.2.1 1 _ rfl).2
      have z2 := (hin.2.1 2 _ rfl).2
      have z3 := (hin.2.1 3 _ rfl).2
      have z4 := (hin.2.1 4 _ rfl).2
      rw [Nat.add_zero] at z0
      have i1 : (k : Int) < (n : Int) := by omega
      have ix0 : (0 : Int) ≤ (k : Int) := by omega
      obtain ⟨HB2, hxb2, hxc2⟩ := boxedT wr #[.int .i64 op, str f, .slice xao x.len xcap, .slice tao t.len tcap, .slice eao el.len ecap] 64
      have y0 := hxc2 0 (.int .i64 op) rfl
      have y1 := hxc2 1 (str f) rfl
      have y2 := hxc2 2 (.slice xao x.len xcap) rfl
      have hlt2 := hd2.lt
      have hbm1 : ¬ wr.heap.size = w1.heap.size := by omega
      have hm12 : ¬ w1.heap.size + 1 = w1.heap.size := by omega
      have hm21 : ¬ w1.heap.size = w1.heap.size + 1 := by omega
      have HWR := hide hwr
      have HD2 := hide (hd2.keep (unhide HB2) id)
      have HCALL := hide (countNames_v w.heap.size w1.heap.size (by omega) (x.size + 1) x (by omega) hxz hwx _ 0 (.slice xao x.len xcap) n1 d1 (hsx.keepF (unhide HB2)) (hd1.keep (unhide HB2) id) (by omega))
      have HKT := hide (fun (w' : World) (hk : Keeps (fun q => q = w1.heap.size ∨ q = w1.heap.size + 1) (wr.alloc (.cells #[.int .i64 op, str f, .slice xao x.len xcap, .slice tao t.len tcap, .slice eao el.len ecap] 64)) w') => hin.step (unhide HB2) hk (fun q e => by omega) (by omega))
      have HHS := hide hh
      clear hd1 hd2 hin hsx hst' hse hsr hh hwx hwr hxc2
      by_cases ho : op = 1 ∨ op = 5
      · have hfl : f.length ≤ 1000 := headS_name (unhide HHS) (by omega)
        rcases ho with rfl | rfl
        · go_wp2_with (go_at_call 55; refine (unhide HCALL).mono ?_; rintro e w5 ⟨rfl, n5, hn5, hc5', hk5⟩; obtain ⟨d5, HD5, hc5⟩ : ∃ d5 : Txt → Nat, Hid (∀ s, d5 s = d1 s + cntE x s) ∧ Cnt w5 w1.heap.size n5 d5 := ⟨_, fun _ => rfl, hc5'⟩; have v0 := (hk5.cell (o := 0) hxb2 hbm1).trans y0; have v1 := (hk5.cell (o := 1) hxb2 hbm1).trans y1; have hc52 := (unhide HD2).keep hk5 hm12; have hlk := hc52.look hfl; have hle := hc52.le f; obtain ⟨w6, hst, hc6, hk6⟩ := hc52.store hfl (by omega); have HC6 := hide hc6; have HK6 := hide hk6; clear hc6 hk6; have HC5 := hide hc5; have HC52 := hide hc52; have HK5 := hide hk5; clear hc5' hc5 hc52 hk5)
          go_roundw
          case rel =>
            refine ⟨rest, xs2, k + 1, n5, n2 + 1, d5, _, by go_num, by omega, unhide HWR, fun s => ?_, fun s => ?_, by omega, by omega, (unhide HC5).keep (unhide HK6) hm21, unhide HC6, ?_⟩
            · have h := unhide HR1 s
              have h5 := unhide HD5 s
              simp only [rdF] at h
              rw [if_neg (fun e => by omega)] at h
              omega
            · have h := unhide HR2 s
              simp only [wrF] at h
              unfold bump
              by_cases e : s = f
              · subst e
                simp at h ⊢
                omega
              · rw [if_neg (fun h => e h.2.symm)] at h
                rw [if_neg e]
                omega
            · rw [show goff + (k + 1) * 5 = goff + k * 5 + 5 by omega]
              exact unhide HKT _ (((unhide HK5).mono (fun q _ e => Or.inl e)).trans ((unhide HK6).mono (fun q _ e => Or.inr e)))
          case measure => simp [intOf]; omega
        · go_wp2_with (go_at_call 55; refine (unhide HCALL).mono ?_; rintro e w5 ⟨rfl, n5, hn5, hc5', hk5⟩; obtain ⟨d5, HD5, hc5⟩ : ∃ d5 : Txt → Nat, Hid (∀ s, d5 s = d1 s + cntE x s) ∧ Cnt w5 w1.heap.size n5 d5 := ⟨_, fun _ => rfl, hc5'⟩; have v0 := (hk5.cell (o := 0) hxb2 hbm1).trans y0; have v1 := (hk5.cell (o := 1) hxb2 hbm1).trans y1; have hc52 := (unhide HD2).keep hk5 hm12; have hlk := hc52.look hfl; have hle := hc52.le f; obtain ⟨w6, hst, hc6, hk6⟩ := hc52.store hfl (by omega); have HC6 := hide hc6; have HK6 := hide hk6; clear hc6 hk6; have HC5 := hide hc5; have HC52 := hide hc52; have HK5 := hide hk5; clear hc5' hc5 hc52 hk5)
          go_roundw
          case rel =>
            refine ⟨rest, xs2, k + 1, n5, n2 + 1, d5, _, by go_num, by omega, unhide HWR, fun s => ?_, fun s => ?_, by omega, by omega, (unhide HC5).keep (unhide HK6) hm21, unhide HC6, ?_⟩
            · have h := unhide HR1 s
              have h5 := unhide HD5 s
              simp only [rdF] at h
              rw [if_neg (fun e => by omega)] at h
              omega
            · have h := unhide HR2 s
              simp only [wrF] at h
              unfold bump
              by_cases e : s = f
              · subst e
                simp at h ⊢
                omega
              · rw [if_neg (fun h => e h.2.symm)] at h
                rw [if_neg e]
                omega
            · rw [show goff + (k + 1) * 5 = goff + k * 5 + 5 by omega]
              exact unhide HKT _ (((unhide HK5).mono (fun q _ e => Or.inl e)).trans ((unhide HK6).mono (fun q _ e => Or.inr e)))
          case measure => simp [intOf]; omega
      · by_cases hq : op = 2 ∨ op = 3 ∨ op = 4
        · have hfl : f.length ≤ 1000 := headS_name (unhide HHS) (by omega)
          clear ho
          rcases hq with rfl | rfl | rfl
          · go_wp2_with (go_at_call 55; refine (unhide HCALL).mono ?_; rintro e w5 ⟨rfl, n5, hn5, hc5', hk5⟩; obtain ⟨d5, HD5, hc5⟩ : ∃ d5 : Txt → Nat, Hid (∀ s, d5 s = d1 s + cntE x s) ∧ Cnt w5 w1.heap.size n5 d5 := ⟨_, fun _ => rfl, hc5'⟩; have v0 := (hk5.cell (o := 0) hxb2 hbm1).trans y0; have v1 := (hk5.cell (o := 1) hxb2 hbm1).trans y1; have hc52 := (unhide HD2).keep hk5 hm12; have hlk := hc5.look hfl; have hle := hc5.le f; obtain ⟨w6, hst, hc6, hk6⟩ := hc5.store hfl (by omega); have u1 := (hk6.cell (o := 1) (Nat.lt_of_lt_of_le hxb2 hk5.size) hbm1).trans v1; have hc62 := hc52.keep hk6 hm12; have hlk2 := hc62.look hfl; have hle2 := hc62.le f; obtain ⟨w7, hst2, hc7, hk7⟩ := hc62.store hfl (by omega); have HC6 := hide (hc6.keep hk7 hm21); have HC7 := hide hc7; have HK6 := hide hk6; have HK7 := hide hk7; clear hc6 hk6 hc7 hk7 hc62; have HC5 := hide hc5; have HC52 := hide hc52; have HK5 := hide hk5; clear hc5' hc5 hc52 hk5)
            go_roundw
            case rel =>
              refine ⟨rest, xs2, k + 1, n5 + 1, n2 + 1, _, _, by go_num, by omega, unhide HWR, fun s => ?_, fun s => ?_, by omega, by omega, unhide HC6, unhide HC7, ?_⟩
              · have h := unhide HR1 s
                have h5 := unhide HD5 s
                simp only [rdF] at h
                unfold bump
                by_cases e : s = f
                · subst e
                  simp at h ⊢
                  omega
                · rw [if_neg (fun h => e h.2.symm)] at h
                  rw [if_neg e]
                  omega
              · have h := unhide HR2 s
                simp only [wrF] at h
                unfold bump
                by_cases e : s = f
                · subst e
                  simp at h ⊢
                  omega
                · rw [if_neg (fun h => e h.2.symm)] at h
                  rw [if_neg e]
                  omega
              · rw [show goff + (k + 1) * 5 = goff + k * 5 + 5 by omega]
                exact unhide HKT _ ((((unhide HK5).mono (fun q _ e => Or.inl e)).trans ((unhide HK6).mono (fun q _ e => Or.inl e))).trans ((unhide HK7).mono (fun q _ e => Or.inr e)))
            case measure => simp [intOf]; omega
          · go_wp2_with (go_at_call 55; refine (unhide HCALL).mono ?_; rintro e w5 ⟨rfl, n5, hn5, hc5', hk5⟩; obtain ⟨d5, HD5, hc5⟩ : ∃ d5 : Txt → Nat, Hid (∀ s, d5 s = d1 s + cntE x s) ∧ Cnt w5 w1.heap.size n5 d5 := ⟨_, fun _ => rfl, hc5'⟩; have v0 := (hk5.cell (o := 0) hxb2 hbm1).trans y0; have v1 := (hk5.cell (o := 1) hxb2 hbm1).trans y1; have hc52 := (unhide HD2).keep hk5 hm12; have hlk := hc5.look hfl; have hle := hc5.le f; obtain ⟨w6, hst, hc6, hk6⟩ := hc5.store hfl (by omega); have u1 := (hk6.cell (o := 1) (Nat.lt_of_lt_of_le hxb2 hk5.size) hbm1).trans v1; have hc62 := hc52.keep hk6 hm12; have hlk2 := hc62.look hfl; have hle2 := hc62.le f; obtain ⟨w7, hst2, hc7, hk7⟩ := hc62.store hfl (by omega); have HC6 := hide (hc6.keep hk7 hm21); have HC7 := hide hc7; have HK6 := hide hk6; have HK7 := hide hk7; clear hc6 hk6 hc7 hk7 hc62; have HC5 := hide hc5; have HC52 := hide hc52; have HK5 := hide hk5; clear hc5' hc5 hc52 hk5)
            go_roundw
            case rel =>
              refine ⟨rest, xs2, k + 1, n5 + 1, n2 + 1, _, _, by go_num, by omega, unhide HWR, fun s => ?_, fun s => ?_, by omega, by omega, unhide HC6, unhide HC7, ?_⟩
              · have h := unhide HR1 s
                have h5 := unhide HD5 s
                simp only [rdF] at h
                unfold bump
                by_cases e : s = f
                · subst e
                  simp at h ⊢
                  omega
                · rw [if_neg (fun h => e h.2.symm)] at h
                  rw [if_neg e]
                  omega
              · have h := unhide HR2 s
                simp only [wrF] at h
                unfold bump
                by_cases e : s = f
                · subst e
                  simp at h ⊢
                  omega
                · rw [if_neg (fun h => e h.2.symm)] at h
                  rw [if_neg e]
                  omega
              · rw [show goff + (k + 1) * 5 = goff + k * 5 + 5 by omega]
                exact unhide HKT _ ((((unhide HK5).mono (fun q _ e => Or.inl e)).trans ((unhide HK6).mono (fun q _ e => Or.inl e))).trans ((unhide HK7).mono (fun q _ e => Or.inr e)))
            case measure => simp [intOf]; omega
          · go_wp2_with (go_at_call 55; refine (unhide HCALL).mono ?_; rintro e w5 ⟨rfl, n5, hn5, hc5', hk5⟩; obtain ⟨d5, HD5, hc5⟩ : ∃ d5 : Txt → Nat, Hid (∀ s, d5 s = d1 s + cntE x s) ∧ Cnt w5 w1.heap.size n5 d5 := ⟨_, fun _ => rfl, hc5'⟩; have v0 := (hk5.cell (o := 0) hxb2 hbm1).trans y0; have v1 := (hk5.cell (o := 1) hxb2 hbm1).trans y1; have hc52 := (unhide HD2).keep hk5 hm12; have hlk := hc5.look hfl; have hle := hc5.le f; obtain ⟨w6, hst, hc6, hk6⟩ := hc5.store hfl (by omega); have u1 := (hk6.cell (o := 1) (Nat.lt_of_lt_of_le hxb2 hk5.size) hbm1).trans v1; have hc62 := hc52.keep hk6 hm12; have hlk2 := hc62.look hfl; have hle2 := hc62.le f; obtain ⟨w7, hst2, hc7, hk7⟩ := hc62.store hfl (by omega); have HC6 := hide (hc6.keep hk7 hm21); have HC7 := hide hc7; have HK6 := hide hk6; have HK7 := hide hk7; clear hc6 hk6 hc7 hk7 hc62; have HC5 := hide hc5; have HC52 := hide hc52; have HK5 := hide hk5; clear hc5' hc5 hc52 hk5)
            go_roundw
            case rel =>
              refine ⟨rest, xs2, k + 1, n5 + 1, n2 + 1, _, _, by go_num, by omega, unhide HWR, fun s => ?_, fun s => ?_, by omega, by omega, unhide HC6, unhide HC7, ?_⟩
              · have h := unhide HR1 s
                have h5 := unhide HD5 s
                simp only [rdF] at h
                unfold bump
                by_cases e : s = f
                · subst e
                  simp at h ⊢
                  omega
                · rw [if_neg (fun h => e h.2.symm)] at h
                  rw [if_neg e]
                  omega
              · have h := unhide HR2 s
                simp only [wrF] at h
                unfold bump
                by_cases e : s = f
                · subst e
                  simp at h ⊢
                  omega
                · rw [if_neg (fun h => e h.2.symm)] at h
                  rw [if_neg e]
                  omega
              · rw [show goff + (k + 1) * 5 = goff + k * 5 + 5 by omega]
                exact unhide HKT _ ((((unhide HK5).mono (fun q _ e => Or.inl e)).trans ((unhide HK6).mono (fun q _ e => Or.inl e))).trans ((unhide HK7).mono (fun q _ e => Or.inr e)))
            case measure => simp [intOf]; omega
        · have o1 : (op == 1) = false := by simp; omega
          have o2 : (op == 2) = false := by simp; omega
          have o3 : (op == 3) = false := by simp; omega
          have o4 : (op == 4) = false := by simp; omega
          have o5 : (op == 5) = false := by simp; omega
          have HOO : Hid (¬ (op = 1 ∨ op = 2 ∨ op = 3 ∨ op = 4 ∨ op = 5)) := by intro h; omega
          clear ho hq
          go_wp2_with (go_at_call 55; refine (unhide HCALL).mono ?_; rintro e w5 ⟨rfl, n5, hn5, hc5', hk5⟩; obtain ⟨d5, HD5, hc5⟩ : ∃ d5 : Txt → Nat, Hid (∀ s, d5 s = d1 s + cntE x s) ∧ Cnt w5 w1.heap.size n5 d5 := ⟨_, fun _ => rfl, hc5'⟩; have v0 := (hk5.cell (o := 0) hxb2 hbm1).trans y0; have v1 := (hk5.cell (o := 1) hxb2 hbm1).trans y1; have hc52 := (unhide HD2).keep hk5 hm12; have HC5 := hide hc5; have HC52 := hide hc52; have HK5 := hide hk5; clear hc5' hc5 hc52 hk5)
          go_roundw
          case rel =>
            refine ⟨rest, xs2, k + 1, n5, n2, d5, d2, by go_num, by omega, unhide HWR, fun s => ?_, fun s => ?_, by omega, by omega, unhide HC5, unhide HC52, ?_⟩
            · have h := unhide HR1 s
              have h5 := unhide HD5 s
              simp only [rdF] at h
              rw [if_neg (fun e => unhide HOO (by omega))] at h
              omega
            · have h := unhide HR2 s
              simp only [wrF] at h
              rw [if_neg (fun e => unhide HOO (by omega))] at h
              omega
            · rw [show goff + (k + 1) * 5 = goff + k * 5 + 5 by omega]
              exact unhide HKT _ ((unhide HK5).mono (fun q _ e => Or.inl e))
          case measure => simp [intOf]; omega
end Go.Proofs.YtjhppnecadnekaaDoor
namespace Go.Proofs.YtjhppnecadnekaaDoor
open Go.RowKit Go.Maps

/-- Does a statement by itself read the field, write it? -/
def rd1 (op : Int) (f : Txt) (ex : EL) (x : Txt) : Bool := decide (0 < cntE ex x) || decide ((op = 2 ∨ op = 3 ∨ op = 4) ∧ f = x)
def wr1 (op : Int) (f : Txt) (x : Txt) : Bool := decide ((op = 1 ∨ op = 2 ∨ op = 3 ∨ op = 4 ∨ op = 5) ∧ f = x)

theorem rd1_no {op : Int} {f : Txt} {ex : EL} {x : Txt} (h : ¬ ((op = 2 ∨ op = 3 ∨ op = 4) ∧ f = x)) : rd1 op f ex x = decide (0 < cntE ex x) := by
  unfold rd1
  rw [decide_eq_false h, Bool.or_false]
theorem wr1_no {op : Int} {f x : Txt} (h : ¬ ((op = 1 ∨ op = 2 ∨ op = 3 ∨ op = 4 ∨ op = 5) ∧ f = x)) : wr1 op f x = false := by
  unfold wr1
  rw [decide_eq_false h]

set_option maxRecDepth 100000 in
set_option maxHeartbeats 4000000 in
theorem uses_v (Z : Zone) (op : Int) (f : Txt) (l : EL) (hlen' : l.size ≤ 4294967294) (x : Txt) (w : World) (up : Nat) (v tv ev : Value) (hS : SlE Z w up v l) (hv : ∃ to tn tc eo en ec, tv = .slice to tn tc ∧ ev = .slice eo en ec) :
    Calls Tryd.prog 37 #[stV op f v tv ev, str x] w fun e w' => e = .returned (.tuple #[.bool (rd1 op f l x), .bool (wr1 op f x)]) ∧ Keeps (fun _ => False) w w' := by
  have hlen : l.len ≤ 4294967294 := by have := EL.len_le l; omega
  obtain ⟨to, tn, tc, eo, en, ec, rfl, rfl⟩ := hv
  obtain ⟨ao, cap, b, off, rfl, hcap, ha, hx⟩ := hS.open
  obtain ⟨HB, hxb, hxc⟩ := boxedT w #[.int .i64 op, str f, .slice ao l.len cap, .slice to tn tc, .slice eo en ec] 64
  have c0 := hxc 0 (.int .i64 op) rfl
  have c1 := hxc 1 (str f) rfl
  have c2 := hxc 2 (.slice ao l.len cap) rfl
  have HX := hide hx
  have HA := hide ha
  clear hS hx ha hxc
  go_enter Tryd.func37, Tryd.ntmps37
  go_wp2_with fail
  go_loopw [6, 7] (fun d i wr => ∃ (rest : EL) (k : Nat) (r : Bool), d = .bool r ∧ i = .int .i64 k ∧ k + rest.len = l.len ∧ rest.size ≤ l.size ∧ Hid ((r || decide (0 < cntE rest x)) = decide (0 < cntE l x)) ∧ Keeps (fun _ => False) (w.alloc (.cells #[.int .i64 op, str f, .slice ao l.len cap, .slice to tn tc, .slice eo en ec] 64)) wr ∧ ExIn Z wr rest b (off + k * 4)) (fun _ i _ => l.len - (intOf i).toNat)
  case atStart => exact ⟨l, 0, false, rfl, rfl, by omega, Nat.le_refl _, rfl, Keeps.refl _ _, by simpa using (unhide HX).keepF (unhide HB)⟩
  case round =>
    obtain ⟨rest, k, r, rfl, rfl, hkl, hrs, HWE, hkeep, hr⟩ := hrel
    have q0 := (hkeep.cell (o := 0) hxb id).trans c0
    have q1 := (hkeep.cell (o := 1) hxb id).trans c1
    have q2 := (hkeep.cell (o := 2) hxb id).trans c2
    have HK := hide hkeep
    clear hkeep
    cases rest with
    | nil =>
      simp only [EL.len, EL.size] at hkl hrs
      have HV : Hid (r = decide (0 < cntE l x)) := by have h := unhide HWE; exact hide (by simpa [cntE] using h)
      clear hr
      have i1 : ¬ (k : Int) < (l.len : Int) := by omega
      by_cases hf : f = x
      · subst hf
        by_cases ho : op = 2 ∨ op = 3 ∨ op = 4
        · rcases ho with rfl | rfl | rfl
          all_goals
            go_wp2_with fail
            refine bodyPost_ret (v := .tuple #[.bool true, .bool true]) (by simp [results, go_sem]) rfl ?_
            exact ⟨by simp [rd1, wr1], (unhide HB).trans (unhide HK)⟩
        · by_cases hp : op = 1 ∨ op = 5
          · rcases hp with rfl | rfl
            all_goals
              clear ho
              go_wp2_with fail
              refine bodyPost_ret (v := .tuple #[.bool r, .bool true]) (by simp [results, go_sem]) rfl ?_
              exact ⟨by rw [unhide HV]; simp [rd1, wr1], (unhide HB).trans (unhide HK)⟩
          · have o1 : (op == 1) = false := by simp; omega
            have o2 : (op == 2) = false := by simp; omega
            have o3 : (op == 3) = false := by simp; omega
            have o4 : (op == 4) = false := by simp; omega
            have o5 : (op == 5) = false := by simp; omega
            have HO : Hid (¬ (op = 2 ∨ op = 3 ∨ op = 4) ∧ ¬ (op = 1 ∨ op = 2 ∨ op = 3 ∨ op = 4 ∨ op = 5)) := ⟨ho, by omega⟩
            clear ho hp
            go_wp2_with fail
            refine bodyPost_ret (v := .tuple #[.bool r, .bool false]) (by simp [results, go_sem]) rfl ?_
            exact ⟨by rw [unhide HV]; rw [rd1_no (fun h => (unhide HO).1 h.1), wr1_no (fun h => (unhide HO).2 h.1)], (unhide HB).trans (unhide HK)⟩
      · have hfe : (f == x) = false := by simpa using hf
        have hfn : (f != x) = true := by simpa using hf
        have HF := hide hf
        clear hf
        go_wp2_with fail
        refine bodyPost_ret (v := .tuple #[.bool r, .bool false]) (by simp [results, go_sem]) rfl ?_
        exact ⟨by rw [unhide HV]; rw [rd1_no (fun h => (unhide HF) h.2), wr1_no (fun h => (unhide HF) h.2)], (unhide HB).trans (unhide HK)⟩
    | cons op' n' s' kids rest =>
      obtain ⟨h1, h2, h3, h4, h5, ⟨kao, kcap, h6, h7, h8⟩, h9⟩ := hr
      simp only [EL.len, EL.size] at hkl hrs
      obtain ⟨rfl, hp⟩ := (unhide HA) (by omega)
      have HKID : Hid (SlE Z wr b (.slice kao kids.len kcap) kids) := ⟨kao, kcap, rfl, h7, h8⟩
      have HR := hide h9
      have i1 : (k : Int) < (l.len : Int) := by omega
      have i0 : (0 : Int) ≤ (k : Int) := by omega
      have HKD := hide (names_v Z x (kids.size + 1) kids (by omega) (by omega) op' n' s' wr b (.slice kao kids.len kcap) (unhide HKID))
      have HWE2 : Hid ((r || (decide (0 < cntE (.cons op' n' s' kids .nil) x) || decide (0 < cntE rest x))) = decide (0 < cntE l x)) := by
        have h := unhide HWE
        rw [cnt_head] at h
        exact h
      generalize decide (0 < cntE (.cons op' n' s' kids .nil) x) = rr at HKD HWE2
      clear h2 h8 h9 HWE
      cases r with
      | true =>
        go_wp2_with (go_at_call 57; refine (unhide HKD).mono ?_; rintro e w1 ⟨rfl, hk1⟩; have HK1 := hide hk1; clear hk1)
        go_roundw
        case rel =>
          refine ⟨rest, k + 1, true, rfl, by go_num, by omega, by omega, by rw [← unhide HWE2]; rfl, (unhide HK).trans (unhide HK1), ?_⟩
          rw [show off + (k + 1) * 4 = off + k * 4 + 4 by omega]
          exact (unhide HR).keepF (unhide HK1)
        case measure => simp [intOf]; omega
      | false =>
        go_wp2_with (go_at_call 57; refine (unhide HKD).mono ?_; rintro e w1 ⟨rfl, hk1⟩; have HK1 := hide hk1; clear hk1)
        go_roundw
        case rel =>
          refine ⟨rest, k + 1, rr, rfl, by go_num, by omega, by omega, by rw [← unhide HWE2]; rfl, (unhide HK).trans (unhide HK1), ?_⟩
          rw [show off + (k + 1) * 4 = off + k * 4 + 4 by omega]
          exact (unhide HR).keepF (unhide HK1)
        case measure => simp [intOf]; omega
end Go.Proofs.YtjhppnecadnekaaDoor
namespace Go.Proofs.YtjhppnecadnekaaDoor
open Go.RowKit Go.Maps

/-- Two lists of names of one's own, apart. -/
def TwoNm (w : World) (base : Nat) (o1 o2 : Value) (l1 l2 : List Txt) : Prop := NmAt w base o1 l1 ∧ NmAt w base o2 l2 ∧ ∀ q, o1.ownBlock = some q → o2.ownBlock ≠ some q
theorem TwoNm.symm {w : World} {base : Nat} {o1 o2 : Value} {l1 l2 : List Txt} (h : TwoNm w base o1 o2 l1 l2) : TwoNm w base o2 o1 l2 l1 :=
  ⟨h.2.1, h.1, fun q e e2 => h.2.2 q e2 e⟩
theorem TwoNm.keepF {w w' : World} {base : Nat} {o1 o2 : Value} {l1 l2 : List Txt} (h : TwoNm w base o1 o2 l1 l2) (hk : Keeps (fun _ => False) w w') : TwoNm w' base o1 o2 l1 l2 :=
  ⟨ownsRow_kept h.1 hk (fun _ _ => id), ownsRow_kept h.2.1 hk (fun _ _ => id), h.2.2⟩
theorem TwoNm.step {w w6 : World} {base g6 c6 : Nat} {o1 o2 : Value} {l1 l2 : List Txt} {nm : Txt} (h : TwoNm w base o1 o2 l1 l2) (hown : w6.ownsRow base 9 1 (.slice (some ⟨g6, 0, none⟩) (l1.length + 1) c6) (l1.length + 1) (nmC l1 ++ [str nm])) (hgr : (w.alloc (.cells #[str nm] 9)).grownBy w6 o1.ownBlock) (hat : o1.ownBlock = some g6 ∨ g6 = w.heap.size + 1) :
    TwoNm w6 base (.slice (some ⟨g6, 0, none⟩) (l1.length + 1) c6) o2 (l1 ++ [nm]) l2 := by
  obtain ⟨h1, h2, h3⟩ := h
  refine ⟨?_, ?_, fun q e e2 => ?_⟩
  · unfold NmAt
    rw [nmC_snoc, List.length_append]
    exact hown
  · have hk : Keeps (fun q => o1.ownBlock = some q) (w.alloc (.cells #[str nm] 9)) w6 := (Keeps.refl _ _).grown hgr (fun q e _ => e)
    exact ownsRow_kept (ownsRow_kept h2 ((Keeps.refl (fun _ => False) w).alloc _) (fun _ _ => id)) hk (fun q e e1 => h3 q e1 e)
  · have e' : g6 = q := by simpa [Value.ownBlock] using e
    subst e'
    rcases hat with hat | hat
    · exact h3 _ hat e2
    · have := (h2.lt _ e2).2
      omega
theorem rd_head (op : Int) (f : Txt) (x : EL) (t e r : SL) (s : Txt) : decide (0 < rdF (.cons op f x t e r) s) = (rd1 op f x s || decide (0 < rdF r s)) := by
  rw [Bool.eq_iff_iff]
  simp only [rd1, Bool.or_eq_true, decide_eq_true_eq]
  show 0 < cntE x s + (if (op = 2 ∨ op = 3 ∨ op = 4) ∧ f = s then 1 else 0) + rdF r s ↔ _
  by_cases h : (op = 2 ∨ op = 3 ∨ op = 4) ∧ f = s
  · rw [if_pos h]
    exact ⟨fun _ => Or.inl (Or.inr h), fun _ => by omega⟩
  · rw [if_neg h]
    refine ⟨fun h2 => ?_, fun h2 => ?_⟩
    · by_cases h3 : 0 < cntE x s
      · exact Or.inl (Or.inl h3)
      · exact Or.inr (by omega)
    · rcases h2 with (h2 | h2) | h2
      · omega
      · exact absurd h2 h
      · omega
theorem wr_head (op : Int) (f : Txt) (x : EL) (t e r : SL) (s : Txt) : decide (0 < wrF (.cons op f x t e r) s) = (wr1 op f s || decide (0 < wrF r s)) := by
  rw [Bool.eq_iff_iff]
  simp only [wr1, Bool.or_eq_true, decide_eq_true_eq]
  show 0 < (if (op = 1 ∨ op = 2 ∨ op = 3 ∨ op = 4 ∨ op = 5) ∧ f = s then 1 else 0) + wrF r s ↔ _
  by_cases h : (op = 1 ∨ op = 2 ∨ op = 3 ∨ op = 4 ∨ op = 5) ∧ f = s
  · rw [if_pos h]
    exact ⟨fun _ => Or.inl h, fun _ => by omega⟩
  · rw [if_neg h]
    refine ⟨fun h2 => Or.inr (by omega), fun h2 => ?_⟩
    rcases h2 with h2 | h2
    · exact absurd h2 h
    · omega

set_option maxRecDepth 100000 in
set_option maxHeartbeats 4000000 in
theorem rfields_bad (Z : Zone) (S : List FieldA) (l : SL) (hsz : l.size ≤ 4294967294) (sv pv : Value) (w : World) (up : Nat) (hf : FldsAt w sv S) (hp : SlS Z w up pv l) (hE : (checkP S l).1 ≠ 0) :
    Calls Tryd.prog 20 #[.agg #[sv], pv] w fun e w' => e = .returned (.tuple #[.slice none 0 0, .slice none 0 0, .int .i64 (checkP S l).1]) ∧ Keeps (fun _ => False) w w' := by
  obtain ⟨ao, cap, rfl, hc⟩ := hp.head
  obtain ⟨so, sc, rfl⟩ := RowAt.form hf
  obtain ⟨HB, hxb, hxc⟩ := boxedT w #[.slice so S.length sc] 24
  have c0 := hxc 0 (.slice so S.length sc) rfl
  have HCK := fun w' (hk : Keeps (fun _ => False) w w') => hide (rcheck9_v Z S l hsz (.slice so S.length sc) (.slice ao l.len cap) w' up (hf.keepF hk) (hp.keepF hk))
  obtain ⟨⟨E, at'⟩, hpv⟩ : ∃ p, p = checkP S l := ⟨_, rfl⟩
  rw [← hpv] at hE HCK ⊢
  have hE' : (E != 0) = true := by simpa using hE
  clear hf hp hxc hpv hE
  go_enter Tryd.func20, Tryd.ntmps20
  go_wp2_with (go_at_call 15; refine (unhide (HCK _ (unhide HB))).mono ?_; rintro e w1 ⟨rfl, hk1⟩; have HKa := hide ((unhide HB).trans hk1); clear hk1)
  refine bodyPost_ret (v := .tuple #[.slice none 0 0, .slice none 0 0, .int .i64 E]) (by simp [results, go_sem]) rfl ?_
  exact ⟨rfl, unhide HKa⟩

set_option maxRecDepth 100000 in
set_option maxHeartbeats 4000000 in
theorem rfields_fit (Z : Zone) (S : List FieldA) (l : SL) (hsz : l.size ≤ 4294967294) (sv pv : Value) (w : World) (up : Nat) (hf : FldsAt w sv S) (hp : SlS Z w up pv l) (hE : (checkP S l).1 = 0) :
    Calls Tryd.prog 20 #[.agg #[sv], pv] w fun e w' => ∃ rv wv, e = .returned (.tuple #[rv, wv, .int .i64 0]) ∧ NmAt w' w.heap.size rv (pick S (fun s => decide (0 < rdF (flatS l) s))) ∧ NmAt w' w.heap.size wv (pick S (fun s => decide (0 < wrF (flatS l) s))) ∧ Keeps (fun _ => False) w w' := by
  obtain ⟨hS, hC⟩ := checkP_zero hE
  have hwl := checkS_well hC
  have hnl : (flatS l).len ≤ 4294967294 := by rw [flatS_len]; exact Nat.le_trans (countS_le l) hsz
  obtain ⟨ao, cap, rfl, hc⟩ := hp.head
  obtain ⟨so, sc, rfl⟩ := RowAt.form hf
  obtain ⟨HB, hxb, hxc⟩ := boxedT w #[.slice so S.length sc] 24
  have c0 := hxc 0 (.slice so S.length sc) rfl
  have SB : ∀ w', Keeps (fun _ => False) (w.alloc (.cells #[.slice so S.length sc] 24)) w' → w'.cell? ⟨w.heap.size, 0, none⟩ = some (.slice so S.length sc) := fun w' hk => (hk.cell hxb id).trans c0
  have HSB := hide SB
  have HCK := fun w' (hk : Keeps (fun _ => False) w w') => hide (rcheck9_v Z S l hsz (.slice so S.length sc) (.slice ao l.len cap) w' up (hf.keepF hk) (hp.keepF hk))
  have HNU := fun w' (hk : Keeps (fun _ => False) w w') => hide (flat_v w'.heap.size (l.size + 1) l (by omega) hsz w' 0 (.slice ao l.len cap) (Nat.le_refl _) ((hp.keepF hk).arg (Nat.le_refl _) 0))
  obtain ⟨⟨E, at'⟩, hpv⟩ : ∃ p, p = checkP S l := ⟨_, rfl⟩
  rw [← hpv] at hE HCK
  subst hE
  have HF := hide hf
  have HW := hide (flat_well (N := 4294967294) l hsz hwl)
  clear hf hp hxc hpv SB hC hwl
  go_enter Tryd.func20, Tryd.ntmps20
  go_wp2_with (first
    | (go_at_call 15; refine (unhide (HCK _ (unhide HB))).mono ?_; rintro e w1 ⟨rfl, hk1⟩; have HKa := hide ((unhide HB).trans hk1); have HKb := hide hk1; clear hk1)
    | (go_at_call 34; refine (unhide (HNU _ (unhide HKa))).mono ?_; rintro e w4 ⟨fo, fc, n, xs, rfl, hn, hown, hss, hk1⟩; obtain ⟨g, goff, hg, hst⟩ := num_open hn (rowAt_own hown) hss; have HNL := hide hn; have HG := hide hg; have HST := hide hst; have HKa := hide ((unhide HKa).trans hk1); have HKb := hide ((unhide HKb).trans hk1); clear hn hown hss hg hst hk1))
  have hn2 : n ≤ 4294967294 := by rw [unhide HNL]; exact hnl
  clear hnl HCK HNU c0
  obtain ⟨i0, hi, hz0, hz1, hz2⟩ := info_parts Tryd.info9
  obtain ⟨i0, hi, hz0, hz1, hz2⟩ := info_parts Tryd.info9
  obtain ⟨i0, hi, hz0, hz1, hz2⟩ := info_parts Tryd.info9
  obtain ⟨i0, hi, hz0, hz1, hz2⟩ := info_parts Tryd.info9
  obtain ⟨i0, hi, hz0, hz1, hz2⟩ := info_parts Tryd.info9
  have hSB := hS
  unfold schemaB at hSB
  simp only [Bool.and_eq_true, decide_eq_true_eq] at hSB
  have hl8 := hSB.1.1.1.2
  have hw4 : w.heap.size ≤ w4.heap.size := (unhide HKa).size
  clear hSB hS
  go_loopw [7, 8, 12] (fun o1 o2 i wr => ∃ (k : Nat), i = .int .i64 k ∧ k ≤ S.length ∧ TwoNm wr w4.heap.size o1 o2 (pick (S.take k) (fun s => decide (0 < rdF (flatS l) s))) (pick (S.take k) (fun s => decide (0 < wrF (flatS l) s))) ∧ Keeps (fun _ => False) w4 wr) (fun _ _ i _ => S.length - (intOf i).toNat)
  case atStart => exact ⟨0, rfl, Nat.zero_le _, ⟨World.ownsRow_nil _ w4.heap.size 9 1, World.ownsRow_nil _ w4.heap.size 9 1, fun q e => by simp [Value.ownBlock] at e⟩, Keeps.refl _ _⟩
  case round =>
    rename World => wo
    obtain ⟨k, rfl, hk, htwo, hkeep⟩ := hrel
    obtain ⟨oo, oc, rfl⟩ := (rowAt_own htwo.1).form
    obtain ⟨po, pc, rfl⟩ := (rowAt_own htwo.2.1).form
    have HT := hide htwo
    have HK := hide hkeep
    have p0 := unhide HSB _ ((unhide HKb).trans hkeep)
    have ha8 : (pick (S.take k) (fun s => decide (0 < rdF (flatS l) s))).length ≤ 8 := by have := pick_le (S.take k) (fun s => decide (0 < rdF (flatS l) s)); simp at this; omega
    have hb8 : (pick (S.take k) (fun s => decide (0 < wrF (flatS l) s))).length ≤ 8 := by have := pick_le (S.take k) (fun s => decide (0 < wrF (flatS l) s)); simp at this; omega
    cases h : S[k]? with
    | none =>
      have h1 := get_ge h
      obtain rfl : k = S.length := by omega
      have i1 : ¬ (S.length : Int) < (S.length : Int) := by omega
      clear h h1 htwo hkeep hk ha8 hb8
      go_wp2_with fail
      rw [List.take_length] at HT
      refine bodyPost_ret (v := .tuple #[.slice oo _ oc, .slice po _ pc, .int .i64 0]) (by simp [results, go_sem]; exact ⟨rfl, rfl⟩) rfl ?_
      exact ⟨_, _, rfl, ownsRow_lower (unhide HT).1 hw4, ownsRow_lower (unhide HT).2.1 hw4, (unhide HKa).trans (unhide HK)⟩
    | some f =>
      have h1 := get_lt h
      obtain ⟨b, off, c1, e, hbl, hc⟩ := ((unhide HF).keepF (unhide HKa)).cells (by omega)
      simp at e
      obtain ⟨rfl, rfl⟩ := e
      have hq0 := (hc k f h).1
      have HQ : Hid (∀ w', Keeps (fun _ => False) w4 w' → w'.cell? ⟨b, off + k * 3, none⟩ = some (str f.name)) := fun w' hk' => (hk'.cell hbl id).trans hq0
      have i1 : (k : Int) < (S.length : Int) := by omega
      have ix0 : (0 : Int) ≤ (k : Int) := by omega
      have HTK := hide (take_snoc _ _ _ h)
      have HP1 := hide (pick_snoc (S.take k) f (fun s => decide (0 < rdF (flatS l) s)))
      have HP2 := hide (pick_snoc (S.take k) f (fun s => decide (0 < wrF (flatS l) s)))
      clear h hc hq0 htwo hkeep
      go_wp2_with fail
      go_loopw [13, 14, 15] (fun r1 r2 i wq => ∃ (rest : SL) (j : Nat) (a b : Bool), r1 = .bool a ∧ r2 = .bool b ∧ i = .int .i64 j ∧ j + rest.len = n ∧ Hid ((a || decide (0 < rdF rest f.name)) = decide (0 < rdF (flatS l) f.name)) ∧ Hid ((b || decide (0 < wrF rest f.name)) = decide (0 < wrF (flatS l) f.name)) ∧ wellF 4294967294 rest ∧ Keeps (fun _ => False) wo wq ∧ StIn (argZ w4.heap.size) w4 rest g (goff + j * 5)) (fun _ _ i _ => n - (intOf i).toNat)
      case atStart => exact ⟨flatS l, 0, false, false, rfl, rfl, rfl, by rw [Nat.zero_add]; exact (unhide HNL).symm, rfl, rfl, unhide HW, Keeps.refl _ _, by simpa using unhide HST⟩
      case round =>
        obtain ⟨rest, j, a, bb, rfl, rfl, rfl, hjl, HA1, HB1, hwf, hkeep2, hr⟩ := hrel
        have HK2 := hide hkeep2
        cases rest with
        | cons op ff x t el rest =>
          obtain ⟨h1, h2, h3, h4, ⟨xv, h5, hxs⟩, ⟨tao, tcap, h6, h7, h8⟩, ⟨eao, ecap, j6, j7, j8⟩, h9⟩ := hr
          obtain ⟨hh, hwx, hxz, hwr⟩ := hwf
          simp only [SL.len] at hjl
          obtain ⟨xao, xcap, rfl, hxl⟩ := hxs.head
          obtain rfl := (unhide HG) (by omega)
          have HR := hide h9
          have HWq := hide hwr
          have j1 : (j : Int) < (n : Int) := by omega
          have jx0 : (0 : Int) ≤ (j : Int) := by omega
          have HJL := hide hjl
          have hkw : Keeps (fun _ => False) w4 wr := (unhide HK).trans hkeep2
          have e0 : ∀ m : KW wr, m.wd.cell? ⟨w.heap.size, 0, none⟩ = some (.slice (some ⟨b, off, none⟩) S.length sc) := fun m => unhide HSB _ (((unhide HKb).trans hkw).trans m.kept)
          have e1 : ∀ m : KW wr, m.wd.cell? ⟨b, off + k * 3, none⟩ = some (str f.name) := fun m => unhide HQ _ (hkw.trans m.kept)
          have f0 : ∀ m : KW wr, m.wd.cell? ⟨g, goff + j * 5, none⟩ = some (.int .i64 op) := fun m => ((hkw.trans m.kept).cell h1 id).trans h3
          have f1 : ∀ m : KW wr, m.wd.cell? ⟨g, goff + j * 5 + 1, none⟩ = some (str ff) := fun m => ((hkw.trans m.kept).cell h1 id).trans h4
          have f2 : ∀ m : KW wr, m.wd.cell? ⟨g, goff + j * 5 + 2, none⟩ = some (.slice xao x.len xcap) := fun m => ((hkw.trans m.kept).cell h1 id).trans h5
          have f3 : ∀ m : KW wr, m.wd.cell? ⟨g, goff + j * 5 + 3, none⟩ = some (.slice tao t.len tcap) := fun m => ((hkw.trans m.kept).cell h1 id).trans h6
          have f4 : ∀ m : KW wr, m.wd.cell? ⟨g, goff + j * 5 + 4, none⟩ = some (.slice eao el.len ecap) := fun m => ((hkw.trans m.kept).cell h1 id).trans j6
          have HE := hide (fun (m : KW wr) => kw_of m (uses_v (argZ w4.heap.size) op ff x hxz f.name m.wd g _ (.slice tao t.len tcap) (.slice eao el.len ecap) (hxs.keepF (hkw.trans m.kept)) ⟨_, _, _, _, _, _, rfl, rfl⟩))
          have HA2 : Hid ((a || (rd1 op ff x f.name || decide (0 < rdF rest f.name))) = decide (0 < rdF (flatS l) f.name)) := by have hh := unhide HA1; rw [rd_head] at hh; exact hh
          have HB2 : Hid ((bb || (wr1 op ff f.name || decide (0 < wrF rest f.name))) = decide (0 < wrF (flatS l) f.name)) := by have hh := unhide HB1; rw [wr_head] at hh; exact hh
          generalize rd1 op ff x f.name = R1 at HE HA2
          generalize wr1 op ff f.name = R2 at HE HB2
          clear hkeep2 hkw h1 h2 h3 h4 h5 h6 h8 h9 j6 j8 hxs hh hwx hwr hjl HA1 HB1
          cases a <;> cases bb
          all_goals
            go_wp2_with fail
            refine region_kept (by kernel_rfl) (by kernel_rfl) ?_
            repeat (go_big_quiet_step ((go_at_call 37; exact unhide HE _)))
            refine wpQuiet_nil ?_
            rintro _ ⟨nq, rfl⟩
            have HK1 := hide nq.kept
            go_wp2_with fail
            go_roundw
            case rel =>
              refine ⟨rest, j + 1, _, _, rfl, rfl, by go_num, by have := unhide HJL; omega, ?_, ?_, unhide HWq, (unhide HK2).trans (unhide HK1), ?_⟩
              · exact (by rw [← unhide HA2]; rfl)
              · exact (by rw [← unhide HB2]; rfl)
              · rw [show goff + (j + 1) * 5 = goff + j * 5 + 5 by omega]
                exact unhide HR
            case measure => have := unhide HJL; simp [intOf]; omega
        | nil =>
          simp only [SL.len, Nat.add_zero] at hjl
          have j1 : ¬ (j : Int) < (n : Int) := by omega
          have HA1 : Hid (a = decide (0 < rdF (flatS l) f.name)) := by have h := unhide HA1; exact hide (by simpa [rdF] using h)
          have HB1 : Hid (bb = decide (0 < wrF (flatS l) f.name)) := by have h := unhide HB1; exact hide (by simpa [wrF] using h)
          have hk4 : Keeps (fun _ => False) w4 wr := (unhide HK).trans hkeep2
          have hswr := hk4.size
          have HKwr := hide hk4
          have HTwr := hide ((unhide HT).keepF hkeep2)
          have swr := unhide HSB _ ((unhide HKb).trans hk4)
          have twr := unhide HQ _ hk4
          clear hkeep2 hr hwf hk4 hjl p0
          cases a with
          | false =>
            cases bb with
            | false =>
              go_wp2_with fail
              go_roundw
              case rel =>
                refine ⟨k + 1, by go_num, by omega, ?_, unhide HKwr⟩
                rw [unhide HTK, unhide HP1, unhide HP2, if_neg (by rw [← unhide HA1]; simp), List.append_nil, if_neg (by rw [← unhide HB1]; simp), List.append_nil]
                exact unhide HTwr
              case measure => simp [intOf]; omega

            | true =>
              go_wp2_with (at_builtin; refine wpList_append_lies _ rfl _ _ _ rfl w4.heap.size 9 i0 _ 1 16 Tryd.underlying39 hi hz0 hz1 hz2 rfl (by omega) (.slice po _ pc) _ _ rfl (ownsRow_kept (unhide HTwr).2.1 ((Keeps.refl (fun _ => False) _).alloc _) (fun _ _ => id)) ⟨wr.heap.size, 0, none⟩ 1 1 [str f.name] rfl rfl (World.news_of_block (cs := #[str f.name]) (t := 9) (fr := (0, 0)) (heap_alloc_new wr _)) (by simp [Value.oneCell']) (by omega) (by unfold maxLen; omega) (by omega) (by simp; omega) (wr.heap.size + 1) (by simp) ?_; intro gw6 cw6 w6 hown hgrow hat _; have HTw6 := hide ((((unhide HTwr).symm).step hown hgrow hat).symm); have hk6 : Keeps (fun _ => False) w4 w6 := ((unhide HKwr).alloc _).grown hgrow (fun q e hq => by have := ((unhide HTwr).2.1.lt q e).1; omega); have hsw6 := hk6.size; have HKw6 := hide hk6; have sw6 := unhide HSB _ ((unhide HKb).trans hk6); have tw6 := unhide HQ _ hk6; clear hown hgrow hat hk6)
              go_roundw
              case rel =>
                refine ⟨k + 1, by go_num, by omega, ?_, unhide HKw6⟩
                rw [unhide HTK, unhide HP1, unhide HP2, if_neg (by rw [← unhide HA1]; simp), List.append_nil, if_pos (unhide HB1).symm]
                exact unhide HTw6
              case measure => simp [intOf]; omega

          | true =>
            cases bb with
            | false =>
              go_wp2_with (at_builtin; refine wpList_append_lies _ rfl _ _ _ rfl w4.heap.size 9 i0 _ 1 16 Tryd.underlying39 hi hz0 hz1 hz2 rfl (by omega) (.slice oo _ oc) _ _ rfl (ownsRow_kept (unhide HTwr).1 ((Keeps.refl (fun _ => False) _).alloc _) (fun _ _ => id)) ⟨wr.heap.size, 0, none⟩ 1 1 [str f.name] rfl rfl (World.news_of_block (cs := #[str f.name]) (t := 9) (fr := (0, 0)) (heap_alloc_new wr _)) (by simp [Value.oneCell']) (by omega) (by unfold maxLen; omega) (by omega) (by simp; omega) (wr.heap.size + 1) (by simp) ?_; intro gw6 cw6 w6 hown hgrow hat _; have HTw6 := hide ((unhide HTwr).step hown hgrow hat); have hk6 : Keeps (fun _ => False) w4 w6 := ((unhide HKwr).alloc _).grown hgrow (fun q e hq => by have := ((unhide HTwr).1.lt q e).1; omega); have hsw6 := hk6.size; have HKw6 := hide hk6; have sw6 := unhide HSB _ ((unhide HKb).trans hk6); have tw6 := unhide HQ _ hk6; clear hown hgrow hat hk6)
              go_roundw
              case rel =>
                refine ⟨k + 1, by go_num, by omega, ?_, unhide HKw6⟩
                rw [unhide HTK, unhide HP1, unhide HP2, if_pos (unhide HA1).symm, if_neg (by rw [← unhide HB1]; simp), List.append_nil]
                exact unhide HTw6
              case measure => simp [intOf]; omega

            | true =>
              have mk1 : True := trivial
              go_wp2_with (first
                | (clear mk1; at_builtin; refine wpList_append_lies _ rfl _ _ _ rfl w4.heap.size 9 i0 _ 1 16 Tryd.underlying39 hi hz0 hz1 hz2 rfl (by omega) (.slice oo _ oc) _ _ rfl (ownsRow_kept (unhide HTwr).1 ((Keeps.refl (fun _ => False) _).alloc _) (fun _ _ => id)) ⟨wr.heap.size, 0, none⟩ 1 1 [str f.name] rfl rfl (World.news_of_block (cs := #[str f.name]) (t := 9) (fr := (0, 0)) (heap_alloc_new wr _)) (by simp [Value.oneCell']) (by omega) (by unfold maxLen; omega) (by omega) (by simp; omega) (wr.heap.size + 1) (by simp) ?_; intro gw6 cw6 w6 hown hgrow hat _; have HTw6 := hide ((unhide HTwr).step hown hgrow hat); have hk6 : Keeps (fun _ => False) w4 w6 := ((unhide HKwr).alloc _).grown hgrow (fun q e hq => by have := ((unhide HTwr).1.lt q e).1; omega); have hsw6 := hk6.size; have HKw6 := hide hk6; have sw6 := unhide HSB _ ((unhide HKb).trans hk6); have tw6 := unhide HQ _ hk6; clear hown hgrow hat hk6; have mk2 : True := trivial)
                | (clear mk2; at_builtin; refine wpList_append_lies _ rfl _ _ _ rfl w4.heap.size 9 i0 _ 1 16 Tryd.underlying39 hi hz0 hz1 hz2 rfl (by omega) (.slice po _ pc) _ _ rfl (ownsRow_kept (unhide HTw6).2.1 ((Keeps.refl (fun _ => False) _).alloc _) (fun _ _ => id)) ⟨w6.heap.size, 0, none⟩ 1 1 [str f.name] rfl rfl (World.news_of_block (cs := #[str f.name]) (t := 9) (fr := (0, 0)) (heap_alloc_new w6 _)) (by simp [Value.oneCell']) (by omega) (by unfold maxLen; omega) (by omega) (by simp; omega) (w6.heap.size + 1) (by simp) ?_; intro gw7 cw7 w7 hown hgrow hat _; have HTw7 := hide ((((unhide HTw6).symm).step hown hgrow hat).symm); have hk6 : Keeps (fun _ => False) w4 w7 := ((unhide HKw6).alloc _).grown hgrow (fun q e hq => by have := ((unhide HTw6).2.1.lt q e).1; omega); have hsw7 := hk6.size; have HKw7 := hide hk6; have sw7 := unhide HSB _ ((unhide HKb).trans hk6); have tw7 := unhide HQ _ hk6; clear hown hgrow hat hk6))
              go_roundw
              case rel =>
                refine ⟨k + 1, by go_num, by omega, ?_, unhide HKw7⟩
                rw [unhide HTK, unhide HP1, unhide HP2, if_pos (unhide HA1).symm, if_pos (unhide HB1).symm]
                exact unhide HTw7
              case measure => simp [intOf]; omega
end Go.Proofs.YtjhppnecadnekaaDoor
namespace Go.Proofs.YtjhppnecadnekaaDoor
open Go.RowKit Go.Maps

/-- What Fields leaves. -/
def FdPost (S : List FieldA) (l : SL) (w : World) (e : Ending) (w' : World) : Prop :=
  ∃ rv wv, e = .returned (.tuple #[rv, wv, .int .i64 (fieldsP S l).2.2]) ∧ NmAt w' w.heap.size rv (fieldsP S l).1 ∧ NmAt w' w.heap.size wv (fieldsP S l).2.1 ∧ Keeps (fun _ => False) w w'
theorem tfields_v (Z : Zone) (S : List FieldA) (l : SL) (hsz : l.size ≤ 4294967294) (sv pv : Value) (w : World) (up : Nat) (hT : Types w) (hF : Forms w) (hf : FldsAt w sv S) (hp : SlS Z w up pv l) :
    Calls Tryd.prog 36 #[.agg #[sv], pv] w (FdPost S l w) := by
  by_cases hE : (checkP S l).1 = 0
  · refine (tfields_fit Z S l hsz sv pv w up hT hF hf hp hE).mono ?_
    rintro e w' ⟨rv, wv, he, h1, h2, h3⟩
    unfold FdPost fieldsP
    rw [if_neg (by simpa using hE)]
    exact ⟨rv, wv, he, h1, h2, h3⟩
  · refine (tfields_bad Z S l hsz sv pv w up hT hF hf hp hE).mono ?_
    rintro e w' ⟨he, h3⟩
    unfold FdPost fieldsP
    rw [if_pos hE]
    exact ⟨_, _, he, World.ownsRow_nil _ _ 9 1, World.ownsRow_nil _ _ 9 1, h3⟩
theorem rfields_v (Z : Zone) (S : List FieldA) (l : SL) (hsz : l.size ≤ 4294967294) (sv pv : Value) (w : World) (up : Nat) (hf : FldsAt w sv S) (hp : SlS Z w up pv l) :
    Calls Tryd.prog 20 #[.agg #[sv], pv] w (FdPost S l w) := by
  by_cases hE : (checkP S l).1 = 0
  · refine (rfields_fit Z S l hsz sv pv w up hf hp hE).mono ?_
    rintro e w' ⟨rv, wv, he, h1, h2, h3⟩
    unfold FdPost fieldsP
    rw [if_neg (by simpa using hE)]
    exact ⟨rv, wv, he, h1, h2, h3⟩
  · refine (rfields_bad Z S l hsz sv pv w up hf hp hE).mono ?_
    rintro e w' ⟨he, h3⟩
    unfold FdPost fieldsP
    rw [if_pos hE]
    exact ⟨_, _, he, World.ownsRow_nil _ _ 9 1, World.ownsRow_nil _ _ 9 1, h3⟩

set_option maxRecDepth 100000 in
set_option maxHeartbeats 4000000 in
/-- The law's own call of Fields, on twins. -/
theorem lawFields_v (Z : Zone) (S : List FieldA) (hlS : S.length ≤ 4398046511104) (l : SL) (hsz : l.size ≤ 4294967294) (sv pv : Value) (w : World) (up : Nat) (hT : Types w) (hF : Forms w) (hf : FldsAt w sv S) (hp : SlS Z w up pv l) :
    Calls Tryd.prog 16 #[.agg #[sv], pv] w (FdPost S l w) := by
  obtain ⟨ao, cap, rfl, hc⟩ := hp.head
  obtain ⟨so, sc, rfl⟩ := RowAt.form hf
  obtain ⟨HB, hxb, hxc⟩ := boxedT w #[.slice so S.length sc] 24
  have c0 := hxc 0 (.slice so S.length sc) rfl
  have SB : ∀ w', Keeps (fun _ => False) (w.alloc (.cells #[.slice so S.length sc] 24)) w' → w'.cell? ⟨w.heap.size, 0, none⟩ = some (.slice so S.length sc) := fun w' hk => (hk.cell hxb id).trans c0
  have HSB := hide SB
  have HCP := hide (copySchema_big _ (.slice so S.length sc) S (hf.keepF (unhide HB)) hlS)
  have HCT := fun w' (hk : Keeps (fun _ => False) w w') => hide (copyStmts_v Z (l.size + 1) l (by omega) hsz w' up (.slice ao l.len cap) (hp.keepF hk))
  have HT := hide hT
  have HFM := hide hF
  have HF := hide hf
  have HP := hide hp
  have hw0 : w.heap.size ≤ w.heap.size := Nat.le_refl _
  clear hT hF hf hp SB hxc
  go_enter Tryd.func16, Tryd.ntmps16
  go_wp2_with (first
    | (go_at_call 22; refine (unhide HCP).mono ?_; rintro e w1 ⟨v', rfl, hown, hk1⟩; obtain ⟨vo, vc, rfl⟩ := (rowAt_own hown).form; have hka := hk1.alloc (.cells #[.slice vo S.length vc] 24); have HFC := hide (RowAt.keepF (rowAt_own hown) ((Keeps.refl _ w1).alloc (.cells #[.slice vo S.length vc] 24)) : RowAt _ _ S.length (fcs S)); have HB2 := hide (heap_alloc_new w1 (.cells #[.slice vo S.length vc] 24)); have y2 := cell_of_blk (unhide HB2) 0; simp at y2; have y1 := unhide HSB _ hka; have HKa := hide ((unhide HB).trans hka); have HKb := hide hka; clear hown hk1 hka)
    | (go_at_call 23; refine (unhide (HCT _ (unhide HKa))).mono ?_; rintro e w2 ⟨pv2, rfl, hs2, hk2⟩; obtain ⟨po, pc, rfl, hpc⟩ := hs2.head; have HPC := hide hs2; have HFC := hide (RowAt.keepF (unhide HFC) hk2); have HB2 := hide ((hk2.block _ (lt_of_block (unhide HB2)) id).trans (unhide HB2)); have y2 := cell_of_blk (unhide HB2) 0; simp at y2; have HKa := hide ((unhide HKa).trans hk2); have HKb := hide ((unhide HKb).trans hk2); have y1 := unhide HSB _ (unhide HKb); clear hs2 hk2)
    | (go_at_call 36; refine (tfields_v _ S l hsz _ _ _ 0 ((unhide HT).keepF (unhide HKa)) ((unhide HFM).keepF (unhide HKa)) (unhide HFC) (unhide HPC)).mono ?_; rintro e w3 ⟨rv, wv, rfl, hrv, hwv, hk3⟩; have HRV := hide (ownsRow_lower hrv (unhide HKa).size); have HWV := hide (ownsRow_lower hwv (unhide HKa).size); have HFC := hide (RowAt.keepF (unhide HFC) hk3); have HPC := hide ((unhide HPC).keepF hk3); have HB2 := hide ((hk3.block _ (lt_of_block (unhide HB2)) id).trans (unhide HB2)); have y2 := cell_of_blk (unhide HB2) 0; simp at y2; have HKa := hide ((unhide HKa).trans hk3); have HKb := hide ((unhide HKb).trans hk3); have y1 := unhide HSB _ (unhide HKb); clear hk3 hrv hwv)
    | (go_at_call 25; refine (eqSchema_any _ _ _ S S (unhide HFC) ((unhide HF).keepF (unhide HKa)) (by unfold maxLen; omega)).mono ?_; rintro e w4 ⟨rfl, hk4⟩; rw [decide_eq_true rfl]; have HRV := hide (ownsRow_kept (unhide HRV) hk4 (fun _ _ => id)); have HWV := hide (ownsRow_kept (unhide HWV) hk4 (fun _ _ => id)); have HPC := hide ((unhide HPC).keepF hk4); have HKa := hide ((unhide HKa).trans hk4); clear hk4)
    | (go_at_call 26; refine (eqStmts_same _ Z (l.size + 1) l (by omega) hsz _ 0 up _ _ (unhide HPC) ((unhide HP).keepF (unhide HKa))).mono ?_; rintro e w5 ⟨rfl, hk5⟩; have HRV := hide (ownsRow_kept (unhide HRV) hk5 (fun _ _ => id)); have HWV := hide (ownsRow_kept (unhide HWV) hk5 (fun _ _ => id)); have HKa := hide ((unhide HKa).trans hk5); clear hk5))
  refine bodyPost_ret (v := .tuple #[rv, wv, .int .i64 (fieldsP S l).2.2]) (by simp [results, go_sem]) rfl ?_
  exact ⟨rv, wv, rfl, unhide HRV, unhide HWV, unhide HKa⟩
end Go.Proofs.YtjhppnecadnekaaDoor
namespace Go.Proofs.YtjhppnecadnekaaDoor
open Go.RowKit Go.Maps

theorem nm_at {l : List Txt} {k : Nat} {x : Txt} (h : l[k]? = some x) : (nmC l)[k]? = some (str x) := by simp [nmC, h]
set_option maxRecDepth 100000 in
set_option maxHeartbeats 4000000 in
theorem eqNames_v (la lb : List Txt) (hl : la.length ≤ 1000) (hl2 : lb.length ≤ 1000) (va vb : Value) (w : World) (ha : RowAt w va la.length (nmC la)) (hb : RowAt w vb lb.length (nmC lb)) :
    Calls Tryd.prog 19 #[va, vb] w fun e w' => e = .returned (.bool (decide (la = lb))) ∧ Keeps (fun _ => False) w w' := by
  obtain ⟨ao, ac, rfl⟩ := RowAt.form ha
  obtain ⟨bo, bc, rfl⟩ := RowAt.form hb
  by_cases hle : la.length = lb.length
  · have hlz : ((la.length : Int) != (lb.length : Int)) = false := by simp [hle]
    have HL := hide hle
    have HA := hide ha
    have HB := hide hb
    clear ha hb hle
    go_enter Tryd.func19, Tryd.ntmps19
    go_wp2_with fail
    go_loopw [5] (fun i wr => ∃ k : Nat, i = .int .i64 k ∧ k ≤ la.length ∧ Hid (la.take k = lb.take k) ∧ Keeps (fun _ => False) w wr) (fun i _ => la.length - (intOf i).toNat)
    case atStart => exact ⟨0, rfl, Nat.zero_le _, rfl, Keeps.refl _ _⟩
    case round =>
      obtain ⟨k, rfl, hk, HE, hkeep⟩ := hrel
      have HK := hide hkeep
      cases h : la[k]? with
      | none =>
        have h1 := get_ge h
        obtain rfl : k = la.length := by omega
        have i1 : ¬ (la.length : Int) < (la.length : Int) := by omega
        clear h h1 hkeep hk
        have he : la = lb := by
          have h := unhide HE
          rw [List.take_length] at h
          have e := unhide HL
          rw [e, List.take_length] at h
          exact h
        have HEQ := hide he
        clear he
        go_wp2_with fail
        go_ret
        exact ⟨ret_bool (decide_eq_true (unhide HEQ)).symm, unhide HK⟩
      | some x =>
        have h1 := get_lt h
        have hlb : k < lb.length := by have := unhide HL; omega
        obtain ⟨y, hy⟩ : ∃ y, lb[k]? = some y := ⟨_, List.getElem?_eq_getElem hlb⟩
        obtain ⟨b, off, c1, e, hbl, hc⟩ := RowAt.cells ((unhide HA).keepF hkeep) (by omega)
        simp at e
        obtain ⟨rfl, rfl⟩ := e
        obtain ⟨b2, off2, c2, e2, hbl2, hc2⟩ := RowAt.cells ((unhide HB).keepF hkeep) (by omega)
        simp at e2
        obtain ⟨rfl, rfl⟩ := e2
        have q0 := hc k (str x) (nm_at h)
        have q1 := hc2 k (str y) (nm_at hy)
        have i1 : (k : Int) < (la.length : Int) := by omega
        have i2 : (k : Int) < (lb.length : Int) := by omega
        have ix0 : (0 : Int) ≤ (k : Int) := by omega
        have HTA := hide (take_snoc _ _ _ h)
        have HTB := hide (take_snoc _ _ _ hy)
        have HX := hide h
        have HY := hide hy
        have e0 : ∀ m : KW wr, m.wd.cell? ⟨b, off + k, none⟩ = some (str x) := fun m => (m.kept.cell hbl id).trans q0
        have e1 : ∀ m : KW wr, m.wd.cell? ⟨b2, off2 + k, none⟩ = some (str y) := fun m => (m.kept.cell hbl2 id).trans q1
        clear h hy hc hc2 hkeep q0 q1
        by_cases hxy : x = y
        · subst hxy
          go_wp2_with fail
          refine region_kept (by kernel_rfl) (by kernel_rfl) ?_
          repeat (go_big_quiet_step (fail))
          refine wpQuiet_nil ?_
          rintro _ ⟨nq, rfl⟩
          have HK1 := hide nq.kept
          go_wp2_with fail
          go_roundw
          case rel => exact ⟨k + 1, by go_num, by omega, hide (by rw [unhide HTA, unhide HTB, unhide HE]), (unhide HK).trans (unhide HK1)⟩
          case measure => simp [intOf]; omega
        · have hne : (x != y) = true := by simpa using hxy
          have hne2 : (x == y) = false := by simpa using hxy
          have hd : la ≠ lb := fun e => hxy (by have h1 := unhide HX; rw [e, unhide HY] at h1; simpa using h1.symm)
          have HDF := hide hd
          clear hxy hd
          go_wp2_with fail
          refine region_kept (by kernel_rfl) (by kernel_rfl) ?_
          repeat (go_big_quiet_step (fail))
          refine wpQuiet_nil ?_
          rintro _ ⟨nq, rfl⟩
          have HK1 := hide nq.kept
          go_wp2_with fail
          go_ret
          exact ⟨ret_bool (decide_eq_false (unhide HDF)).symm, (unhide HK).trans (unhide HK1)⟩
  · have hlz : ((la.length : Int) != (lb.length : Int)) = true := by simp; omega
    have hne : la ≠ lb := fun e => hle (by rw [e])
    rw [decide_eq_false hne]
    clear ha hb
    go_enter Tryd.func19, Tryd.ntmps19
    go_wp2_with fail
    go_ret
    exact ⟨rfl, Keeps.refl _ _⟩
end Go.Proofs.YtjhppnecadnekaaDoor
namespace Go.Proofs.YtjhppnecadnekaaDoor
open Go.RowKit Go.Maps

theorem fieldsP_le (S : List FieldA) (l : SL) : (fieldsP S l).1.length ≤ 8 ∧ (fieldsP S l).2.1.length ≤ 8 := by
  unfold fieldsP
  by_cases hE : (checkP S l).1 = 0
  · rw [if_neg (by simpa using hE)]
    have hS := (checkP_zero hE).1
    unfold schemaB at hS
    simp only [Bool.and_eq_true, decide_eq_true_eq] at hS
    have h8 := hS.1.1.1.2
    exact ⟨Nat.le_trans (pick_le _ _) h8, Nat.le_trans (pick_le _ _) h8⟩
  · rw [if_pos hE]
    exact ⟨Nat.zero_le _, Nat.zero_le _⟩

set_option maxRecDepth 100000 in
set_option maxHeartbeats 4000000 in
theorem fields_walk (S : List FieldA) (hlS : S.length ≤ 4398046511104) (l : SL) (sv pv : Value) (w : World) (hT : Types w) (hF : Forms w) (hf : FldsAt w sv S) (hp : SlS (argZ w.heap.size) w 0 pv l) :
    Calls Tryd.prog 7 #[.agg #[sv], pv] w fun e w' => e = .returned (.bool true) ∧ Keeps (fun _ => False) w w' := by
  obtain ⟨ao, cap, rfl, hc⟩ := hp.head
  obtain ⟨so, sc, rfl⟩ := RowAt.form hf
  obtain ⟨HB, hxb, hxc⟩ := boxedT w #[.slice so S.length sc] 24
  have SB : ∀ w', Keeps (fun _ => False) (w.alloc (.cells #[.slice so S.length sc] 24)) w' → w'.cell? ⟨w.heap.size, 0, none⟩ = some (.slice so S.length sc) := fun w' hk => (hk.cell hxb id).trans (hxc 0 _ rfl)
  have HSB := hide SB
  have HD := hide (deepStmts w.heap.size 0 l (.slice ao l.len cap) _ (by simp) (hp.keepF (unhide HB)))
  have HCH' := fun (hsz : l.size ≤ 4294967294) w' (hk : Keeps (fun _ => False) w w') => hide (lawFields_v (argZ w.heap.size) S hlS l hsz (.slice so S.length sc) (.slice ao l.len cap) w' 0 (hT.keepF hk) (hF.keepF hk) (hf.keepF hk) (hp.keepF hk))
  have HRC' := fun (hsz : l.size ≤ 4294967294) w' (hk : Keeps (fun _ => False) w w') => hide (rfields_v (argZ w.heap.size) S l hsz (.slice so S.length sc) (.slice ao l.len cap) w' 0 (hf.keepF hk) (hp.keepF hk))
  obtain ⟨hl1, hl2⟩ := fieldsP_le S l
  have HL1 := hide hl1
  have HL2 := hide hl2
  clear hT hF hf hp SB hxc hl1 hl2
  go_enter Tryd.func7, Tryd.ntmps7
  go_wp2_with fail
  refine (unhide HD).mono ?_
  rintro e w1 ⟨r, rfl, hk1, hsz⟩
  have HK1 := hide ((unhide HB).trans hk1)
  have HKb := hide hk1
  have y1 := unhide HSB _ hk1
  cases r with
  | true =>
    clear hk1 hsz
    go_wp2_with fail
    go_ret
    exact ⟨rfl, unhide HK1⟩
  | false =>
    have hs : l.size ≤ 4294967294 := by have := hsz rfl; omega
    have HCH := HCH' hs
    have HRC := HRC' hs
    clear HCH' HRC' hk1 hsz hs
    have mk1 : True := trivial
    unfold FdPost at HCH HRC
    generalize fieldsP S l = P at HCH HRC HL1 HL2
    obtain ⟨lr, lw, E⟩ := P
    go_wp2_with (first
      | (go_at_call 16; refine (unhide (HCH _ (unhide HK1))).mono ?_; rintro e w2 ⟨rv, wv, rfl, hrv, hwv, hk2⟩; obtain ⟨ro, rc, rfl⟩ := (rowAt_own hrv).form; obtain ⟨wo, wc, rfl⟩ := (rowAt_own hwv).form; have HRV := hide (rowAt_own hrv); have HWV := hide (rowAt_own hwv); have HK1 := hide ((unhide HK1).trans hk2); have HKb := hide ((unhide HKb).trans hk2); have y2 := unhide HSB _ (unhide HKb); clear hk2 hrv hwv)
      | (go_at_call 20; refine (unhide (HRC _ (unhide HK1))).mono ?_; rintro e w3 ⟨rv2, wv2, rfl, hrv, hwv, hk2⟩; obtain ⟨qo, qc, rfl⟩ := (rowAt_own hrv).form; obtain ⟨vo, vc, rfl⟩ := (rowAt_own hwv).form; have HRV2 := hide (rowAt_own hrv); have HWV2 := hide (rowAt_own hwv); have HRV := hide ((unhide HRV).keepF hk2); have HWV := hide ((unhide HWV).keepF hk2); have HK1 := hide ((unhide HK1).trans hk2); clear hk2 hrv hwv)
      | (clear mk1; go_at_call 19; refine (eqNames_v lr lr (by have := unhide HL1; omega) (by have := unhide HL1; omega) _ _ _ (unhide HRV) (unhide HRV2)).mono ?_; rintro e w4 ⟨rfl, hk2⟩; rw [decide_eq_true rfl]; have HWV := hide ((unhide HWV).keepF hk2); have HWV2 := hide ((unhide HWV2).keepF hk2); have HK1 := hide ((unhide HK1).trans hk2); clear hk2; have mk2 : True := trivial)
      | (clear mk2; go_at_call 19; refine (eqNames_v lw lw (by have := unhide HL2; omega) (by have := unhide HL2; omega) _ _ _ (unhide HWV) (unhide HWV2)).mono ?_; rintro e w5 ⟨rfl, hk2⟩; rw [decide_eq_true rfl]; have HK1 := hide ((unhide HK1).trans hk2); clear hk2))
    go_ret
    exact ⟨rfl, unhide HK1⟩
end Go.Proofs.YtjhppnecadnekaaDoor
namespace Go.Proofs.YtjhppnecadnekaaDoor
open Go.RowKit Go.Maps

/-- T is S without the field of this name. -/
def GoneF (S T : List FieldA) (nm : Txt) : Prop := ∀ x, fieldOf T x = if x = nm then none else fieldOf S x
theorem GoneF.named {S T : List FieldA} {nm : Txt} (h : GoneF S T nm) {x : Txt} (hx : x ≠ nm) : namedK T x = namedK S x := by
  unfold namedK
  rw [h x, if_neg hx]
theorem GoneF.none {S T : List FieldA} {nm : Txt} (h : GoneF S T nm) : namedK T nm = (⟨0, false⟩, 90) := by
  unfold namedK
  rw [h nm, if_pos rfl]
theorem rule_ops (m : Nat) : (match (ruleL[m]?).join with | some .field => decide (m = 4) | some .has => decide (m = 5) | _ => true) = true := by
  have h : ∀ m : Fin 26, (match (ruleL[m.val]?).join with | some .field => decide (m.val = 4) | some .has => decide (m.val = 5) | _ => true) = true := by decide
  by_cases hm : m < 26
  · exact h ⟨m, hm⟩
  · have : ruleL[m]? = none := List.getElem?_eq_none (by show 26 ≤ m; omega)
    rw [this]
    rfl
theorem ruleP_same {S T : List FieldA} {nm : Txt} (h : GoneF S T nm) {op : Int} {s : Txt} (hn : ¬ ((op = 4 ∨ op = 5) ∧ s = nm)) (ks : List KA) : ruleP T op s ks = ruleP S op s ks := by
  have hr := rule_ops op.toNat
  unfold ruleP
  cases hj : (ruleL[op.toNat]?).join with
  | none => rfl
  | some r =>
    rw [hj] at hr
    cases r with
    | field =>
      have e : op.toNat = 4 := by simpa using hr
      exact h.named (fun e2 => hn ⟨Or.inl (by omega), e2⟩)
    | has =>
      have e : op.toNat = 5 := by simpa using hr
      show hasK T s = hasK S s
      unfold hasK
      rw [h.named (fun e2 => hn ⟨Or.inr (by omega), e2⟩)]
    | takes a b => rfl
    | compares a => rfl
    | orElse => rfl
    | pick => rfl
theorem ruleP_gone {S T : List FieldA} {nm : Txt} (h : GoneF S T nm) {op : Int} {s : Txt} (hn : (op = 4 ∨ op = 5) ∧ s = nm) (ks : List KA) : (ruleP T op s ks).2 = 90 := by
  obtain ⟨ho, rfl⟩ := hn
  rcases ho with rfl | rfl
  · show (namedK T s).2 = 90
    rw [h.none]
  · show orI (namedK T s).2 (optI (namedK T s).1) = 90
    rw [h.none]
    rfl
theorem kinds_gone {S T : List FieldA} {nm : Txt} (h : GoneF S T nm) : ∀ l : EL, (kindsP S l).2 = 0 → (cntE l nm = 0 → kindsP T l = kindsP S l) ∧ (0 < cntE l nm → (kindsP T l).2 = 90)
  | .nil, _ => ⟨fun _ => rfl, fun h => by simp [cntE] at h⟩
  | .cons op n s kids rest, h0 => by
    have hk : (kindsP S kids).2 = 0 := by
      by_cases e : (kindsP S kids).2 = 0
      · exact e
      · simp only [kindsP] at h0
        rw [if_pos e] at h0
        exact h0
    have hr : (ruleP S op s (kindsP S kids).1).2 = 0 := by
      by_cases e : (ruleP S op s (kindsP S kids).1).2 = 0
      · exact e
      · simp only [kindsP] at h0
        rw [if_neg (by simpa using hk), if_pos e] at h0
        exact h0
    have hs : (kindsP S rest).2 = 0 := by
      by_cases e : (kindsP S rest).2 = 0
      · exact e
      · simp only [kindsP] at h0
        rw [if_neg (by simpa using hk), if_neg (by simpa using hr), if_pos e] at h0
        exact h0
    have ik := kinds_gone h kids hk
    have ir := kinds_gone h rest hs
    have ec : cntE (.cons op n s kids rest) nm = (if (op = 4 ∨ op = 5) ∧ s = nm then 1 else 0) + cntE kids nm + cntE rest nm := rfl
    by_cases ck : cntE kids nm = 0
    · have e1 := ik.1 ck
      by_cases cn : (op = 4 ∨ op = 5) ∧ s = nm
      · refine ⟨fun e => ?_, fun _ => ?_⟩
        · rw [ec, if_pos cn] at e; omega
        · have e2 := ruleP_gone h cn (kindsP S kids).1
          simp only [kindsP]
          rw [e1, if_neg (by simpa using hk), if_pos (by rw [e2]; decide)]
          exact e2
      · have e2 := ruleP_same h cn (kindsP S kids).1
        rw [if_neg cn] at ec
        refine ⟨fun e => ?_, fun e => ?_⟩
        · have e3 := ir.1 (by omega)
          simp only [kindsP]
          rw [e1, e2, e3]
        · have e3 := ir.2 (by omega)
          simp only [kindsP]
          rw [e1, e2, if_neg (by simpa using hk), if_neg (by simpa using hr), if_pos (by rw [e3]; decide)]
          exact e3
    · have e1 := ik.2 (by omega)
      refine ⟨fun e => by omega, fun _ => ?_⟩
      simp only [kindsP]
      rw [if_pos (by rw [e1]; decide)]
      exact e1
theorem head_gone {S T : List FieldA} {nm : Txt} (h : GoneF S T nm) {op n : Int} {s : Txt} {kids : EL} (h0 : (kindP S op s kids).2 = 0) : (cntE (.cons op n s kids .nil) nm = 0 → kindP T op s kids = kindP S op s kids) ∧ (0 < cntE (.cons op n s kids .nil) nm → (kindP T op s kids).2 = 90) := by
  have hk : (kindsP S kids).2 = 0 := by
    by_cases e : (kindsP S kids).2 = 0
    · exact e
    · unfold kindP at h0
      rw [if_pos e] at h0
      exact h0
  have ik := kinds_gone h kids hk
  have ec : cntE (.cons op n s kids .nil) nm = (if (op = 4 ∨ op = 5) ∧ s = nm then 1 else 0) + cntE kids nm + 0 := rfl
  unfold kindP
  by_cases ck : cntE kids nm = 0
  · have e1 := ik.1 ck
    rw [e1, if_neg (by simpa using hk), if_neg (by simpa using hk)]
    by_cases cn : (op = 4 ∨ op = 5) ∧ s = nm
    · exact ⟨fun e => by rw [ec, if_pos cn] at e; omega, fun _ => ruleP_gone h cn _⟩
    · rw [if_neg cn] at ec
      exact ⟨fun _ => ruleP_same h cn _, fun e => by omega⟩
  · have e1 := ik.2 (by omega)
    refine ⟨fun e => by omega, fun _ => ?_⟩
    rw [if_pos (by rw [e1]; decide)]
    exact e1
end Go.Proofs.YtjhppnecadnekaaDoor
namespace Go.Proofs.YtjhppnecadnekaaDoor
open Go.RowKit Go.Maps

theorem orL_zero {a : Int} {r : List Int} (h : orL (a :: r) = 0) : a = 0 ∧ orL r = 0 := by
  by_cases e : a = 0
  · subst e; exact ⟨rfl, h⟩
  · rw [orL_head e] at h; exact absurd h e
theorem own_gone {S T : List FieldA} {nm : Txt} (h : GoneF S T nm) {op : Int} {f : Txt} {x : EL} {t e : Nat} (hh : headS op f x.len t e = true) (h0 : ownP S op f x = 0) :
    (cntE x nm = 0 → ¬ ((op = 1 ∨ op = 2 ∨ op = 3 ∨ op = 4 ∨ op = 5) ∧ f = nm) → ownP T op f x = 0) ∧ ((0 < cntE x nm ∨ ((op = 1 ∨ op = 2 ∨ op = 3 ∨ op = 4 ∨ op = 5) ∧ f = nm)) → ownP T op f x = 90) := by
  rcases head_open hh with ⟨h1, _, hl⟩ | ⟨rfl, _, rfl⟩ | ⟨h1, rfl⟩ | ⟨rfl, hl⟩
  · obtain ⟨o, n, s, kids, rfl⟩ := EL.one_of hl
    have hz : (namedK S f).2 = 0 ∧ (kindP S o s kids).2 = 0 := by
      rcases h1 with rfl | h1
      · unfold ownP at h0
        rw [if_pos rfl] at h0
        have a := orL_zero h0
        exact ⟨a.1, (orL_zero a.2).1⟩
      · unfold ownP at h0
        rw [if_neg (by omega), if_pos h1] at h0
        have a := orL_zero h0
        exact ⟨a.1, (orL_zero a.2).1⟩
    have hg := head_gone h (n := n) hz.2
    by_cases hf : f = nm
    · subst hf
      refine ⟨fun _ hn => absurd ⟨by omega, rfl⟩ hn, fun _ => ?_⟩
      have e1 : (namedK T f).2 = 90 := by rw [h.none]
      unfold ownP
      rcases h1 with rfl | h1
      · rw [if_pos rfl, e1]; exact orL_head (by decide) _
      · rw [if_neg (by omega), if_pos h1, e1]; exact orL_head (by decide) _
    · have e1 := h.named hf
      refine ⟨fun hc _ => ?_, fun hc => ?_⟩
      · have e2 : headK T (.cons o n s kids .nil) = headK S (.cons o n s kids .nil) := hg.1 hc
        rw [← h0]
        unfold ownP
        rw [e1, e2]
      · have hc' : 0 < cntE (.cons o n s kids .nil) nm := by
          rcases hc with hc | hc
          · exact hc
          · exact absurd hc.2 hf
        have e2 : (headK T (.cons o n s kids .nil)).2 = 90 := hg.2 hc'
        unfold ownP
        rcases h1 with rfl | h1
        · rw [if_pos rfl, e1, hz.1, e2, orL_skip]; exact orL_head (by decide) _
        · rw [if_neg (by omega), if_pos h1, e1, hz.1, e2, orL_skip]; exact orL_head (by decide) _
  · by_cases hf : f = nm
    · subst hf
      refine ⟨fun _ hn => absurd ⟨by omega, rfl⟩ hn, fun _ => ?_⟩
      have e1 : (namedK T f).2 = 90 := by rw [h.none]
      unfold ownP
      rw [if_neg (by decide), if_neg (by decide), if_pos rfl, e1]
      exact orL_head (by decide) _
    · have e1 := h.named hf
      refine ⟨fun _ _ => ?_, fun hc => ?_⟩
      · rw [← h0]
        unfold ownP
        rw [if_neg (by decide), if_neg (by decide), if_pos rfl, if_neg (by decide), if_neg (by decide), if_pos rfl, e1]
      · rcases hc with hc | hc
        · simp [cntE] at hc
        · exact absurd hc.2 hf
  · refine ⟨fun _ _ => ?_, fun hc => ?_⟩
    · unfold ownP
      rw [if_neg (by omega), if_neg (by omega), if_neg (by omega), if_neg (by omega)]
    · rcases hc with hc | hc
      · simp [cntE] at hc
      · omega
  · obtain ⟨o, n, s, kids, rfl⟩ := EL.one_of hl
    have hz : (kindP S o s kids).2 = 0 := by
      unfold ownP at h0
      rw [if_neg (by decide), if_neg (by decide), if_neg (by decide), if_pos rfl] at h0
      exact (orL_zero h0).1
    have hg := head_gone h (n := n) hz
    refine ⟨fun hc _ => ?_, fun hc => ?_⟩
    · have e2 : headK T (.cons o n s kids .nil) = headK S (.cons o n s kids .nil) := hg.1 hc
      rw [← h0]
      unfold ownP
      rw [e2]
      rfl
    · have hc' : 0 < cntE (.cons o n s kids .nil) nm := by
        rcases hc with hc | hc
        · exact hc
        · omega
      have e2 : (headK T (.cons o n s kids .nil)).2 = 90 := hg.2 hc'
      unfold ownP
      rw [if_neg (by decide), if_neg (by decide), if_neg (by decide), if_pos rfl, e2]
      exact orL_head (by decide) _
theorem first_gone {S T : List FieldA} {nm : Txt} (h : GoneF S T nm) {N : Nat} : ∀ (l : SL) (k : Nat), wellF N l → (firstBad S l k).1 = 0 →
    (rdF l nm = 0 → wrF l nm = 0 → firstBad T l k = firstBad S l k) ∧ ((0 < rdF l nm ∨ 0 < wrF l nm) → (firstBad T l k).1 = 90)
  | .nil, k, _, _ => ⟨fun _ _ => rfl, fun h => by rcases h with h | h <;> simp [rdF, wrF] at h⟩
  | .cons op f x t e r, k, hw, h0 => by
    obtain ⟨hh, _, _, hr⟩ := hw
    have ho : ownP S op f x = 0 := by
      by_cases e0 : ownP S op f x = 0
      · exact e0
      · have e1 : firstBad S (.cons op f x t e r) k = (ownP S op f x, k) := if_pos e0
        rw [e1] at h0
        exact h0
    have eS : firstBad S (.cons op f x t e r) k = firstBad S r (k + 1) := if_neg (by simpa using ho)
    rw [eS] at h0 ⊢
    have ih := first_gone h r (k + 1) hr h0
    have hg := own_gone h hh ho
    have er : rdF (.cons op f x t e r) nm = cntE x nm + (if (op = 2 ∨ op = 3 ∨ op = 4) ∧ f = nm then 1 else 0) + rdF r nm := rfl
    have ew : wrF (.cons op f x t e r) nm = (if (op = 1 ∨ op = 2 ∨ op = 3 ∨ op = 4 ∨ op = 5) ∧ f = nm then 1 else 0) + wrF r nm := rfl
    by_cases hn : 0 < cntE x nm ∨ ((op = 1 ∨ op = 2 ∨ op = 3 ∨ op = 4 ∨ op = 5) ∧ f = nm)
    · have e9 := hg.2 hn
      refine ⟨fun a b => ?_, fun _ => ?_⟩
      · rcases hn with hn | hn
        · omega
        · rw [ew, if_pos hn] at b; omega
      · have e1 : firstBad T (.cons op f x t e r) k = (ownP T op f x, k) := if_pos (by rw [e9]; decide)
        rw [e1]
        exact e9
    · have hc : cntE x nm = 0 := by
        by_cases e0 : 0 < cntE x nm
        · exact absurd (Or.inl e0) hn
        · omega
      have hf : ¬ ((op = 1 ∨ op = 2 ∨ op = 3 ∨ op = 4 ∨ op = 5) ∧ f = nm) := fun e0 => hn (Or.inr e0)
      have e9 := hg.1 hc hf
      have e1 : firstBad T (.cons op f x t e r) k = firstBad T r (k + 1) := if_neg (by simpa using e9)
      rw [if_neg hf] at ew
      rw [if_neg (fun e0 => hf ⟨by omega, e0.2⟩)] at er
      rw [e1]
      exact ⟨fun a b => ih.1 (by omega) (by omega), fun a => ih.2 (by omega)⟩
end Go.Proofs.YtjhppnecadnekaaDoor
namespace Go.Proofs.YtjhppnecadnekaaDoor
open Go.RowKit Go.Maps

theorem schema_parts {S : List FieldA} (h : schemaB S = true) : 1 ≤ S.length ∧ S.length ≤ 8 ∧ S.all fieldOK = true ∧ (S.map FieldA.name).Nodup ∧ widthB S ≤ 64 := by
  unfold schemaB at h
  simp only [Bool.and_eq_true, decide_eq_true_eq] at h
  exact ⟨h.1.1.1.1, h.1.1.1.2, h.1.1.2, h.1.2, h.2⟩
theorem schema_of {S : List FieldA} (h : 1 ≤ S.length ∧ S.length ≤ 8 ∧ S.all fieldOK = true ∧ (S.map FieldA.name).Nodup ∧ widthB S ≤ 64) : schemaB S = true := by
  unfold schemaB
  simp only [Bool.and_eq_true, decide_eq_true_eq]
  exact ⟨⟨⟨⟨h.1, h.2.1⟩, h.2.2.1⟩, h.2.2.2.1⟩, h.2.2.2.2⟩
theorem names_apart {A B : List FieldA} {d : FieldA} (h : ((A ++ d :: B).map FieldA.name).Nodup) : (∀ g ∈ A, g.name ≠ d.name) ∧ (∀ g ∈ B, g.name ≠ d.name) ∧ ((A ++ B).map FieldA.name).Nodup := by
  rw [List.map_append, List.map_cons, List.nodup_append] at h
  obtain ⟨h1, h2, h3⟩ := h
  rw [List.nodup_cons] at h2
  refine ⟨fun g hg e => h3 g.name (List.mem_map_of_mem hg) d.name (by simp) e, fun g hg e => h2.1 (by rw [← e]; exact List.mem_map_of_mem hg), ?_⟩
  rw [List.map_append, List.nodup_append]
  exact ⟨h1, h2.2, fun a ha b hb => h3 a ha b (by simp at hb ⊢; exact Or.inr hb)⟩
theorem gone_of {A B : List FieldA} {d : FieldA} (h : ((A ++ d :: B).map FieldA.name).Nodup) : GoneF (A ++ d :: B) (A ++ B) d.name := by
  obtain ⟨h1, h2, _⟩ := names_apart h
  intro x
  by_cases hx : x = d.name
  · rw [if_pos hx]
    subst hx
    exact fieldOf_none (fun g hg => by
      rcases List.mem_append.1 hg with hg | hg
      · exact h1 g hg
      · exact h2 g hg)
  · rw [if_neg hx]
    unfold fieldOf
    rw [List.find?_append, List.find?_append, List.find?_cons]
    have : decide (d.name = x) = false := by simp; exact fun e => hx e.symm
    rw [this]
theorem schema_gone {A B : List FieldA} {d : FieldA} (h : schemaB (A ++ d :: B) = true) (h2 : 2 ≤ (A ++ d :: B).length) : schemaB (A ++ B) = true := by
  obtain ⟨_, a2, a3, a4, a5⟩ := schema_parts h
  simp only [List.length_append, List.length_cons] at a2 h2
  simp only [List.all_append, List.all_cons, Bool.and_eq_true] at a3
  refine schema_of ⟨by simp; omega, by simp; omega, by simp only [List.all_append, Bool.and_eq_true]; exact ⟨a3.1, a3.2.2⟩, (names_apart a4).2.2, ?_⟩
  have hd : 0 ≤ wideB d.type := by
    have := a3.2.1
    unfold fieldOK at this
    simp only [Bool.and_eq_true, decide_eq_true_eq] at this
    exact this.2
  have ho : opts (A ++ B) ≤ opts (A ++ d :: B) := by
    unfold opts
    rw [List.filter_append, List.filter_append, List.length_append, List.length_append, List.filter_cons]
    split <;> simp
  have hw : wides (A ++ d :: B) = wides (A ++ B) + wideB d.type := by
    simp only [wides, List.map_append, List.map_cons, List.sum_append, List.sum_cons]
    omega
  unfold widthB headB at a5 ⊢
  omega
theorem pick_gone {A B : List FieldA} {d : FieldA} {p : Txt → Bool} (h : p d.name = false) : pick (A ++ B) p = pick (A ++ d :: B) p := by
  unfold pick
  rw [List.map_append, List.map_append, List.filter_append, List.filter_append, List.map_cons, List.filter_cons, h]
  rfl
/-- What the program needs. -/
theorem needs_pure {A B : List FieldA} {d : FieldA} {l : SL} (hsz : l.size ≤ 4294967294) (h0 : (checkP (A ++ d :: B) l).1 = 0) (h2 : 2 ≤ (A ++ d :: B).length) :
    ((0 < rdF (flatS l) d.name ∨ 0 < wrF (flatS l) d.name) → (fieldsP (A ++ B) l).2.2 = 90) ∧
    (¬ (0 < rdF (flatS l) d.name ∨ 0 < wrF (flatS l) d.name) → fieldsP (A ++ B) l = fieldsP (A ++ d :: B) l ∧ (fieldsP (A ++ B) l).2.2 = 0) := by
  obtain ⟨hS, hC⟩ := checkP_zero h0
  have hT := schema_gone hS h2
  have hw := flat_well (N := 4294967294) l hsz (checkS_well hC)
  have eS : checkP (A ++ d :: B) l = firstBad (A ++ d :: B) (flatS l) 0 := by
    unfold checkP
    rw [errS_good hS, if_neg (by simp), if_neg (by simpa using hC)]
  have eT : checkP (A ++ B) l = firstBad (A ++ B) (flatS l) 0 := by
    unfold checkP
    rw [errS_good hT, if_neg (by simp), if_neg (by simpa using hC)]
  have hg := first_gone (gone_of (schema_parts hS).2.2.2.1) (flatS l) 0 hw (by rw [← eS]; exact h0)
  refine ⟨fun hn => ?_, fun hn => ?_⟩
  · have e9 := hg.2 hn
    unfold fieldsP
    rw [eT, if_pos (by rw [e9]; decide)]
    exact e9
  · have e0 := hg.1 (by omega) (by omega)
    have h0' : (checkP (A ++ B) l).1 = 0 := by rw [eT, e0, ← eS]; exact h0
    have f1 : fieldsP (A ++ B) l = (pick (A ++ B) (fun s => decide (0 < rdF (flatS l) s)), pick (A ++ B) (fun s => decide (0 < wrF (flatS l) s)), 0) := by
      unfold fieldsP
      rw [if_neg (by simpa using h0')]
    have f2 : fieldsP (A ++ d :: B) l = (pick (A ++ d :: B) (fun s => decide (0 < rdF (flatS l) s)), pick (A ++ d :: B) (fun s => decide (0 < wrF (flatS l) s)), 0) := by
      unfold fieldsP
      rw [if_neg (by simpa using h0)]
    refine ⟨?_, by rw [f1]⟩
    have g1 : decide (0 < rdF (flatS l) d.name) = false := decide_eq_false (fun e => hn (Or.inl e))
    have g2 : decide (0 < wrF (flatS l) d.name) = false := decide_eq_false (fun e => hn (Or.inr e))
    rw [f1, f2, pick_gone (A := A) (B := B) (d := d) (p := fun s => decide (0 < rdF (flatS l) s)) g1, pick_gone (A := A) (B := B) (d := d) (p := fun s => decide (0 < wrF (flatS l) s)) g2]
/-- Is a name of the schema among the names? -/
theorem mem_pick {A B : List FieldA} {d : FieldA} {p : Txt → Bool} : (d.name ∈ pick (A ++ d :: B) p) ↔ p d.name = true := by
  unfold pick
  rw [List.mem_filter]
  exact ⟨fun h => h.2, fun h => ⟨by simp, h⟩⟩
end Go.Proofs.YtjhppnecadnekaaDoor
namespace Go.Proofs.YtjhppnecadnekaaDoor
open Go.RowKit Go.Maps

/-- The fields ahead of j but k. -/
def sk (S : List FieldA) (k : Nat) : Nat → List FieldA
  | 0 => []
  | j + 1 => if j = k then sk S k j else sk S k j ++ (S[j]?).toList
theorem sk_len (S : List FieldA) (k : Nat) : ∀ j, (sk S k j).length ≤ j
  | 0 => Nat.le_refl _
  | j + 1 => by
    have := sk_len S k j
    unfold sk
    split
    · omega
    · cases S[j]? <;> simp <;> omega
theorem sk_lo (A B : List FieldA) (d : FieldA) : ∀ j, j ≤ A.length → sk (A ++ d :: B) A.length j = A.take j
  | 0, _ => by simp [sk]
  | j + 1, h => by
    unfold sk
    rw [if_neg (by omega), sk_lo A B d j (by omega), List.getElem?_append_left (by omega), List.take_add_one]
theorem sk_hi (A B : List FieldA) (d : FieldA) : ∀ m, sk (A ++ d :: B) A.length (A.length + 1 + m) = A ++ B.take m
  | 0 => by
    show sk (A ++ d :: B) A.length (A.length + 1) = _
    unfold sk
    rw [if_pos rfl, sk_lo A B d _ (Nat.le_refl _)]
    simp
  | m + 1 => by
    show sk (A ++ d :: B) A.length ((A.length + 1 + m) + 1) = _
    unfold sk
    rw [if_neg (by omega), sk_hi A B d m, List.getElem?_append_right (by omega), List.take_add_one, List.append_assoc]
    rw [show A.length + 1 + m - A.length = m + 1 by omega]
    rfl
theorem sk_all (A B : List FieldA) (d : FieldA) : sk (A ++ d :: B) A.length (A ++ d :: B).length = A ++ B := by
  have := sk_hi A B d B.length
  rw [List.take_length] at this
  rw [← this]
  congr 1
  simp
  omega

end Go.Proofs.YtjhppnecadnekaaDoor
namespace Go.Proofs.YtjhppnecadnekaaDoor
open Go.RowKit Go.Maps

theorem mem_take_snoc {l : List Txt} {k : Nat} {y x : Txt} (h : l[k]? = some y) (h1 : x ∉ l.take k) (h2 : ¬ y = x) : x ∉ l.take (k + 1) := by
  rw [take_snoc _ _ _ h]
  intro e
  rcases List.mem_append.1 e with e | e
  · exact h1 e
  · simp at e
    exact h2 e.symm
set_option maxRecDepth 100000 in
set_option maxHeartbeats 4000000 in
theorem has_v (la lb : List Txt) (hl : la.length ≤ 1000) (hl2 : lb.length ≤ 1000) (x : Txt) (va vb : Value) (w : World) (ha : RowAt w va la.length (nmC la)) (hb : RowAt w vb lb.length (nmC lb)) :
    Calls Tryd.prog 18 #[va, vb, str x] w fun e w' => e = .returned (.bool (decide (x ∈ la) || decide (x ∈ lb))) ∧ Keeps (fun _ => False) w w' := by
  obtain ⟨ao, ac, rfl⟩ := RowAt.form ha
  obtain ⟨bo, bc, rfl⟩ := RowAt.form hb
  have HA := hide ha
  have HB := hide hb
  clear ha hb
  go_enter Tryd.func18, Tryd.ntmps18
  go_wp2_with fail
  go_loopw [7] (fun i wr => ∃ k : Nat, i = .int .i64 k ∧ k ≤ la.length ∧ Hid (x ∉ la.take k) ∧ Keeps (fun _ => False) w wr) (fun i _ => la.length - (intOf i).toNat)
  case atStart => exact ⟨0, rfl, Nat.zero_le _, hide (by simp), Keeps.refl _ _⟩
  case round =>
    obtain ⟨k, rfl, hk, HE, hkeep⟩ := hrel
    have HK := hide hkeep
    cases h : la[k]? with
    | none =>
      have h1 := get_ge h
      obtain rfl : k = la.length := by omega
      have i1 : ¬ (la.length : Int) < (la.length : Int) := by omega
      rw [List.take_length] at HE
      clear h h1 hkeep hk
      rename World => wo
      go_wp2_with fail
      go_loopw [8] (fun i wr => ∃ k : Nat, i = .int .i64 k ∧ k ≤ lb.length ∧ Hid (x ∉ lb.take k) ∧ Keeps (fun _ => False) w wr) (fun i _ => lb.length - (intOf i).toNat)
      case atStart => exact ⟨0, rfl, Nat.zero_le _, hide (by simp), unhide HK⟩
      case round =>
        obtain ⟨k, rfl, hk, HE2, hkeep⟩ := hrel
        have HK2 := hide hkeep
        cases h : lb[k]? with
        | none =>
          have h1 := get_ge h
          obtain rfl : k = lb.length := by omega
          have i2 : ¬ (lb.length : Int) < (lb.length : Int) := by omega
          rw [List.take_length] at HE2
          clear h h1 hkeep hk
          go_wp2_with fail
          go_ret
          exact ⟨ret_bool (by rw [decide_eq_false (unhide HE), decide_eq_false (unhide HE2)]; rfl), unhide HK2⟩
        | some y =>
          have h1 := get_lt h
          obtain ⟨b, off, c1, e, hbl, hc⟩ := RowAt.cells ((unhide HB).keepF hkeep) (by omega)
          simp at e
          obtain ⟨rfl, rfl⟩ := e
          have q0 := hc k (str y) (nm_at h)
          have i2 : (k : Int) < (lb.length : Int) := by omega
          have ix0 : (0 : Int) ≤ (k : Int) := by omega
          have HX := hide h
          clear h hc hkeep
          by_cases hxy : y = x
          · subst hxy
            go_wp2_with fail
            go_ret
            exact ⟨ret_bool (by rw [decide_eq_true (List.mem_of_getElem? (unhide HX))]; simp), unhide HK2⟩
          · have hne : (y == x) = false := by simpa using hxy
            have HN := hide hxy
            clear hxy
            go_wp2_with fail
            go_roundw
            case rel => exact ⟨k + 1, by go_num, by omega, hide (mem_take_snoc (unhide HX) (unhide HE2) (unhide HN)), unhide HK2⟩
            case measure => simp [intOf]; omega
    | some y =>
      have h1 := get_lt h
      obtain ⟨b, off, c1, e, hbl, hc⟩ := RowAt.cells ((unhide HA).keepF hkeep) (by omega)
      simp at e
      obtain ⟨rfl, rfl⟩ := e
      have q0 := hc k (str y) (nm_at h)
      have i1 : (k : Int) < (la.length : Int) := by omega
      have ix0 : (0 : Int) ≤ (k : Int) := by omega
      have HX := hide h
      clear h hc hkeep
      by_cases hxy : y = x
      · subst hxy
        go_wp2_with fail
        go_ret
        exact ⟨ret_bool (by rw [decide_eq_true (List.mem_of_getElem? (unhide HX))]; simp), unhide HK⟩
      · have hne : (y == x) = false := by simpa using hxy
        have HN := hide hxy
        clear hxy
        go_wp2_with fail
        go_roundw
        case rel => exact ⟨k + 1, by go_num, by omega, hide (mem_take_snoc (unhide HX) (unhide HE) (unhide HN)), unhide HK⟩
        case measure => simp [intOf]; omega
end Go.Proofs.YtjhppnecadnekaaDoor
namespace Go.Proofs.YtjhppnecadnekaaDoor
open Go.RowKit Go.Maps

set_option maxRecDepth 100000 in
set_option maxHeartbeats 8000000 in
theorem without_v (w : World) (v : Value) (l : List FieldA) (kk : Nat) (h : FldsAt w v l) (hl : l.length ≤ 8) :
    Calls Tryd.prog 17 #[.agg #[v], .int .i64 kk] w fun e w' => ∃ v', e = .returned (.agg #[v']) ∧ w'.ownsRow w.heap.size 45 3 v' (sk l kk l.length).length (fcs (sk l kk l.length)) ∧ Keeps (fun _ => False) w w' := by
  obtain ⟨i0, hi, hz0, hz1, hz2⟩ := info_parts Tryd.info45
  obtain ⟨ao, cap, rfl⟩ := RowAt.form h
  obtain ⟨w3, hw3⟩ : ∃ w3, w3 = ((w.alloc (.cells #[.slice ao l.length cap] 24)).alloc (.cells #[.slice none 0 0] 24)).alloc (.cells #[.slice none 0 0] 24) := ⟨_, rfl⟩
  have hK : Keeps (fun _ => False) w w3 := by rw [hw3]; exact (((Keeps.refl _ _).alloc _).alloc _).alloc _
  have hs3 : w3.heap.size = w.heap.size + 3 := by rw [hw3]; simp
  have b0 : w3.heap[w.heap.size]? = some (.cells #[.slice ao l.length cap] 24 (0, 0)) := by
    rw [hw3, Below.heap_alloc _ _ _ (by simp; omega), Below.heap_alloc _ _ _ (by simp)]
    exact heap_alloc_new w _
  have b1 : w3.heap[w.heap.size + 1]? = some (.cells #[.slice none 0 0] 24 (0, 0)) := by
    rw [hw3, Below.heap_alloc _ _ _ (by simp)]
    have := heap_alloc_new (w.alloc (.cells #[.slice ao l.length cap] 24)) (.cells #[.slice none 0 0] 24)
    simpa using this
  have b2 : w3.heap[w.heap.size + 1 + 1]? = some (.cells #[.slice none 0 0] 24 (0, 0)) := by
    rw [hw3]
    have := heap_alloc_new ((w.alloc (.cells #[.slice ao l.length cap] 24)).alloc (.cells #[.slice none 0 0] 24)) (.cells #[.slice none 0 0] 24)
    simpa using this
  have HF := hide (h.keepF hK)
  have HW := hide hw3
  have HK := hide hK
  have HL := hide hl
  have B0 := hide b0
  have B1 := hide b1
  have B2 := hide b2
  have HS := hide hs3
  clear h hw3 hK b0 b1 b2 hs3 hl
  have hl' : l.length ≤ 9223372036854775807 := by have := unhide HL; omega
  go_enter Tryd.func17, Tryd.ntmps17
  go_wp2
  rw [← unhide HW]
  go_loopw [6] (fun i wr => ∃ (k : Nat) (o : Value), k ≤ l.length ∧ i = .int .i64 k ∧ wr.heap[w.heap.size + 1 + 1]? = some (.cells #[o] 24 (0, 0)) ∧ wr.ownsRow w3.heap.size 45 3 o (sk l kk k).length (fcs (sk l kk k)) ∧ Keeps (fun q => q = w.heap.size + 1 + 1) w3 wr) (fun i _ => l.length - (intOf i).toNat)
  case atStart => exact ⟨0, _, Nat.zero_le _, rfl, unhide B2, World.ownsRow_nil w3 w3.heap.size 45 3, Keeps.refl _ _⟩
  case round =>
    obtain ⟨k, o, hk, rfl, hbo, hown, hkp⟩ := hrel
    obtain ⟨oo, oc, rfl⟩ := (rowAt_own hown).form
    have HBo := hide hbo
    have HO := hide hown
    have HP := hide hkp
    have p0 : wr.cell? ⟨w.heap.size, 0, none⟩ = some (.slice ao l.length cap) := (hkp.cell (lt_of_block (unhide B0)) (by show ¬ _ = _; omega)).trans (by rw [cell_of_blk (unhide B0)]; rfl)
    have p2 : wr.cell? ⟨w.heap.size + 1 + 1, 0, none⟩ = some (.slice oo (sk l kk k).length oc) := by rw [cell_of_blk hbo]; rfl
    have f2 := frozen_of_blk hbo 0
    have z2 := lt_of_block hbo
    have z0 : w.heap.size < wr.heap.size := by omega
    have hsl := sk_len l kk k
    by_cases hlt : k < l.length
    · by_cases hkk : k = kk
      · have e1 : ((k : Int) != (kk : Int)) = false := by simp [hkk]
        have HE : Hid (sk l kk (k + 1) = sk l kk k) := if_pos hkk
        have i1 : (k : Int) < (l.length : Int) := by omega
        clear hbo hown hkp hkk
        go_wp2_with fail
        go_roundw
        case rel => exact ⟨k + 1, _, by omega, by go_num, unhide HBo, by rw [unhide HE]; exact unhide HO, unhide HP⟩
        case measure => simp [intOf]; omega
      have e1 : ((k : Int) != (kk : Int)) = true := by simp; omega
      have HE0 : Hid (sk l kk (k + 1) = sk l kk k ++ (l[k]?).toList) := if_neg hkk
      clear hkk
      obtain ⟨b, off, c1, e1, hbl, hc⟩ := (unhide HF).cells (by omega)
      simp at e1
      obtain ⟨rfl, rfl⟩ := e1
      obtain ⟨f, hf⟩ : ∃ f, l[k]? = some f := ⟨_, List.getElem?_eq_getElem hlt⟩
      have hbne : b ≠ w.heap.size + 1 + 1 := by
        rintro rfl
        have h1 := (hc k f hf).2.1
        have h2 := (hc k f hf).2.2
        rw [cell_of_blk (unhide B2)] at h1 h2
        rw [Array.getElem?_eq_none (by simp)] at h2
        cases h2
      have c0 := (hkp.cell hbl (by show ¬ _ = _; omega)).trans (hc k f hf).1
      have c1 := (hkp.cell hbl (by show ¬ _ = _; omega)).trans (hc k f hf).2.1
      have c2 := (hkp.cell hbl (by show ¬ _ = _; omega)).trans (hc k f hf).2.2
      have z1 : b < wr.heap.size := Nat.lt_of_lt_of_le hbl hkp.size
      have HX : Hid (sk l kk (k + 1) = sk l kk k ++ [f]) := by have e := unhide HE0; rw [hf] at e; exact e
      have HN := hide (ownsRow_ne hown hbo (by decide))
      have i1 : (k : Int) < (l.length : Int) := by omega
      have i0' : (0 : Int) ≤ (k : Int) := by omega
      clear hc hf hbo hown hkp
      go_wp2_with fail
      go_region_law (first
        | (refine step_append_lies _ (by rfl) _ _ _ (by rfl) w3.heap.size 45 i0 _ 3 32 Tryd.underlying22 hi hz0 hz1 hz2 rfl (by omega) (.slice oo (sk l kk k).length oc) (sk l kk k).length (fcs (sk l kk k)) (by rfl) (((unhide HO).alloc _).drew)
            ⟨wr.heap.size, 0, none⟩ 1 1 f.cs (by rfl) (by rfl) (World.news_of_block (cs := #[str f.name, .int .i64 f.type, .bool f.opt]) (t := 45) (fr := (0, 0)) (by exact heap_alloc_new wr _)) (by simp [Value.oneCell', FieldA.cs])
            (by omega) (by unfold maxLen; omega) (by have := unhide HL; omega) (by have := (unhide HP).size; simp; omega) (wr.heap.size + 1) (by simp) ?_; intro g cap' w5 hown2 hgrow hat hlt2
           have f2' : w5.frozen? ⟨w.heap.size + 1 + 1, 0, none⟩ = false := by (rw [hgrow.frozen_far _ (by simp; omega) (Ne.symm (unhide HN))]; simpa [World.frozen?_alloc_past, z2] using f2)
           have p2' : w5.cell? ⟨w.heap.size + 1 + 1, 0, none⟩ = some (.slice oo (sk l kk k).length oc) := by (rw [hgrow.cell_far _ (by simp; omega) (Ne.symm (unhide HN))]; simpa [World.cell?_alloc_past, z2] using p2)))
      all_goals
        have hb5 : w5.heap[w.heap.size + 1 + 1]? = some (.cells #[.slice oo (sk l kk k).length oc] 24 (0, 0)) := by
          rw [hgrow.block (w.heap.size + 1 + 1) (by simp; omega) (Ne.symm (unhide HN))]
          show (wr.alloc _).heap[w.heap.size + 1 + 1]? = _
          rw [Below.heap_alloc _ _ _ z2]
          exact unhide HBo
        have H5 := hide hb5
        have HO2 := hide hown2
        have HG2 := hide hgrow
        clear hb5 hown2 hgrow
        go_wp2
        go_roundw
        case rel =>
          refine ⟨k + 1, .slice (some ⟨g, 0, none⟩) ((sk l kk k).length + 1) cap', by omega, by go_num, ?_, ?_, ?_⟩
          · rw [heap_setCell_at (unhide H5)]; rfl
          · rw [unhide HX, List.length_append]
            have h1 : w5.ownsRow w3.heap.size 45 3 (.slice (some ⟨g, 0, none⟩) ((sk l kk k).length + 1) cap') ((sk l kk k).length + [f].length) (fcs (sk l kk k ++ [f])) := by simpa [fcs] using unhide HO2
            exact ownsRow_kept (F := fun q => q = w.heap.size + 1 + 1) h1 (keeps_set w5 _ 0 _) (fun q e e2 => by subst e2; exact ownsRow_ne h1 (unhide H5) (by decide) e)
          · exact ((((unhide HP).alloc _).drew).grown (unhide HG2) (fun q e hq => by have := ((unhide HO).lt q e).1; omega)).setCell (fun _ => rfl) _
        case measure => simp [intOf]; omega
    · obtain rfl : k = l.length := by omega
      have hb1 : wr.heap[w.heap.size + 1]? = some (.cells #[.slice none 0 0] 24 (0, 0)) := by rw [hkp.block _ (lt_of_block (unhide B1)) (by show ¬ _ = _; omega)]; exact unhide B1
      have p1 : wr.cell? ⟨w.heap.size + 1, 0, none⟩ = some (.slice none 0 0) := by rw [cell_of_blk hb1]; rfl
      have f1 := frozen_of_blk hb1 0
      have H1 := hide hb1
      have HN1 := hide (ownsRow_ne hown hb1 (by decide))
      clear hb1 hown hkp hbo
      go_wp2
      have hq : (wr.setCell ⟨w.heap.size + 1, 0, none⟩ (.slice oo (sk l kk l.length).length oc)).cell? ⟨w.heap.size + 1, 0, none⟩ = some (.slice oo (sk l kk l.length).length oc) := by rw [cell_of_blk (heap_setCell_at (unhide H1) _)]; rfl
      refine bodyPost_ret (v := .agg #[.slice oo (sk l kk l.length).length oc]) (by simp [results, go_sem, hq]) rfl ?_
      refine ⟨.slice oo (sk l kk l.length).length oc, rfl, ?_, ?_⟩
      · have h1 := unhide HO
        exact ownsRow_lower (ownsRow_kept (F := fun q => q = w.heap.size + 1) h1 (keeps_set wr _ 0 _) (fun q e e2 => unhide HN1 (by rw [← e2]; exact e))) (unhide HK).size
      · exact (unhide HK).narrow (F := fun q => q = w.heap.size + 1 + 1 ∨ q = w.heap.size + 1) (((unhide HP).mono (fun q _ h => Or.inl h)).then (keeps_set wr (w.heap.size + 1) 0 _) (fun q _ h => Or.inr h)) (fun q h => by omega)
end Go.Proofs.YtjhppnecadnekaaDoor
namespace Go.Proofs.YtjhppnecadnekaaDoor
open Go.RowKit Go.Maps

theorem fieldsP_bad {S : List FieldA} (h : schemaB S = false) {l : SL} : fieldsP S l = ([], [], 60) := by
  have e : checkP S l = (60, 0) := by
    unfold checkP
    rw [errS_bad h, if_pos (by decide)]
  unfold fieldsP
  rw [e, if_pos (by decide)]
theorem fieldsP_nil {S : List FieldA} (h : schemaB S = true) : fieldsP S .nil = ([], [], 0) := by
  have e : checkP S .nil = (0, 0) := by
    unfold checkP
    rw [errS_good h, if_neg (by simp), if_neg (by decide)]
    rfl
  have z1 : pick S (fun s => decide (0 < rdF (flatS .nil) s)) = [] := by simp [pick, flatS, rdF]
  have z2 : pick S (fun s => decide (0 < wrF (flatS .nil) s)) = [] := by simp [pick, flatS, wrF]
  unfold fieldsP
  rw [e, if_neg (by decide), z1, z2]

set_option maxRecDepth 100000 in
set_option maxHeartbeats 4000000 in
theorem needs_bad (S : List FieldA) (hlS : S.length ≤ 4398046511104) (l : SL) (sv pv : Value) (w : World) (hT : Types w) (hF : Forms w) (hf : FldsAt w sv S) (hp : SlS (argZ w.heap.size) w 0 pv l) (hS : schemaB S = false) :
    Calls Tryd.prog 6 #[.agg #[sv], pv] w fun e w' => e = .returned (.bool true) ∧ Keeps (fun _ => False) w w' := by
  obtain ⟨ao, cap, rfl, hc⟩ := hp.head
  obtain ⟨so, sc, rfl⟩ := RowAt.form hf
  obtain ⟨HB, hxb, hxc⟩ := boxedT w #[.slice so S.length sc] 24
  have SB : ∀ w', Keeps (fun _ => False) (w.alloc (.cells #[.slice so S.length sc] 24)) w' → w'.cell? ⟨w.heap.size, 0, none⟩ = some (.slice so S.length sc) := fun w' hk => (hk.cell hxb id).trans (hxc 0 _ rfl)
  have HSB := hide SB
  have HD := hide (deepStmts w.heap.size 0 l (.slice ao l.len cap) _ (by simp) (hp.keepF (unhide HB)))
  have HCS := fun w' (hk : Keeps (fun _ => False) w w') => hide (checkSchema_any S (.slice so S.length sc) w' (hf.keepF hk))
  have HFN := fun w' (hk : Keeps (fun _ => False) w w') => hide (lawFields_v (argZ w.heap.size) S hlS .nil (Nat.zero_le _) (.slice so S.length sc) (.slice none 0 0) w' 0 (hT.keepF hk) (hF.keepF hk) (hf.keepF hk) ⟨none, 0, rfl, Nat.le_refl _, fun h => absurd rfl h⟩)
  rw [errS_bad hS] at HCS
  unfold FdPost at HFN
  rw [fieldsP_bad hS] at HFN
  have mk1 : True := trivial
  clear hT hF hf hp SB hxc hS
  go_enter Tryd.func6, Tryd.ntmps6
  go_wp2_with fail
  refine (unhide HD).mono ?_
  rintro e w1 ⟨r, rfl, hk1, hsz⟩
  have HK1 := hide ((unhide HB).trans hk1)
  have HKb := hide hk1
  have y1 := unhide HSB _ hk1
  cases r with
  | true =>
    clear hk1 hsz
    go_wp2_with fail
    go_ret
    exact ⟨rfl, unhide HK1⟩
  | false =>
    clear hk1 hsz
    go_wp2_with (first
      | (go_at_call 10; refine (unhide (HCS _ (unhide HK1))).mono ?_; rintro e w2 ⟨rfl, hk2⟩; have HK1 := hide ((unhide HK1).trans hk2); have HKb := hide ((unhide HKb).trans hk2); have y2 := unhide HSB _ (unhide HKb); clear hk2)
      | (clear mk1; go_at_call 16; refine (unhide (HFN _ (unhide HK1))).mono ?_; rintro e w3 ⟨rv, wv, rfl, hrv, hwv, hk2⟩; obtain ⟨ro, rc, rfl⟩ := (rowAt_own hrv).form; obtain ⟨wo, wc, rfl⟩ := (rowAt_own hwv).form; have HK1 := hide ((unhide HK1).trans hk2); have HKb := hide ((unhide HKb).trans hk2); have y3 := unhide HSB _ (unhide HKb); clear hk2 hrv hwv; have mk2 : True := trivial))
    go_ret
    exact ⟨rfl, unhide HK1⟩

set_option maxRecDepth 100000 in
set_option maxHeartbeats 8000000 in
theorem needs_fit (S : List FieldA) (hlS : S.length ≤ 4398046511104) (l : SL) (sv pv : Value) (w : World) (hT : Types w) (hF : Forms w) (hf : FldsAt w sv S) (hp : SlS (argZ w.heap.size) w 0 pv l) (hS : schemaB S = true) :
    Calls Tryd.prog 6 #[.agg #[sv], pv] w fun e w' => e = .returned (.bool true) ∧ Keeps (fun _ => False) w w' := by
  obtain ⟨ao, cap, rfl, hc⟩ := hp.head
  obtain ⟨so, sc, rfl⟩ := RowAt.form hf
  obtain ⟨HB, hxb, hxc⟩ := boxedT w #[.slice so S.length sc] 24
  have SB : ∀ w', Keeps (fun _ => False) (w.alloc (.cells #[.slice so S.length sc] 24)) w' → w'.cell? ⟨w.heap.size, 0, none⟩ = some (.slice so S.length sc) := fun w' hk => (hk.cell hxb id).trans (hxc 0 _ rfl)
  have HSB := hide SB
  have HD := hide (deepStmts w.heap.size 0 l (.slice ao l.len cap) _ (by simp) (hp.keepF (unhide HB)))
  have HCS := fun w' (hk : Keeps (fun _ => False) w w') => hide (checkSchema_any S (.slice so S.length sc) w' (hf.keepF hk))
  have HFN := fun w' (hk : Keeps (fun _ => False) w w') => hide (lawFields_v (argZ w.heap.size) S hlS .nil (Nat.zero_le _) (.slice so S.length sc) (.slice none 0 0) w' 0 (hT.keepF hk) (hF.keepF hk) (hf.keepF hk) ⟨none, 0, rfl, Nat.le_refl _, fun h => absurd rfl h⟩)
  rw [errS_good hS] at HCS
  unfold FdPost at HFN
  rw [fieldsP_nil hS] at HFN
  have HCH' := fun (hsz : l.size ≤ 4294967294) w' (hk : Keeps (fun _ => False) w w') => hide (lawCheck_v (argZ w.heap.size) S hlS l hsz (.slice so S.length sc) (.slice ao l.len cap) w' 0 (hT.keepF hk) (hF.keepF hk) (hf.keepF hk) (hp.keepF hk))
  have HFL' := fun (hsz : l.size ≤ 4294967294) (T : List FieldA) (hlT : T.length ≤ 8) (tv : Value) w' (hk : Keeps (fun _ => False) w w') (hft : FldsAt w' tv T) => hide (lawFields_v (argZ w.heap.size) T (by omega) l hsz tv (.slice ao l.len cap) w' 0 (hT.keepF hk) (hF.keepF hk) hft (hp.keepF hk))
  have h8 := (schema_parts hS).2.1
  have HSP := hide hS
  have HF := hide hf
  have mk1 : True := trivial
  clear hT hF hf hp SB hxc hS
  go_enter Tryd.func6, Tryd.ntmps6
  go_wp2_with fail
  refine (unhide HD).mono ?_
  rintro e w1 ⟨r, rfl, hk1, hsz⟩
  have HK1 := hide ((unhide HB).trans hk1)
  have HKb := hide hk1
  have y1 := unhide HSB _ hk1
  cases r with
  | true =>
    clear hk1 hsz
    go_wp2_with fail
    go_ret
    exact ⟨rfl, unhide HK1⟩
  | false =>
    have hs : l.size ≤ 4294967294 := by have := hsz rfl; omega
    have HCH := HCH' hs
    have HFL := hide (HFL' hs)
    have HSZ := hide hs
    clear HCH' HFL' hk1 hsz hs
    have hchk : ∃ p, p = checkP S l := ⟨_, rfl⟩
    obtain ⟨⟨E, at'⟩, hpv⟩ := hchk
    have HPV := hide hpv
    rw [← hpv] at HCH
    by_cases hE : E = 0
    · subst hE
      have hc0 : (checkP S l).1 = 0 := by rw [← hpv]
      have hfp : fieldsP S l = (pick S (fun s => decide (0 < rdF (flatS l) s)), pick S (fun s => decide (0 < wrF (flatS l) s)), 0) := by
        unfold fieldsP
        rw [if_neg (by simpa using hc0)]
      have HC0 := hide hc0
      have HFP := hide hfp
      have HFS := fun w' (hk : Keeps (fun _ => False) w w') => hide (unhide (unhide HFL S h8 (.slice so S.length sc) w' hk ((unhide HF).keepF hk)))
      unfold FdPost at HFS
      rw [hfp] at HFS
      have hl1 := Nat.le_trans (pick_le S (fun s => decide (0 < rdF (flatS l) s))) h8
      have hl2 := Nat.le_trans (pick_le S (fun s => decide (0 < wrF (flatS l) s))) h8
      have HL1 := hide hl1
      have HL2 := hide hl2
      clear hpv hfp hc0 hl1 hl2
      by_cases hS2 : S.length < 2
      · have hS2' : (S.length : Int) < 2 := by omega
        clear hS2 HFL HF HFP
        go_wp2_with (first
          | (go_at_call 10; refine (unhide (HCS _ (unhide HK1))).mono ?_; rintro e w2 ⟨rfl, hk2⟩; have HK1 := hide ((unhide HK1).trans hk2); have HKb := hide ((unhide HKb).trans hk2); have y2 := unhide HSB _ (unhide HKb); clear hk2)
          | (clear mk1; go_at_call 16; refine (unhide (HFN _ (unhide HK1))).mono ?_; rintro e w3 ⟨rv, wv, rfl, hrv, hwv, hk2⟩; obtain ⟨ro, rc, rfl⟩ := (rowAt_own hrv).form; obtain ⟨wo, wc, rfl⟩ := (rowAt_own hwv).form; have HK1 := hide ((unhide HK1).trans hk2); have HKb := hide ((unhide HKb).trans hk2); have y3 := unhide HSB _ (unhide HKb); clear hk2 hrv hwv; have mk2 : True := trivial)
          | (clear mk2; go_at_call 16; refine (unhide (HFS _ (unhide HK1))).mono ?_; rintro e w4 ⟨rv2, wv2, rfl, hrv, hwv, hk2⟩; obtain ⟨ro2, rc2, rfl⟩ := (rowAt_own hrv).form; obtain ⟨wo2, wc2, rfl⟩ := (rowAt_own hwv).form; have HK1 := hide ((unhide HK1).trans hk2); have HKb := hide ((unhide HKb).trans hk2); have y4 := unhide HSB _ (unhide HKb); clear hk2 hrv hwv)
          | (go_at_call 9; refine (unhide (HCH _ (unhide HK1))).mono ?_; rintro e w5 ⟨rfl, hk2⟩; have HK1 := hide ((unhide HK1).trans hk2); have HKb := hide ((unhide HKb).trans hk2); have y5 := unhide HSB _ (unhide HKb); clear hk2))
        go_ret
        exact ⟨rfl, unhide HK1⟩
      · have hS2' : ¬ (S.length : Int) < 2 := by omega
        have HS2 := hide hS2
        clear hS2
        go_wp2_with (first
          | (go_at_call 10; refine (unhide (HCS _ (unhide HK1))).mono ?_; rintro e w2 ⟨rfl, hk2⟩; have HK1 := hide ((unhide HK1).trans hk2); have HKb := hide ((unhide HKb).trans hk2); have y2 := unhide HSB _ (unhide HKb); clear hk2)
          | (clear mk1; go_at_call 16; refine (unhide (HFN _ (unhide HK1))).mono ?_; rintro e w3 ⟨rv, wv, rfl, hrv, hwv, hk2⟩; obtain ⟨ro, rc, rfl⟩ := (rowAt_own hrv).form; obtain ⟨wo, wc, rfl⟩ := (rowAt_own hwv).form; have HK1 := hide ((unhide HK1).trans hk2); have HKb := hide ((unhide HKb).trans hk2); have y3 := unhide HSB _ (unhide HKb); clear hk2 hrv hwv; have mk2 : True := trivial)
          | (clear mk2; go_at_call 16; refine (unhide (HFS _ (unhide HK1))).mono ?_; rintro e w4 ⟨rv2, wv2, rfl, hrv, hwv, hk2⟩; obtain ⟨ro2, rc2, rfl⟩ := (rowAt_own hrv).form; obtain ⟨wo2, wc2, rfl⟩ := (rowAt_own hwv).form; have HRV := hide (rowAt_own hrv); have HWV := hide (rowAt_own hwv); have HK1 := hide ((unhide HK1).trans hk2); have HKb := hide ((unhide HKb).trans hk2); have y4 := unhide HSB _ (unhide HKb); clear hk2 hrv hwv)
          | (go_at_call 9; refine (unhide (HCH _ (unhide HK1))).mono ?_; rintro e w5 ⟨rfl, hk2⟩; have HRV := hide ((unhide HRV).keepF hk2); have HWV := hide ((unhide HWV).keepF hk2); have HK1 := hide ((unhide HK1).trans hk2); have HKb := hide ((unhide HKb).trans hk2); have y5 := unhide HSB _ (unhide HKb); clear hk2))
        have HKW := hide (unhide HK1)
        clear HCS HFN HCH HFS y1 y2 y3 y4
        go_loopw [14] (fun i wr => ∃ k : Nat, i = .int .i64 k ∧ k ≤ S.length ∧ Keeps (fun _ => False) w5 wr) (fun i _ => S.length - (intOf i).toNat)
        case atStart => exact ⟨0, rfl, Nat.zero_le _, Keeps.refl _ _⟩
        case round =>
          obtain ⟨k, rfl, hk, hkeep⟩ := hrel
          have HK := hide hkeep
          have yr := unhide HSB _ ((unhide HKb).trans hkeep)
          cases h : S[k]? with
          | none =>
            have h1 := get_ge h
            obtain rfl : k = S.length := by omega
            have i1 : ¬ (S.length : Int) < (S.length : Int) := by omega
            clear h h1 hkeep hk
            go_wp2_with fail
            go_ret
            exact ⟨rfl, (unhide HKW).trans (unhide HK)⟩
          | some d =>
            have h1 := get_lt h
            obtain ⟨b, off, c1, e, hbl, hc⟩ := (unhide HF).cells (by omega)
            simp at e
            obtain ⟨rfl, rfl⟩ := e
            have hq0 := (hc k d h).1
            have HSC : Hid (∀ w', Keeps (fun _ => False) w5 w' → w'.cell? ⟨w.heap.size, 0, none⟩ = some (.slice (some ⟨b, off, none⟩) S.length sc) ∧ w'.cell? ⟨b, off + k * 3, none⟩ = some (str d.name)) := fun w' hk' => ⟨unhide HSB _ ((unhide HKb).trans hk'), (((unhide HKW).trans hk').cell hbl id).trans hq0⟩
            have i1 : (k : Int) < (S.length : Int) := by omega
            have ix0 : (0 : Int) ≤ (k : Int) := by omega
            have hsp : S = S.take k ++ d :: S.drop (k + 1) := by
              obtain ⟨hk', hx⟩ := List.getElem?_eq_some_iff.1 h
              rw [← hx, ← List.drop_eq_getElem_cons hk', List.take_append_drop]
            have hAl : (S.take k).length = k := by simp; omega
            obtain ⟨T, hTd⟩ : ∃ T, T = S.take k ++ S.drop (k + 1) := ⟨_, rfl⟩
            have hsk : sk S k S.length = T := by
              have := sk_all (S.take k) (S.drop (k + 1)) d
              rw [hAl, ← hsp, ← hTd] at this
              exact this
            have hnp := needs_pure (A := S.take k) (B := S.drop (k + 1)) (d := d) (l := l) (unhide HSZ) (by rw [← hsp]; exact unhide HC0) (by rw [← hsp]; have := unhide HS2; omega)
            rw [← hsp, ← hTd] at hnp
            have hTl : T.length ≤ 8 := by rw [hTd]; simp; omega
            have hm1 : (d.name ∈ (pick S (fun s => decide (0 < rdF (flatS l) s)))) ↔ 0 < rdF (flatS l) d.name := by
              have := mem_pick (A := S.take k) (B := S.drop (k + 1)) (d := d) (p := fun s => decide (0 < rdF (flatS l) s))
              rw [← hsp] at this
              simpa using this
            have hm2 : (d.name ∈ (pick S (fun s => decide (0 < wrF (flatS l) s)))) ↔ 0 < wrF (flatS l) d.name := by
              have := mem_pick (A := S.take k) (B := S.drop (k + 1)) (d := d) (p := fun s => decide (0 < wrF (flatS l) s))
              rw [← hsp] at this
              simpa using this
            obtain ⟨ht1, ht2⟩ := fieldsP_le T l
            have HFT := fun (tv : Value) w' (hk : Keeps (fun _ => False) w5 w') (hft : FldsAt w' tv T) => hide (unhide (unhide HFL T hTl tv w' ((unhide HKW).trans hk) hft))
            unfold FdPost at HFT
            have hfpS := unhide HFP
            generalize fieldsP T l = P at HFT ht1 ht2 hnp
            obtain ⟨r1, w1', gE⟩ := P
            have HT1 : Hid (r1.length ≤ 8) := ht1
            have HT2 : Hid (w1'.length ≤ 8) := ht2
            have HWO := fun w' (hk : Keeps (fun _ => False) w5 w') => hide (without_v w' (.slice (some ⟨b, off, none⟩) S.length sc) S k ((unhide HF).keepF ((unhide HKW).trans hk)) h8)
            rw [hsk] at HWO
            have hwz : w5.heap.size ≤ wr.heap.size := hkeep.size
            have HST : Hid (∀ (w6 : World) (vo : Option Addr) (vc : Nat), Keeps (fun _ => False) wr w6 → w6.ownsRow wr.heap.size 45 3 (.slice vo T.length vc) T.length (fcs T) →
                (w6.alloc (.cells #[.slice vo T.length vc] 24)).cell? ⟨w6.heap.size, 0, none⟩ = some (.slice vo T.length vc) ∧ FldsAt (w6.alloc (.cells #[.slice vo T.length vc] 24)) (.slice vo T.length vc) T ∧ Keeps (fun _ => False) w5 (w6.alloc (.cells #[.slice vo T.length vc] 24))) := by
              intro w6 vo vc hk6 hown
              have hb6 := heap_alloc_new w6 (.cells #[.slice vo T.length vc] 24)
              exact ⟨by rw [cell_of_blk hb6]; rfl, rowAt_own (ownsRow_kept hown ((Keeps.refl (fun _ => False) w6).alloc _) (fun _ _ => id)), ((unhide HK).trans hk6).alloc _⟩
            clear h hc hq0 hkeep hsp hAl hsk hTd hTl ht1 ht2 hfpS
            have mk3 : True := trivial
            by_cases hN : 0 < rdF (flatS l) d.name ∨ 0 < wrF (flatS l) d.name
            · have hg : gE = 90 := hnp.1 hN
              subst hg
              have HNE : Hid ((decide (d.name ∈ (pick S (fun s => decide (0 < rdF (flatS l) s)))) || decide (d.name ∈ (pick S (fun s => decide (0 < wrF (flatS l) s))))) = true) := by
                refine hide ?_
                rcases hN with hN | hN
                · rw [decide_eq_true (hm1.2 hN)]; rfl
                · rw [decide_eq_true (hm2.2 hN)]; simp
              obtain ⟨bw, hbw⟩ : ∃ bw, decide (w1' = (pick S (fun s => decide (0 < wrF (flatS l) s)))) = bw := ⟨_, rfl⟩
              have HWW := hide hbw
              clear hN hnp hm1 hm2 hbw
              by_cases hr : r1 = (pick S (fun s => decide (0 < rdF (flatS l) s)))
              · have HRR := hide (decide_eq_true hr)
                clear hr
                go_wp2_with (first
                  | (go_at_call 17; refine (unhide (HWO _ (unhide HK))).mono ?_; rintro e w6 ⟨v', rfl, hown, hk6⟩; obtain ⟨vo, vc, rfl⟩ := (rowAt_own hown).form; have HS6 := hide (unhide HST w6 _ _ hk6 hown); have m1 := (unhide HS6).1; clear hown hk6)
                  | (go_at_call 16; refine (unhide (HFT _ _ (unhide HS6).2.2 (unhide HS6).2.1)).mono ?_; rintro e w8 ⟨rv3, wv3, rfl, hrv, hwv, hk8⟩; obtain ⟨ro3, rc3, rfl⟩ := (rowAt_own hrv).form; obtain ⟨wo3, wc3, rfl⟩ := (rowAt_own hwv).form; have HRV3 := hide (rowAt_own hrv); have HWV3 := hide (rowAt_own hwv); have HK8 := hide ((unhide HS6).2.2.trans hk8); have y8 := unhide HSC _ (unhide HK8); clear hk8 hrv hwv)
                  | (go_at_call 18; refine (has_v _ _ (by have := unhide HL1; omega) (by have := unhide HL2; omega) d.name _ _ _ ((unhide HRV).keepF (unhide HK8)) ((unhide HWV).keepF (unhide HK8))).mono ?_; rintro e w9 ⟨rfl, hk9⟩; rw [unhide HNE]; have HRV3 := hide ((unhide HRV3).keepF hk9); have HWV3 := hide ((unhide HWV3).keepF hk9); have HK9 := hide ((unhide HK8).trans hk9); clear hk9)
                  | (clear mk3; go_at_call 19; refine (eqNames_v r1 _ (by have := unhide HT1; omega) (by have := unhide HL1; omega) _ _ _ (unhide HRV3) ((unhide HRV).keepF (unhide HK9))).mono ?_; rintro e w10 ⟨rfl, hk10⟩; rw [unhide HRR]; have HWV3 := hide ((unhide HWV3).keepF hk10); have HK10 := hide ((unhide HK9).trans hk10); clear hk10; have mk4 : True := trivial)
                  | (clear mk4; go_at_call 19; refine (eqNames_v w1' _ (by have := unhide HT2; omega) (by have := unhide HL2; omega) _ _ _ (unhide HWV3) ((unhide HWV).keepF (unhide HK10))).mono ?_; rintro e w11 ⟨rfl, hk11⟩; rw [unhide HWW]; have HK10 := hide ((unhide HK10).trans hk11); clear hk11))
                go_roundw
                case rel => exact ⟨k + 1, by go_num, by omega, unhide HK10⟩
                case measure => simp [intOf]; omega
              · have HRR := hide (decide_eq_false hr)
                clear hr
                go_wp2_with (first
                  | (go_at_call 17; refine (unhide (HWO _ (unhide HK))).mono ?_; rintro e w6 ⟨v', rfl, hown, hk6⟩; obtain ⟨vo, vc, rfl⟩ := (rowAt_own hown).form; have HS6 := hide (unhide HST w6 _ _ hk6 hown); have m1 := (unhide HS6).1; clear hown hk6)
                  | (go_at_call 16; refine (unhide (HFT _ _ (unhide HS6).2.2 (unhide HS6).2.1)).mono ?_; rintro e w8 ⟨rv3, wv3, rfl, hrv, hwv, hk8⟩; obtain ⟨ro3, rc3, rfl⟩ := (rowAt_own hrv).form; obtain ⟨wo3, wc3, rfl⟩ := (rowAt_own hwv).form; have HRV3 := hide (rowAt_own hrv); have HWV3 := hide (rowAt_own hwv); have HK8 := hide ((unhide HS6).2.2.trans hk8); have y8 := unhide HSC _ (unhide HK8); clear hk8 hrv hwv)
                  | (go_at_call 18; refine (has_v _ _ (by have := unhide HL1; omega) (by have := unhide HL2; omega) d.name _ _ _ ((unhide HRV).keepF (unhide HK8)) ((unhide HWV).keepF (unhide HK8))).mono ?_; rintro e w9 ⟨rfl, hk9⟩; rw [unhide HNE]; have HRV3 := hide ((unhide HRV3).keepF hk9); have HWV3 := hide ((unhide HWV3).keepF hk9); have HK9 := hide ((unhide HK8).trans hk9); clear hk9)
                  | (clear mk3; go_at_call 19; refine (eqNames_v r1 _ (by have := unhide HT1; omega) (by have := unhide HL1; omega) _ _ _ (unhide HRV3) ((unhide HRV).keepF (unhide HK9))).mono ?_; rintro e w10 ⟨rfl, hk10⟩; rw [unhide HRR]; have HWV3 := hide ((unhide HWV3).keepF hk10); have HK10 := hide ((unhide HK9).trans hk10); clear hk10; have mk4 : True := trivial)
                  | (clear mk4; go_at_call 19; refine (eqNames_v w1' _ (by have := unhide HT2; omega) (by have := unhide HL2; omega) _ _ _ (unhide HWV3) ((unhide HWV).keepF (unhide HK10))).mono ?_; rintro e w11 ⟨rfl, hk11⟩; rw [unhide HWW]; have HK10 := hide ((unhide HK10).trans hk11); clear hk11))
                go_roundw
                case rel => exact ⟨k + 1, by go_num, by omega, unhide HK10⟩
                case measure => simp [intOf]; omega
            · have hq := hnp.2 hN
              have hg : gE = 0 := hq.2
              subst hg
              have he := hq.1.trans (unhide HFP)
              simp only [Prod.mk.injEq, and_true] at he
              have HRR := hide (decide_eq_true he.1)
              have HWW := hide (decide_eq_true he.2)
              have HNE : Hid ((decide (d.name ∈ (pick S (fun s => decide (0 < rdF (flatS l) s)))) || decide (d.name ∈ (pick S (fun s => decide (0 < wrF (flatS l) s))))) = false) := by
                refine hide ?_
                rw [decide_eq_false (fun e => hN (Or.inl (hm1.1 e))), decide_eq_false (fun e => hN (Or.inr (hm2.1 e)))]
                rfl
              clear hN hnp hm1 hm2 hq he
              go_wp2_with (first
                | (go_at_call 17; refine (unhide (HWO _ (unhide HK))).mono ?_; rintro e w6 ⟨v', rfl, hown, hk6⟩; obtain ⟨vo, vc, rfl⟩ := (rowAt_own hown).form; have HS6 := hide (unhide HST w6 _ _ hk6 hown); have m1 := (unhide HS6).1; clear hown hk6)
                | (go_at_call 16; refine (unhide (HFT _ _ (unhide HS6).2.2 (unhide HS6).2.1)).mono ?_; rintro e w8 ⟨rv3, wv3, rfl, hrv, hwv, hk8⟩; obtain ⟨ro3, rc3, rfl⟩ := (rowAt_own hrv).form; obtain ⟨wo3, wc3, rfl⟩ := (rowAt_own hwv).form; have HRV3 := hide (rowAt_own hrv); have HWV3 := hide (rowAt_own hwv); have HK8 := hide ((unhide HS6).2.2.trans hk8); have y8 := unhide HSC _ (unhide HK8); clear hk8 hrv hwv)
                | (go_at_call 18; refine (has_v _ _ (by have := unhide HL1; omega) (by have := unhide HL2; omega) d.name _ _ _ ((unhide HRV).keepF (unhide HK8)) ((unhide HWV).keepF (unhide HK8))).mono ?_; rintro e w9 ⟨rfl, hk9⟩; rw [unhide HNE]; have HRV3 := hide ((unhide HRV3).keepF hk9); have HWV3 := hide ((unhide HWV3).keepF hk9); have HK9 := hide ((unhide HK8).trans hk9); clear hk9)
                | (clear mk3; go_at_call 19; refine (eqNames_v r1 _ (by have := unhide HT1; omega) (by have := unhide HL1; omega) _ _ _ (unhide HRV3) ((unhide HRV).keepF (unhide HK9))).mono ?_; rintro e w10 ⟨rfl, hk10⟩; rw [unhide HRR]; have HWV3 := hide ((unhide HWV3).keepF hk10); have HK10 := hide ((unhide HK9).trans hk10); clear hk10; have mk4 : True := trivial)
                | (clear mk4; go_at_call 19; refine (eqNames_v w1' _ (by have := unhide HT2; omega) (by have := unhide HL2; omega) _ _ _ (unhide HWV3) ((unhide HWV).keepF (unhide HK10))).mono ?_; rintro e w11 ⟨rfl, hk11⟩; rw [unhide HWW]; have HK10 := hide ((unhide HK10).trans hk11); clear hk11))
              go_roundw
              case rel => exact ⟨k + 1, by go_num, by omega, unhide HK10⟩
              case measure => simp [intOf]; omega
    · have hfp : fieldsP S l = ([], [], E) := by
        unfold fieldsP
        rw [← hpv, if_pos hE]
      have HFS := fun w' (hk : Keeps (fun _ => False) w w') => hide (unhide (unhide HFL S h8 (.slice so S.length sc) w' hk ((unhide HF).keepF hk)))
      unfold FdPost at HFS
      rw [hfp] at HFS
      have hE1 : (E != 0) = true := by simpa using hE
      have hE2 : (E == 0) = false := by simpa using hE
      clear hpv hfp hE HFL HF
      go_wp2_with (first
        | (go_at_call 10; refine (unhide (HCS _ (unhide HK1))).mono ?_; rintro e w2 ⟨rfl, hk2⟩; have HK1 := hide ((unhide HK1).trans hk2); have HKb := hide ((unhide HKb).trans hk2); have y2 := unhide HSB _ (unhide HKb); clear hk2)
        | (clear mk1; go_at_call 16; refine (unhide (HFN _ (unhide HK1))).mono ?_; rintro e w3 ⟨rv, wv, rfl, hrv, hwv, hk2⟩; obtain ⟨ro, rc, rfl⟩ := (rowAt_own hrv).form; obtain ⟨wo, wc, rfl⟩ := (rowAt_own hwv).form; have HK1 := hide ((unhide HK1).trans hk2); have HKb := hide ((unhide HKb).trans hk2); have y3 := unhide HSB _ (unhide HKb); clear hk2 hrv hwv; have mk2 : True := trivial)
        | (clear mk2; go_at_call 16; refine (unhide (HFS _ (unhide HK1))).mono ?_; rintro e w4 ⟨rv2, wv2, rfl, hrv, hwv, hk2⟩; obtain ⟨ro2, rc2, rfl⟩ := (rowAt_own hrv).form; obtain ⟨wo2, wc2, rfl⟩ := (rowAt_own hwv).form; have HK1 := hide ((unhide HK1).trans hk2); have HKb := hide ((unhide HKb).trans hk2); have y4 := unhide HSB _ (unhide HKb); clear hk2 hrv hwv)
        | (go_at_call 9; refine (unhide (HCH _ (unhide HK1))).mono ?_; rintro e w5 ⟨rfl, hk2⟩; have HK1 := hide ((unhide HK1).trans hk2); have HKb := hide ((unhide HKb).trans hk2); have y5 := unhide HSB _ (unhide HKb); clear hk2))
      go_ret
      exact ⟨rfl, unhide HK1⟩
theorem needs_walk (S : List FieldA) (hlS : S.length ≤ 4398046511104) (l : SL) (sv pv : Value) (w : World) (hT : Types w) (hF : Forms w) (hf : FldsAt w sv S) (hp : SlS (argZ w.heap.size) w 0 pv l) :
    Calls Tryd.prog 6 #[.agg #[sv], pv] w fun e w' => e = .returned (.bool true) ∧ Keeps (fun _ => False) w w' := by
  cases h : schemaB S with
  | false => exact needs_bad S hlS l sv pv w hT hF hf hp h
  | true => exact needs_fit S hlS l sv pv w hT hF hf hp h
end Go.Proofs.YtjhppnecadnekaaDoor
