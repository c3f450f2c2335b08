import Derived.Test.YtijfnlfgehcpaaaGreatDoorPf
import Derived.Test.YtijfnlfgehcpaaaGreatDoorJaq
import Derived.Test.YtijfnlfgehcpaaaGreatDoorJad
import Derived.Test.YtijfnlfgehcpaaaGreatDoorJan
import Derived.Test.YtijfnlfgehcpaaaGreatDoorJaa
import Derived.Maps.OwnSet
namespace Go.Proofs.YtijfnlfgehcpaaaGreatDoor
open Go.RowKit Go.Maps

theorem EL.one_of : ∀ {x : EL}, x.len = 1 → ∃ o n s kids, x = .cons o n s kids .nil
  | .nil, h => by simp [EL.len] at h
  | .cons o n s kids .nil, _ => ⟨o, n, s, kids, rfl⟩
  | .cons _ _ _ _ (.cons _ _ _ _ _), h => by simp [EL.len] at h
/-- What the head of a statement tells. -/
theorem head_open {op : Int} {f : Txt} {x : EL} {t e : Nat} (h : headS op f x.len t e = true) :
    ((op = 1 ∨ op = 2 ∨ op = 3 ∨ op = 4) ∧ f.length ≤ 8 ∧ x.len = 1) ∨ (op = 5 ∧ f.length ≤ 8 ∧ x = .nil) ∨ ((op = 6 ∨ op = 7) ∧ x = .nil) ∨ (op = 8 ∧ x.len = 1) := by
  unfold headS at h
  split at h
  · rename_i h1
    simp only [Bool.and_eq_true, decide_eq_true_eq] at h
    exact Or.inl ⟨h1, name_short h.1, h.2.1⟩
  · split at h
    · rename_i h1
      simp only [Bool.and_eq_true, decide_eq_true_eq] at h
      exact Or.inr (Or.inl ⟨h1, name_short h.1, EL.len0 h.2.1⟩)
    · split at h
      · rename_i h1
        simp only [Bool.and_eq_true, decide_eq_true_eq] at h
        exact Or.inr (Or.inr (Or.inl ⟨h1, EL.len0 h.2.1⟩))
      · split at h
        · rename_i h1
          simp only [Bool.and_eq_true, decide_eq_true_eq] at h
          exact Or.inr (Or.inr (Or.inr ⟨h1, h.2⟩))
        · cases h
/-- Every statement of the list is well made by itself. -/
def wellF (N : Nat) : SL → Prop
  | .nil => True
  | .cons op f x t e r => headS op f x.len t.len e.len = true ∧ wellE x = true ∧ x.size ≤ N ∧ wellF N r
theorem wellF_app {N : Nat} : ∀ {l m : SL}, wellF N l → wellF N m → wellF N (l.app m)
  | .nil, _, _, h => h
  | .cons _ _ _ _ _ _, _, ⟨h1, h2, h3, h4⟩, h => ⟨h1, h2, h3, wellF_app h4 h⟩
theorem flat_well {N : Nat} : ∀ l : SL, l.size ≤ N → wellS l = true → wellF N (flatS l)
  | .nil, _, _ => trivial
  | .cons op f x t e r, hN, h => by
    simp only [wellS, Bool.and_eq_true, SL.size] at h hN
    exact ⟨h.1, h.2.1, by omega, wellF_app (flat_well t (by omega) h.2.2.1) (wellF_app (flat_well e (by omega) h.2.2.2.1) (flat_well r (by omega) h.2.2.2.2))⟩
/-- What the judge says of a statement. -/
theorem stmtJ_v (Z : Zone) (j mb nn tab : Nat) (S : List FieldA) (hS : (S.map FieldA.name).Nodup) (op : Int) (f : Txt) (x : EL) (t e : SL) (xv tv ev : Value) (up : Nat) (w : World) (hJ : JudgeAt w j mb nn tab S) (hT : StmtsAt w j)
    (hx : SlE Z w up xv x) (hv : ∃ to tn tc eo en ec, tv = .slice to tn tc ∧ ev = .slice eo en ec) (hh : headS op f x.len t.len e.len = true) (hw : wellE x = true) (hsz : x.size ≤ 4294967294) :
    Calls Tryz.prog 38 #[.pointer (some ⟨j, 0, none⟩), stV op f xv tv ev] w fun e w' => e = .returned (.int .i64 (ownP S op f x)) ∧ Keeps (fun _ => False) w w' := by
  obtain ⟨xo, xc, rfl, _⟩ := hx.head
  obtain ⟨to, tn, tc, eo, en, ec, rfl, rfl⟩ := hv
  have hv : ∃ xo' xn xc' to' tn' tc' eo' en' ec', Value.slice xo x.len xc = .slice xo' xn xc' ∧ Value.slice to tn tc = .slice to' tn' tc' ∧ Value.slice eo en ec = .slice eo' en' ec' := ⟨_, _, _, _, _, _, _, _, _, rfl, rfl, rfl⟩
  have hj := hJ.map.lt
  rcases head_open hh with ⟨h1, hf, hl⟩ | ⟨rfl, hf, rfl⟩ | ⟨h1, rfl⟩ | ⟨rfl, hl⟩
  · obtain ⟨o, n, s, kids, rfl⟩ := EL.one_of hl
    simp only [wellE, Bool.and_eq_true, EL.size] at hw hsz
    rcases h1 with rfl | rfl | rfl | rfl
    · have hR : ownP S 1 f (.cons o n s kids .nil) = orL [(namedK S f).2, (kindP S o s kids).2, ofI (kindP S o s kids).1 [(namedK S f).1.t], if (kindP S o s kids).1.o = true ∧ (namedK S f).1.o = false then 92 else 0] := by
        unfold ownP
        rw [if_pos rfl]
        rfl
      rw [hR]
      refine stmtJ1 j f _ _ _ hv _ w hj hT (fun w' hk => ?_)
      cases hO : (kindP S o s kids).1.o with
      | true =>
        have := setF_yes Z j mb nn tab S hS 1 f (by omega) o n s kids (by omega) _ up to eo tn tc en ec w' (hJ.keepF hk) (hx.keepF hk) hw.1 hw.2.1 hO
        rw [hO] at this
        exact this
      | false =>
        have := setF_no Z j mb nn tab S hS 1 f (by omega) o n s kids (by omega) _ up to eo tn tc en ec w' (hJ.keepF hk) (hx.keepF hk) hw.1 hw.2.1 hO
        rw [hO] at this
        exact this
    all_goals
      have hR : ∀ k : Int, k = 2 ∨ k = 3 ∨ k = 4 → ownP S k f (.cons o n s kids .nil) = orL [(namedK S f).2, (kindP S o s kids).2, ofI (namedK S f).1 [1], plainI (kindP S o s kids).1 [1]] := fun k hk => by
        unfold ownP
        rw [if_neg (by omega), if_pos hk]
        rfl
    · rw [hR 2 (by omega)]
      exact stmtJ2 j f _ _ _ hv _ w hj hT (fun w' hk => changeF_v Z j mb nn tab S hS 2 f (by omega) o n s kids (by omega) _ up to eo tn tc en ec w' (hJ.keepF hk) (hx.keepF hk) hw.1 hw.2.1)
    · rw [hR 3 (by omega)]
      exact stmtJ3 j f _ _ _ hv _ w hj hT (fun w' hk => changeF_v Z j mb nn tab S hS 3 f (by omega) o n s kids (by omega) _ up to eo tn tc en ec w' (hJ.keepF hk) (hx.keepF hk) hw.1 hw.2.1)
    · rw [hR 4 (by omega)]
      exact stmtJ4 j f _ _ _ hv _ w hj hT (fun w' hk => changeF_v Z j mb nn tab S hS 4 f (by omega) o n s kids (by omega) _ up to eo tn tc en ec w' (hJ.keepF hk) (hx.keepF hk) hw.1 hw.2.1)
  · exact stmtJ5 j f _ _ _ hv _ w hj hT (fun w' hk => clearF_v j mb nn S hS 5 f (by omega) xo to eo _ xc tn tc en ec w' ((hJ.map).keepF hk))
  · rcases h1 with rfl | rfl
    · exact stmtJ6 j f _ _ _ hv _ w hj hT (fun w' hk => alwaysF_v 6 f xo to eo _ xc tn tc en ec w')
    · exact stmtJ7 j f _ _ _ hv _ w hj hT (fun w' hk => alwaysF_v 7 f xo to eo _ xc tn tc en ec w')
  · obtain ⟨o, n, s, kids, rfl⟩ := EL.one_of hl
    simp only [wellE, Bool.and_eq_true, EL.size] at hw hsz
    exact stmtJ8 j f _ _ _ hv _ w hj hT (fun w' hk => chooseF_v Z j mb nn tab S hS 8 f o n s kids (by omega) _ up to eo tn tc en ec w' (hJ.keepF hk) (hx.keepF hk) hw.1 hw.2.1)
/-- The first statement of a list that does not fit. -/
def firstBad (S : List FieldA) : SL → Nat → Int × Nat
  | .nil, _ => (0, 0)
  | .cons op f x _ _ r, k => if ownP S op f x ≠ 0 then (ownP S op f x, k) else firstBad S r (k + 1)
/-- What Check answers. -/
def checkP (S : List FieldA) (l : SL) : Int × Nat := if errS S ≠ 0 then (errS S, 0) else if checkS l ≠ 0 then (checkS l, 0) else firstBad S (flatS l) 0
theorem num_open {B : Nat} {l : SL} {w' : World} {ao : Option Addr} {c n : Nat} {xs : List Value} (hn : n = (flatS l).len) (hr : RowAt w' (.slice ao n c) n xs) (hs : SsIn (argZ B) w' (flatS l) xs) :
    ∃ b off, (n ≠ 0 → ao = some ⟨b, off, none⟩) ∧ StIn (argZ w'.heap.size) w' (flatS l) b off := by
  rcases Nat.eq_zero_or_pos n with h0 | h0
  · refine ⟨0, 0, fun h => absurd h0 h, ?_⟩
    rw [SL.len0 (hn.symm.trans h0)]
    trivial
  · obtain ⟨b, off, cap, e, hb, hc⟩ := hr.cells h0
    simp at e
    exact ⟨b, off, fun _ => e.1, hs.stIn hb (Nat.le_refl _) hc⟩
end Go.Proofs.YtijfnlfgehcpaaaGreatDoor
namespace Go.Proofs.YtijfnlfgehcpaaaGreatDoor
open Go.RowKit Go.Maps

/-- An error and a number, as a value. -/
abbrev chkV (p : Int × Nat) : Value := .tuple #[.int .i64 p.1, .int .i64 (p.2 : Int)]

set_option maxRecDepth 100000 in
set_option maxHeartbeats 4000000 in
theorem tcheck_bad (Z : Zone) (S : List FieldA) (l : SL) (hsz : l.size ≤ 4294967294) (sv pv : Value) (w : World) (up : Nat) (hT : Types w) (hF : Forms w) (hf : FldsAt w sv S) (hp : SlS Z w up pv l) (E : Int) (hE : E ≠ 0)
    (h : schemaB S = false ∧ E = 60 ∨ schemaB S = true ∧ checkS l = E) :
    Calls Tryz.prog 15 #[.agg #[sv], pv] w fun e w' => e = .returned (chkV (E, 0)) ∧ Keeps (fun _ => False) w w' := by
  obtain ⟨ao, cap, rfl, hc⟩ := hp.head
  obtain ⟨so, sc, rfl⟩ := RowAt.form hf
  obtain ⟨HB, hxb, hxc⟩ := boxedT w #[.slice so S.length sc] 24
  have c0 := hxc 0 (.slice so S.length sc) rfl
  have HCS := hide (checkSchema_v S (.slice so S.length sc) _ (hT.keepF (unhide HB)) (hf.keepF (unhide HB)))
  have HCE := fun w' (hk : Keeps (fun _ => False) w w') => hide (check_v Z l hsz w' up (.slice ao l.len cap) (hF.keepF hk) (hp.keepF hk))
  clear hT hF hf hp hxc
  rcases h with ⟨h1, rfl⟩ | ⟨h1, h2⟩
  · rw [errS_bad h1] at HCS
    clear h1 HCE
    go_enter Tryz.func15, Tryz.ntmps15
    go_wp2_with (go_at_call 29; refine (unhide HCS).mono ?_; rintro e w1 ⟨rfl, hk1⟩; have HKa := hide ((unhide HB).trans hk1); clear hk1)
    refine bodyPost_ret (v := .tuple #[.int .i64 60, .int .i64 0]) (by simp [results, go_sem]) rfl ?_
    exact ⟨rfl, unhide HKa⟩
  · rw [errS_good h1] at HCS
    rw [h2] at HCE
    have n0 : (E != 0) = true := by simpa using hE
    clear h1 h2 hE
    go_enter Tryz.func15, Tryz.ntmps15
    go_wp2_with (first
      | (go_at_call 29; refine (unhide HCS).mono ?_; rintro e w1 ⟨rfl, hk1⟩; have HKa := hide ((unhide HB).trans hk1); clear hk1)
      | (go_at_call 36; refine (unhide (HCE _ (unhide HKa))).mono ?_; rintro e w2 ⟨rfl, hk1⟩; have HKa := hide ((unhide HKa).trans hk1); clear hk1))
    refine bodyPost_ret (v := .tuple #[.int .i64 E, .int .i64 0]) (by simp [results, go_sem]) rfl ?_
    exact ⟨rfl, unhide HKa⟩

set_option maxRecDepth 100000 in
set_option maxHeartbeats 8000000 in
theorem tcheck_fit (Z : Zone) (S : List FieldA) (l : SL) (hsz : l.size ≤ 4294967294) (sv pv : Value) (w : World) (up : Nat) (hT : Types w) (hF : Forms w) (hf : FldsAt w sv S) (hp : SlS Z w up pv l) (hS : schemaB S = true) (hC : checkS l = 0) :
    Calls Tryz.prog 15 #[.agg #[sv], pv] w fun e w' => e = .returned (chkV (firstBad S (flatS l) 0)) ∧ Keeps (fun _ => False) w w' := by
  have hwl : wellS l = true := by
    unfold checkS at hC
    split at hC
    · cases hC
    · rename_i h; simpa using h
  have hnd : (S.map FieldA.name).Nodup := by
    unfold schemaB at hS
    simp only [Bool.and_eq_true, decide_eq_true_eq] at hS
    exact hS.1.2
  have hnl : (flatS l).len ≤ 4294967294 := by rw [flatS_len]; exact Nat.le_trans (countS_le l) hsz
  obtain ⟨ao, cap, rfl, hc⟩ := hp.head
  obtain ⟨so, sc, rfl⟩ := RowAt.form hf
  obtain ⟨HB, hxb, hxc⟩ := boxedT w #[.slice so S.length sc] 24
  have c0 := hxc 0 (.slice so S.length sc) rfl
  have SB : ∀ w', Keeps (fun _ => False) (w.alloc (.cells #[.slice so S.length sc] 24)) w' → w'.cell? ⟨w.heap.size, 0, none⟩ = some (.slice so S.length sc) := fun w' hk => (hk.cell hxb id).trans c0
  have HSB := hide SB
  have HCS := hide (checkSchema_v S (.slice so S.length sc) _ (hT.keepF (unhide HB)) (hf.keepF (unhide HB)))
  have HCE := fun w' (hk : Keeps (fun _ => False) w w') => hide (check_v Z l hsz w' up (.slice ao l.len cap) (hF.keepF hk) (hp.keepF hk))
  have HNJ := fun w' (hk : Keeps (fun _ => False) w w') => hide (newJudge_v S (.slice so S.length sc) w' (hf.keepF hk) hS)
  have HNU := fun w' (hk : Keeps (fun _ => False) w w') => hide (numbered_v w'.heap.size (l.size + 1) l (by omega) hsz w' 0 (.slice ao l.len cap) (Nat.le_refl _) ((hp.keepF hk).arg (Nat.le_refl _) 0))
  rw [errS_good hS] at HCS
  rw [hC] at HCE
  have HW := hide (flat_well (N := 4294967294) l hsz hwl)
  clear hT hF hf hp hxc SB hS hC hwl
  go_enter Tryz.func15, Tryz.ntmps15
  go_wp2_with (first
    | (go_at_call 29; refine (unhide HCS).mono ?_; rintro e w1 ⟨rfl, hk1⟩; have HKa := hide ((unhide HB).trans hk1); have HKb := hide hk1; have y1 := unhide HSB _ hk1; clear hk1)
    | (go_at_call 36; refine (unhide (HCE _ (unhide HKa))).mono ?_; rintro e w2 ⟨rfl, hk1⟩; have HKa := hide ((unhide HKa).trans hk1); have HKb := hide ((unhide HKb).trans hk1); have y2 := unhide HSB _ (unhide HKb); clear hk1)
    | (go_at_call 31; refine (unhide (HNJ _ (unhide HKa))).mono ?_; rintro e w3 ⟨j, mb, nn, tab, rfl, hJ, hSt, hk1⟩; have HJ := hide hJ; have HSt := hide hSt; have HKa := hide ((unhide HKa).trans hk1); clear hJ hSt hk1)
    | (go_at_call 37; refine (unhide (HNU _ (unhide HKa))).mono ?_; rintro e w4 ⟨fo, fc, n, xs, rfl, hn, hown, hss, hk1⟩; obtain ⟨g, goff, hg, hst⟩ := num_open hn (rowAt_own hown) hss; have HNL := hide hn; have HG := hide hg; have HST := hide hst; have HK4 := hide hk1; have HKa := hide ((unhide HKa).trans hk1); clear hn hown hss hg hst hk1))
  have hn2 : n ≤ 4294967294 := by rw [unhide HNL]; exact hnl
  clear hnl HSB HCS HCE HNJ HNU y1 y2 c0
  go_loopw [24] (fun i wr => ∃ (rest : SL) (k : Nat), i = .int .i64 k ∧ k + rest.len = n ∧ Hid (firstBad S rest k = firstBad S (flatS l) 0) ∧ wellF 4294967294 rest ∧ Keeps (fun _ => False) w4 wr ∧ StIn (argZ w4.heap.size) w4 rest g (goff + k * 5)) (fun i _ => n - (intOf i).toNat)
  case atStart => exact ⟨flatS l, 0, rfl, by rw [Nat.zero_add]; exact (unhide HNL).symm, rfl, unhide HW, Keeps.refl _ _, by simpa using unhide HST⟩
  case round =>
    obtain ⟨rest, k, rfl, hkl, HS, hwf, hkeep, hr⟩ := hrel
    have HK := hide hkeep
    cases rest with
    | nil =>
      simp only [SL.len, Nat.add_zero] at hkl
      have i1 : ¬ (k : Int) < (n : Int) := by omega
      clear hr hkeep hwf
      go_wp2_with fail
      refine bodyPost_ret (v := .tuple #[.int .i64 0, .int .i64 0]) (by simp [results, go_sem]) rfl ?_
      exact ⟨by rw [← unhide HS]; rfl, (unhide HKa).trans (unhide HK)⟩
    | cons op f x t el rest =>
      obtain ⟨h1, h2, h3, h4, ⟨xv, h5, hxs⟩, ⟨tao, tcap, h6, h7, h8⟩, ⟨eao, ecap, j6, j7, j8⟩, h9⟩ := hr
      obtain ⟨hh, hwx, hxz, hwr⟩ := hwf
      simp only [SL.len] at hkl
      obtain ⟨xao, xcap, rfl, hxl⟩ := hxs.head
      obtain rfl := (unhide HG) (by omega)
      have HR := hide h9
      have HWR := hide hwr
      have i1 : (k : Int) < (n : Int) := by omega
      have ix0 : (0 : Int) ≤ (k : Int) := by omega
      have q0 := (hkeep.cell h1 id).trans h3
      have q1 := (hkeep.cell h1 id).trans h4
      have q2 := (hkeep.cell h1 id).trans h5
      have q3 := (hkeep.cell h1 id).trans h6
      have q4 := (hkeep.cell h1 id).trans j6
      obtain ⟨HBk, hkbb, hkc⟩ := boxedT wr #[.int .i64 op, str f, .slice xao x.len xcap, .slice tao t.len tcap, .slice eao el.len ecap] 71
      have k0 := hkc 0 (.int .i64 op) rfl
      have k1 := hkc 1 (str f) rfl
      have k2 := hkc 2 (.slice xao x.len xcap) rfl
      have k3 := hkc 3 (.slice tao t.len tcap) rfl
      have k4 := hkc 4 (.slice eao el.len ecap) rfl
      have hk4 := ((unhide HK4).trans hkeep).trans (unhide HBk)
      have HC := hide (stmtJ_v (argZ w4.heap.size) j mb nn tab S hnd op f x t el _ (.slice tao t.len tcap) (.slice eao el.len ecap) g _ ((unhide HJ).keepF hk4) ((unhide HSt).keepF (unhide HJ).map.lt hk4) (hxs.keepF (hkeep.trans (unhide HBk))) ⟨_, _, _, _, _, _, rfl, rfl⟩ hh hwx hxz)
      have hst : firstBad S (.cons op f x t el rest) k = if ownP S op f x ≠ 0 then (ownP S op f x, k) else firstBad S rest (k + 1) := rfl
      rw [hst] at HS
      obtain ⟨R, hR⟩ : ∃ R, R = ownP S op f x := ⟨_, rfl⟩
      rw [← hR] at HC HS
      clear hkeep h2 h3 h4 h5 h6 h8 h9 j6 j8 hxs hkc hk4 hst hR hh hwx hwr
      by_cases hR0 : R = 0
      · subst hR0
        rw [if_neg (by simp)] at HS
        go_wp2_with (go_at_call 38; refine (unhide HC).mono ?_; rintro e w5 ⟨rfl, hk5⟩; have HK5 := hide (((unhide HK).trans (unhide HBk)).trans hk5); clear hk5)
        go_roundw
        case rel =>
          refine ⟨rest, k + 1, by go_num, by omega, unhide HS, unhide HWR, unhide HK5, ?_⟩
          rw [show goff + (k + 1) * 5 = goff + k * 5 + 5 by omega]
          exact unhide HR
        case measure => simp [intOf]; omega
      · have n0 : (R != 0) = true := by simpa using hR0
        rw [if_pos hR0] at HS
        clear hR0
        go_wp2_with (go_at_call 38; refine (unhide HC).mono ?_; rintro e w5 ⟨rfl, hk5⟩; have HK5 := hide (((unhide HK).trans (unhide HBk)).trans hk5); clear hk5)
        refine bodyPost_ret (v := .tuple #[.int .i64 R, .int .i64 (k : Int)]) (by simp [results, go_sem]) rfl ?_
        exact ⟨by rw [← unhide HS], (unhide HKa).trans (unhide HK5)⟩
theorem tcheck_v (Z : Zone) (S : List FieldA) (l : SL) (hsz : l.size ≤ 4294967294) (sv pv : Value) (w : World) (up : Nat) (hT : Types w) (hF : Forms w) (hf : FldsAt w sv S) (hp : SlS Z w up pv l) :
    Calls Tryz.prog 15 #[.agg #[sv], pv] w fun e w' => e = .returned (chkV (checkP S l)) ∧ Keeps (fun _ => False) w w' := by
  unfold checkP
  cases hS : schemaB S with
  | false =>
    rw [errS_bad hS, if_pos (by decide)]
    exact tcheck_bad Z S l hsz sv pv w up hT hF hf hp 60 (by decide) (Or.inl ⟨hS, rfl⟩)
  | true =>
    rw [errS_good hS, if_neg (by simp)]
    by_cases hE : checkS l = 0
    · rw [if_neg (by simpa using hE)]
      exact tcheck_fit Z S l hsz sv pv w up hT hF hf hp hS hE
    · rw [if_pos hE]
      exact tcheck_bad Z S l hsz sv pv w up hT hF hf hp _ hE (Or.inr ⟨hS, rfl⟩)
end Go.Proofs.YtijfnlfgehcpaaaGreatDoor
namespace Go.Proofs.YtijfnlfgehcpaaaGreatDoor
open Go.RowKit Go.Maps

/-- A map of counts. -/
def Cnt (w : World) (mb n : Nat) (c : Txt → Nat) : Prop :=
  ∃ D : DataW Unit, w.ownsMap Tryz.prog 9 (plainElem Tryz.prog 3) mb n D ∧ (∀ s, D.atKey (.string s) (.lit (.int .i64 0)) = .lit (.int .i64 (c s))) ∧ ∀ s, c s ≤ n
theorem zero3 (w : World) : (zeroValue 3).run Tryz.prog w = .ok (.int .i64 0) w := by kernel_rfl
theorem Cnt.congr {w : World} {mb n : Nat} {c c' : Txt → Nat} (h : Cnt w mb n c) (e : ∀ s, c s = c' s) : Cnt w mb n c' := by
  have : c = c' := funext e
  rw [← this]
  exact h
theorem Cnt.keep {w w' : World} {mb n : Nat} {c : Txt → Nat} (h : Cnt w mb n c) {F : Nat → Prop} (hk : Keeps F w w') (hF : ¬ F mb) : Cnt w' mb n c := by
  obtain ⟨D, ⟨es, clock, hb, r⟩, h2⟩ := h
  exact ⟨D, ⟨es, clock, (hk.block _ (lt_of_block hb) hF).trans hb, r⟩, h2⟩
theorem Cnt.lt {w : World} {mb n : Nat} {c : Txt → Nat} (h : Cnt w mb n c) : mb < w.heap.size := by
  obtain ⟨D, h1, _⟩ := h
  exact h1.lt
theorem Cnt.made (w : World) : Cnt (w.alloc (.map #[] 0)) w.heap.size 0 (fun _ => 0) :=
  ⟨.map [], World.ownsMap_made w Tryz.prog 9 _, fun _ => rfl, fun _ => Nat.le_refl _⟩
theorem Cnt.look {w : World} {mb n : Nat} {c : Txt → Nat} (h : Cnt w mb n c) {nm : Txt} (hl : nm.length ≤ 1000) :
    (Instr.lookup 89 (.map (some mb)) (str nm) false).run Tryz.prog w = .ok (.int .i64 (c nm)) w := by
  obtain ⟨D, h1, h2, _⟩ := h
  obtain ⟨x, hrun, hat, _⟩ := h1.lookup_int strKeyed Tryz.underlying89 Tryz.underlying3 (zero3 w) (keyStr hl)
  rw [h2 nm] at hat
  simp at hat
  rw [hrun, hat]
end Go.Proofs.YtijfnlfgehcpaaaGreatDoor
