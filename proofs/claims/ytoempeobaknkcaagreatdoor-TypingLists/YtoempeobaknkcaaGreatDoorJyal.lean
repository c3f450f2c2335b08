import Derived.Test.YtoempeobaknkcaaGreatDoorPg
import Derived.Test.YtoempeobaknkcaaGreatDoorJyaq
import Derived.Test.YtoempeobaknkcaaGreatDoorJyaw
import Derived.Test.YtoempeobaknkcaaGreatDoorJyat
import Derived.Maps.OwnSet
namespace Go.Proofs.YtoempeobaknkcaaGreatDoor
open Go.RowKit Go.Maps

/-- An error and a number, as a value. -/
abbrev chkV (p : Int × Nat) : Value := .tuple #[.int .i64 p.1, .int .i64 (p.2 : Int)]

set_option maxRecDepth 100000 in
set_option maxHeartbeats 4000000 in
theorem tcheck_bad (Z : Zone) (S : List FieldA) (l : SL) (hsz : l.size ≤ 4294967294) (sv pv : Value) (w : World) (up : Nat) (hT : Types w) (hF : Forms w) (hf : FldsAt w sv S) (hp : SlS Z w up pv l) (E : Int) (hE : E ≠ 0)
    (h : schemaB S = false ∧ E = 60 ∨ schemaB S = true ∧ checkS l = E) :
    Calls Tryz.prog 14 #[.agg #[sv], pv] w fun e w' => e = .returned (chkV (E, 0)) ∧ Keeps (fun _ => False) w w' := by
  obtain ⟨ao, cap, rfl, hc⟩ := hp.head
  obtain ⟨so, sc, rfl⟩ := RowAt.form hf
  obtain ⟨HB, hxb, hxc⟩ := boxedT w #[.slice so S.length sc] 24
  have c0 := hxc 0 (.slice so S.length sc) rfl
  have HCS := hide (checkSchema_v S (.slice so S.length sc) _ (hT.keepF (unhide HB)) (hf.keepF (unhide HB)))
  have HCE := fun w' (hk : Keeps (fun _ => False) w w') => hide (check_v Z l hsz w' up (.slice ao l.len cap) (hF.keepF hk) (hp.keepF hk))
  clear hT hF hf hp hxc
  rcases h with ⟨h1, rfl⟩ | ⟨h1, h2⟩
  · rw [errS_bad h1] at HCS
    clear h1 HCE
    go_enter Tryz.func14, Tryz.ntmps14
    go_wp2_with (go_at_call 29; refine (unhide HCS).mono ?_; rintro e w1 ⟨rfl, hk1⟩; have HKa := hide ((unhide HB).trans hk1); clear hk1)
    refine bodyPost_ret (v := .tuple #[.int .i64 60, .int .i64 0]) (by simp [results, go_sem]) rfl ?_
    exact ⟨rfl, unhide HKa⟩
  · rw [errS_good h1] at HCS
    rw [h2] at HCE
    have n0 : (E != 0) = true := by simpa using hE
    clear h1 h2 hE
    go_enter Tryz.func14, Tryz.ntmps14
    go_wp2_with (first
      | (go_at_call 29; refine (unhide HCS).mono ?_; rintro e w1 ⟨rfl, hk1⟩; have HKa := hide ((unhide HB).trans hk1); clear hk1)
      | (go_at_call 30; refine (unhide (HCE _ (unhide HKa))).mono ?_; rintro e w2 ⟨rfl, hk1⟩; have HKa := hide ((unhide HKa).trans hk1); clear hk1))
    refine bodyPost_ret (v := .tuple #[.int .i64 E, .int .i64 0]) (by simp [results, go_sem]) rfl ?_
    exact ⟨rfl, unhide HKa⟩

set_option maxRecDepth 100000 in
set_option maxHeartbeats 8000000 in
theorem tcheck_fit (Z : Zone) (S : List FieldA) (l : SL) (hsz : l.size ≤ 4294967294) (sv pv : Value) (w : World) (up : Nat) (hT : Types w) (hF : Forms w) (hf : FldsAt w sv S) (hp : SlS Z w up pv l) (hS : schemaB S = true) (hC : checkS l = 0) :
    Calls Tryz.prog 14 #[.agg #[sv], pv] w fun e w' => e = .returned (chkV (firstBad S (flatS l) 0)) ∧ Keeps (fun _ => False) w w' := by
  have hwl : wellS l = true := by
    unfold checkS at hC
    split at hC
    · cases hC
    · rename_i h; simpa using h
  have hnd : (S.map FieldA.name).Nodup := by
    unfold schemaB at hS
    simp only [Bool.and_eq_true, decide_eq_true_eq] at hS
    exact hS.1.2
  have hnl : (flatS l).len ≤ 4294967294 := by rw [flatS_len]; exact Nat.le_trans (countS_le l) hsz
  obtain ⟨ao, cap, rfl, hc⟩ := hp.head
  obtain ⟨so, sc, rfl⟩ := RowAt.form hf
  obtain ⟨HB, hxb, hxc⟩ := boxedT w #[.slice so S.length sc] 24
  have c0 := hxc 0 (.slice so S.length sc) rfl
  have SB : ∀ w', Keeps (fun _ => False) (w.alloc (.cells #[.slice so S.length sc] 24)) w' → w'.cell? ⟨w.heap.size, 0, none⟩ = some (.slice so S.length sc) := fun w' hk => (hk.cell hxb id).trans c0
  have HSB := hide SB
  have HCS := hide (checkSchema_v S (.slice so S.length sc) _ (hT.keepF (unhide HB)) (hf.keepF (unhide HB)))
  have HCE := fun w' (hk : Keeps (fun _ => False) w w') => hide (check_v Z l hsz w' up (.slice ao l.len cap) (hF.keepF hk) (hp.keepF hk))
  have HNJ := fun w' (hk : Keeps (fun _ => False) w w') => hide (newJudge_v S (.slice so S.length sc) w' (hf.keepF hk) hS)
  have HNU := fun w' (hk : Keeps (fun _ => False) w w') => hide (numbered_v w'.heap.size (l.size + 1) l (by omega) hsz w' 0 (.slice ao l.len cap) (Nat.le_refl _) ((hp.keepF hk).arg (Nat.le_refl _) 0))
  rw [errS_good hS] at HCS
  rw [hC] at HCE
  have HW := hide (flat_well (N := 4294967294) l hsz hwl)
  clear hT hF hf hp hxc SB hS hC hwl
  go_enter Tryz.func14, Tryz.ntmps14
  go_wp2_with (first
    | (go_at_call 29; refine (unhide HCS).mono ?_; rintro e w1 ⟨rfl, hk1⟩; have HKa := hide ((unhide HB).trans hk1); have HKb := hide hk1; have y1 := unhide HSB _ hk1; clear hk1)
    | (go_at_call 30; refine (unhide (HCE _ (unhide HKa))).mono ?_; rintro e w2 ⟨rfl, hk1⟩; have HKa := hide ((unhide HKa).trans hk1); have HKb := hide ((unhide HKb).trans hk1); have y2 := unhide HSB _ (unhide HKb); clear hk1)
    | (go_at_call 31; refine (unhide (HNJ _ (unhide HKa))).mono ?_; rintro e w3 ⟨j, mb, nn, tab, rfl, hJ, hSt, hk1⟩; have HJ := hide hJ; have HSt := hide hSt; have HKa := hide ((unhide HKa).trans hk1); clear hJ hSt hk1)
    | (go_at_call 32; refine (unhide (HNU _ (unhide HKa))).mono ?_; rintro e w4 ⟨fo, fc, n, xs, rfl, hn, hown, hss, hk1⟩; obtain ⟨g, goff, hg, hst⟩ := num_open hn (rowAt_own hown) hss; have HNL := hide hn; have HG := hide hg; have HST := hide hst; have HK4 := hide hk1; have HKa := hide ((unhide HKa).trans hk1); clear hn hown hss hg hst hk1))
  have hn2 : n ≤ 4294967294 := by rw [unhide HNL]; exact hnl
  clear hnl HSB HCS HCE HNJ HNU y1 y2 c0
  go_loopw [24] (fun i wr => ∃ (rest : SL) (k : Nat), i = .int .i64 k ∧ k + rest.len = n ∧ Hid (firstBad S rest k = firstBad S (flatS l) 0) ∧ wellF 4294967294 rest ∧ Keeps (fun _ => False) w4 wr ∧ StIn (argZ w4.heap.size) w4 rest g (goff + k * 5)) (fun i _ => n - (intOf i).toNat)
  case atStart => exact ⟨flatS l, 0, rfl, by rw [Nat.zero_add]; exact (unhide HNL).symm, rfl, unhide HW, Keeps.refl _ _, by simpa using unhide HST⟩
  case round =>
    obtain ⟨rest, k, rfl, hkl, HS, hwf, hkeep, hr⟩ := hrel
    have HK := hide hkeep
    cases rest with
    | nil =>
      simp only [SL.len, Nat.add_zero] at hkl
      have i1 : ¬ (k : Int) < (n : Int) := by omega
      clear hr hkeep hwf
      go_wp2_with fail
      refine bodyPost_ret (v := .tuple #[.int .i64 0, .int .i64 0]) (by simp [results, go_sem]) rfl ?_
      exact ⟨by rw [← unhide HS]; rfl, (unhide HKa).trans (unhide HK)⟩
    | cons op f x t el rest =>
      obtain ⟨h1, h2, h3, h4, ⟨xv, h5, hxs⟩, ⟨tao, tcap, h6, h7, h8⟩, ⟨eao, ecap, j6, j7, j8⟩, h9⟩ := hr
      obtain ⟨hh, hwx, hxz, hwr⟩ := hwf
      simp only [SL.len] at hkl
      obtain ⟨xao, xcap, rfl, hxl⟩ := hxs.head
      obtain rfl := (unhide HG) (by omega)
      have HR := hide h9
      have HWR := hide hwr
      have i1 : (k : Int) < (n : Int) := by omega
      have ix0 : (0 : Int) ≤ (k : Int) := by omega
      have q0 := (hkeep.cell h1 id).trans h3
      have q1 := (hkeep.cell h1 id).trans h4
      have q2 := (hkeep.cell h1 id).trans h5
      have q3 := (hkeep.cell h1 id).trans h6
      have q4 := (hkeep.cell h1 id).trans j6
      obtain ⟨HBk, hkbb, hkc⟩ := boxedT wr #[.int .i64 op, str f, .slice xao x.len xcap, .slice tao t.len tcap, .slice eao el.len ecap] 53
      have k0 := hkc 0 (.int .i64 op) rfl
      have k1 := hkc 1 (str f) rfl
      have k2 := hkc 2 (.slice xao x.len xcap) rfl
      have k3 := hkc 3 (.slice tao t.len tcap) rfl
      have k4 := hkc 4 (.slice eao el.len ecap) rfl
      have hk4 := ((unhide HK4).trans hkeep).trans (unhide HBk)
      have HC := hide (stmtJ_v (argZ w4.heap.size) j mb nn tab S hnd op f x t el _ (.slice tao t.len tcap) (.slice eao el.len ecap) g _ ((unhide HJ).keepF hk4) ((unhide HSt).keepF (unhide HJ).map.lt hk4) (hxs.keepF (hkeep.trans (unhide HBk))) ⟨_, _, _, _, _, _, rfl, rfl⟩ hh hwx hxz)
      have hst : firstBad S (.cons op f x t el rest) k = if ownP S op f x ≠ 0 then (ownP S op f x, k) else firstBad S rest (k + 1) := rfl
      rw [hst] at HS
      obtain ⟨R, hR⟩ : ∃ R, R = ownP S op f x := ⟨_, rfl⟩
      rw [← hR] at HC HS
      clear hkeep h2 h3 h4 h5 h6 h8 h9 j6 j8 hxs hkc hk4 hst hR hh hwx hwr
      by_cases hR0 : R = 0
      · subst hR0
        rw [if_neg (by simp)] at HS
        go_wp2_with (go_at_call 33; refine (unhide HC).mono ?_; rintro e w5 ⟨rfl, hk5⟩; have HK5 := hide (((unhide HK).trans (unhide HBk)).trans hk5); clear hk5)
        go_roundw
        case rel =>
          refine ⟨rest, k + 1, by go_num, by omega, unhide HS, unhide HWR, unhide HK5, ?_⟩
          rw [show goff + (k + 1) * 5 = goff + k * 5 + 5 by omega]
          exact unhide HR
        case measure => simp [intOf]; omega
      · have n0 : (R != 0) = true := by simpa using hR0
        rw [if_pos hR0] at HS
        clear hR0
        go_wp2_with (go_at_call 33; refine (unhide HC).mono ?_; rintro e w5 ⟨rfl, hk5⟩; have HK5 := hide (((unhide HK).trans (unhide HBk)).trans hk5); clear hk5)
        refine bodyPost_ret (v := .tuple #[.int .i64 R, .int .i64 (k : Int)]) (by simp [results, go_sem]) rfl ?_
        exact ⟨by rw [← unhide HS], (unhide HKa).trans (unhide HK5)⟩
theorem tcheck_v (Z : Zone) (S : List FieldA) (l : SL) (hsz : l.size ≤ 4294967294) (sv pv : Value) (w : World) (up : Nat) (hT : Types w) (hF : Forms w) (hf : FldsAt w sv S) (hp : SlS Z w up pv l) :
    Calls Tryz.prog 14 #[.agg #[sv], pv] w fun e w' => e = .returned (chkV (checkP S l)) ∧ Keeps (fun _ => False) w w' := by
  unfold checkP
  cases hS : schemaB S with
  | false =>
    rw [errS_bad hS, if_pos (by decide)]
    exact tcheck_bad Z S l hsz sv pv w up hT hF hf hp 60 (by decide) (Or.inl ⟨hS, rfl⟩)
  | true =>
    rw [errS_good hS, if_neg (by simp)]
    by_cases hE : checkS l = 0
    · rw [if_neg (by simpa using hE)]
      exact tcheck_fit Z S l hsz sv pv w up hT hF hf hp hS hE
    · rw [if_pos hE]
      exact tcheck_bad Z S l hsz sv pv w up hT hF hf hp _ hE (Or.inr ⟨hS, rfl⟩)
end Go.Proofs.YtoempeobaknkcaaGreatDoor
namespace Go.Proofs.YtoempeobaknkcaaGreatDoor
open Go.RowKit Go.Maps

end Go.Proofs.YtoempeobaknkcaaGreatDoor
namespace Go.Proofs.YtoempeobaknkcaaGreatDoor
open Go.RowKit Go.Maps

/-- A map of counts. -/
def Cnt (w : World) (mb n : Nat) (c : Txt → Nat) : Prop :=
  ∃ D : DataW Unit, w.ownsMap Tryz.prog 9 (plainElem Tryz.prog 3) mb n D ∧ (∀ s, D.atKey (.string s) (.lit (.int .i64 0)) = .lit (.int .i64 (c s))) ∧ ∀ s, c s ≤ n
def bump (c : Txt → Nat) (nm : Txt) (s : Txt) : Nat := if s = nm then c s + 1 else c s
theorem zero3 (w : World) : (zeroValue 3).run Tryz.prog w = .ok (.int .i64 0) w := by kernel_rfl
theorem Cnt.congr {w : World} {mb n : Nat} {c c' : Txt → Nat} (h : Cnt w mb n c) (e : ∀ s, c s = c' s) : Cnt w mb n c' := by
  have : c = c' := funext e
  rw [← this]
  exact h
theorem Cnt.keep {w w' : World} {mb n : Nat} {c : Txt → Nat} (h : Cnt w mb n c) {F : Nat → Prop} (hk : Keeps F w w') (hF : ¬ F mb) : Cnt w' mb n c := by
  obtain ⟨D, ⟨es, clock, hb, r⟩, h2⟩ := h
  exact ⟨D, ⟨es, clock, (hk.block _ (lt_of_block hb) hF).trans hb, r⟩, h2⟩
theorem Cnt.lt {w : World} {mb n : Nat} {c : Txt → Nat} (h : Cnt w mb n c) : mb < w.heap.size := by
  obtain ⟨D, h1, _⟩ := h
  exact h1.lt
theorem Cnt.le {w : World} {mb n : Nat} {c : Txt → Nat} (h : Cnt w mb n c) (s : Txt) : c s ≤ n := by
  obtain ⟨D, _, _, h1⟩ := h
  exact h1 s
theorem Cnt.made (w : World) : Cnt (w.alloc (.map #[] 0)) w.heap.size 0 (fun _ => 0) :=
  ⟨.map [], World.ownsMap_made w Tryz.prog 9 _, fun _ => rfl, fun _ => Nat.le_refl _⟩
theorem Cnt.look {w : World} {mb n : Nat} {c : Txt → Nat} (h : Cnt w mb n c) {nm : Txt} (hl : nm.length ≤ 1000) :
    (Instr.lookup 75 (.map (some mb)) (str nm) false).run Tryz.prog w = .ok (.int .i64 (c nm)) w := by
  obtain ⟨D, h1, h2, _⟩ := h
  obtain ⟨x, hrun, hat, _⟩ := h1.lookup_int strKeyed Tryz.underlying75 Tryz.underlying3 (zero3 w) (keyStr hl)
  rw [h2 nm] at hat
  simp at hat
  rw [hrun, hat]
theorem Cnt.store {w : World} {mb n : Nat} {c : Txt → Nat} (h : Cnt w mb n c) {nm : Txt} (hl : nm.length ≤ 1000) (hn : n ≤ 4611686018427387904) :
    ∃ w', (Instr.mapUpdate 75 (.map (some mb)) (str nm) (.int .i64 ((c nm : Int) + 1))).run Tryz.prog w = .ok () w' ∧ Cnt w' mb (n + 1) (bump c nm) ∧ Keeps (fun k => k = mb) w w' := by
  obtain ⟨D, h1, h2, h3⟩ := h
  have hc := h3 nm
  have hw : (Lit.int .i64 ((c nm : Int) + 1)).wf = true := by simp [Lit.wf, IntKind.min, IntKind.max, IntKind.signed, IntKind.bits]; omega
  obtain ⟨w', hrun, hm, ht⟩ := h1.store strKeyed Tryz.underlying75 (by unfold maxLen; omega) (keyStr hl) (plainElem_int Tryz.underlying3 hw)
  refine ⟨w', hrun, ⟨_, hm, fun s => ?_, fun s => ?_⟩, (Keeps.refl _ _).grown ht.grown (fun q e _ => by simpa using e.symm)⟩
  · unfold bump
    by_cases e : s = nm
    · subst e
      rw [atKey_put_same h1.isMap (isKeyStr _), if_pos rfl]
      simp
    · rw [atKey_put_other (fun h => e (by simpa using h)), if_neg e, h2 s]
  · have := h3 s
    unfold bump
    split <;> omega
/-- How often a list of expressions names a field. -/
def cntE : EL → Txt → Nat
  | .nil, _ => 0
  | .cons op _ s kids rest, x => (if (op = 4 ∨ op = 5) ∧ s = x then 1 else 0) + cntE kids x + cntE rest x
theorem rootB_name {op n : Int} {s : Txt} {k : Nat} (h : rootB op n s k = true) (ho : op = 4 ∨ op = 5) : s.length ≤ 1000 := by
  unfold rootB leafB at h
  rw [if_neg (show ¬ op = 1 by omega), if_neg (show ¬ op = 2 by omega), if_neg (show ¬ op = 3 by omega), if_pos ho] at h
  simp only [Bool.and_eq_true] at h
  have := name_short h.2.2.2
  omega

set_option maxRecDepth 100000 in
set_option maxHeartbeats 4000000 in
theorem countNames_v (B mb : Nat) (hBm : B ≤ mb) (N : Nat) : ∀ (l : EL), l.size < N → l.size ≤ 4294967294 → wellE l = true → ∀ (w : World) (up : Nat) (v : Value) (n : Nat) (c : Txt → Nat), SlE (argZ B) w up v l → Cnt w mb n c → n + l.size ≤ 4611686018427387904 →
    Calls Tryz.prog 34 #[.map (some mb), v] w fun e w' => e = .returned (.tuple #[]) ∧ ∃ n', n' ≤ n + l.size ∧ Cnt w' mb n' (fun x => c x + cntE l x) ∧ Keeps (fun k => k = mb) w w' := by
  induction N with
  | zero => intro l h; omega
  | succ N ih =>
    intro l hsz hlen' hwl w up v n c hS hC hn
    have hlen : l.len ≤ 4294967294 := by have := EL.len_le l; omega
    obtain ⟨ao, cap, b, off, rfl, hcap, ha, hx⟩ := hS.open
    have IH := hide ih
    have HX := hide hx
    have HA := hide ha
    have HC := hide hC
    have HWL := hide hwl
    clear hS ih hx ha hC hwl
    go_enter Tryz.func34, Tryz.ntmps34
    go_wp2_with fail
    go_loopw [8] (fun i wr => ∃ (rest : EL) (k m : Nat) (d : Txt → Nat), i = .int .i64 k ∧ k + rest.len = l.len ∧ rest.size ≤ l.size ∧ wellE rest = true ∧ m + rest.size ≤ n + l.size ∧ Hid (∀ x, d x + cntE rest x = c x + cntE l x) ∧ Cnt wr mb m d ∧ Keeps (fun k => k = mb) w wr ∧ ExIn (argZ B) wr rest b (off + k * 4)) (fun i _ => l.len - (intOf i).toNat)
    case atStart => exact ⟨l, 0, n, c, rfl, by omega, Nat.le_refl _, unhide HWL, Nat.le_refl _, fun _ => rfl, unhide HC, Keeps.refl _ _, by simpa using unhide HX⟩
    case round =>
      obtain ⟨rest, k, m, d, rfl, hkl, hrs, hwr, hm, HD, hc, hkeep, hr⟩ := hrel
      have HK := hide hkeep
      have HCN := hide hc
      cases rest with
      | nil =>
        simp only [EL.len, EL.size] at hkl hm hrs
        have i1 : ¬ (k : Int) < (l.len : Int) := by omega
        clear hc hkeep hr hwr
        go_wp2_with fail
        go_end0
        exact ⟨rfl, m, by omega, (unhide HCN).congr (fun x => by have := unhide HD x; simpa [cntE] using this), unhide HK⟩
      | cons op nn s kids rest =>
        obtain ⟨h1, h2, h3, h4, h5, ⟨kao, kcap, h6, h7, h8⟩, h9⟩ := hr
        simp only [EL.len, EL.size] at hkl hm hrs
        simp only [wellE, Bool.and_eq_true] at hwr
        obtain ⟨hroot, hwk, hwr⟩ := hwr
        obtain ⟨rfl, hp⟩ := (unhide HA) (by omega)
        have HKID : Hid (SlE (argZ B) wr b (.slice kao kids.len kcap) kids) := ⟨kao, kcap, rfl, h7, h8⟩
        have HR := hide h9
        have i1 : (k : Int) < (l.len : Int) := by omega
        have ix0 : (0 : Int) ≤ (k : Int) := by omega
        obtain ⟨HB, hxb, hxc⟩ := boxedT wr #[.int .i64 op, .int .i64 nn, str s, .slice kao kids.len kcap] 57
        have y0 := hxc 0 (.int .i64 op) rfl
        have y2 := hxc 2 (str s) rfl
        have y3 := hxc 3 (.slice kao kids.len kcap) rfl
        have HWK := hide hwk
        have HWR := hide hwr
        have hc1 : Cnt (wr.alloc (.cells #[.int .i64 op, .int .i64 nn, str s, .slice kao kids.len kcap] 57)) mb m d := hc.keep (unhide HB) id
        have hmlt := hc.lt
        have HKA : Hid (Keeps (fun k => k = mb) w (wr.alloc (.cells #[.int .i64 op, .int .i64 nn, str s, .slice kao kids.len kcap] 57))) := (unhide HK).alloc _
        have HKB : Hid (Keeps (fun k => k = mb) wr (wr.alloc (.cells #[.int .i64 op, .int .i64 nn, str s, .slice kao kids.len kcap] 57))) := (Keeps.refl _ wr).alloc _
        by_cases ho : op = 4 ∨ op = 5
        · have hl := rootB_name hroot ho
          have hlk := hc1.look hl
          obtain ⟨w1, hst, hc2, hk2⟩ := hc1.store hl (by omega)
          have q3 := (hk2.cell (o := 3) hxb (show ¬ wr.heap.size = mb by omega)).trans y3
          have HCALL := hide (unhide IH kids (by omega) (by omega) (unhide HWK) w1 b (.slice kao kids.len kcap) (m + 1) _ ((unhide HKID).argKeep ((unhide HKB).trans hk2) (fun k e => by omega)) hc2 (by omega))
          have HK2 := hide hk2
          have hd1 : d s ≤ 4611686018427387904 := by have := hc1.le s; omega
          clear hc hkeep h2 h8 h9 hxc hc1 hc2 hk2 hroot hwk hwr hl
          rcases ho with rfl | rfl
          · go_wp2_with (go_at_call 34; refine (unhide HCALL).mono ?_; rintro e w2 ⟨rfl, n2, hn2, hc3, hk3⟩; have HC3 := hide hc3; have HK3 := hide hk3; clear hc3 hk3)
            go_roundw
            case rel =>
              refine ⟨rest, k + 1, n2, _, by go_num, by omega, by omega, unhide HWR, by omega, fun x => ?_, unhide HC3, ((unhide HKA).trans (unhide HK2)).trans (unhide HK3), ?_⟩
              · have h := unhide HD x
                simp only [cntE] at h
                unfold bump
                by_cases e : x = s
                · subst e; simp at h ⊢; omega
                · rw [if_neg e]; rw [if_neg (fun h => e h.2.symm)] at h; omega
              · rw [show off + (k + 1) * 4 = off + k * 4 + 4 by omega]
                exact (unhide HR).argKeep (((unhide HKB).trans (unhide HK2)).trans (unhide HK3)) (fun k e => by omega)
            case measure => simp [intOf]; omega
          · go_wp2_with (go_at_call 34; refine (unhide HCALL).mono ?_; rintro e w2 ⟨rfl, n2, hn2, hc3, hk3⟩; have HC3 := hide hc3; have HK3 := hide hk3; clear hc3 hk3)
            go_roundw
            case rel =>
              refine ⟨rest, k + 1, n2, _, by go_num, by omega, by omega, unhide HWR, by omega, fun x => ?_, unhide HC3, ((unhide HKA).trans (unhide HK2)).trans (unhide HK3), ?_⟩
              · have h := unhide HD x
                simp only [cntE] at h
                unfold bump
                by_cases e : x = s
                · subst e; simp at h ⊢; omega
                · rw [if_neg e]; rw [if_neg (fun h => e h.2.symm)] at h; omega
              · rw [show off + (k + 1) * 4 = off + k * 4 + 4 by omega]
                exact (unhide HR).argKeep (((unhide HKB).trans (unhide HK2)).trans (unhide HK3)) (fun k e => by omega)
            case measure => simp [intOf]; omega
        · have o4 : (op == 4) = false := by simp; omega
          have o5 : (op == 5) = false := by simp; omega
          have HCALL := hide (unhide IH kids (by omega) (by omega) (unhide HWK) _ b (.slice kao kids.len kcap) m _ ((unhide HKID).argKeep (unhide HKB) (fun k e => by omega)) hc1 (by omega))
          have HO := hide ho
          clear hc hkeep h2 h8 h9 hxc hc1 hroot hwk hwr ho
          go_wp2_with (go_at_call 34; refine (unhide HCALL).mono ?_; rintro e w2 ⟨rfl, n2, hn2, hc3, hk3⟩; have HC3 := hide hc3; have HK3 := hide hk3; clear hc3 hk3)
          go_roundw
          case rel =>
            refine ⟨rest, k + 1, n2, _, by go_num, by omega, by omega, unhide HWR, by omega, fun x => ?_, unhide HC3, (unhide HKA).trans (unhide HK3), ?_⟩
            · have h := unhide HD x
              simp only [cntE] at h
              rw [if_neg (fun h => (unhide HO) h.1)] at h
              omega
            · rw [show off + (k + 1) * 4 = off + k * 4 + 4 by omega]
              exact (unhide HR).argKeep ((unhide HKB).trans (unhide HK3)) (fun k e => by omega)
          case measure => simp [intOf]; omega
end Go.Proofs.YtoempeobaknkcaaGreatDoor
