import Derived.Test.YtoempeobaknkcaaGreatDoorJyan
import Derived.Test.YtoempeobaknkcaaGreatDoorJyax
namespace Go.Proofs.YtoempeobaknkcaaGreatDoor
open Go.RowKit Go.Maps

/-- How often a program's statements, laid flat, read a field; how often they write it. -/
def rdF : SL → Txt → Nat
  | .nil, _ => 0
  | .cons op f x _ _ r, s => cntE x s + (if (op = 2 ∨ op = 3 ∨ op = 4) ∧ f = s then 1 else 0) + rdF r s
def wrF : SL → Txt → Nat
  | .nil, _ => 0
  | .cons op f _ _ _ r, s => (if (op = 1 ∨ op = 2 ∨ op = 3 ∨ op = 4 ∨ op = 5) ∧ f = s then 1 else 0) + wrF r s
/-- What Fields answers. -/
def fieldsP (S : List FieldA) (l : SL) : List Txt × List Txt × Int :=
  if (checkP S l).1 ≠ 0 then ([], [], (checkP S l).1) else (pick S (fun s => decide (0 < rdF (flatS l) s)), pick S (fun s => decide (0 < wrF (flatS l) s)), 0)
def weight : SL → Nat
  | .nil => 0
  | .cons _ _ x _ _ r => x.size + 2 + weight r
theorem weight_app : ∀ l m : SL, weight (l.app m) = weight l + weight m
  | .nil, m => by simp [SL.app, weight]
  | .cons _ _ x _ _ r, m => by simp only [SL.app, weight, weight_app r m]; omega
theorem weight_flat : ∀ l : SL, weight (flatS l) ≤ 2 * l.size
  | .nil => by simp [flatS, weight]
  | .cons _ _ x t e r => by
    have h1 := weight_flat t
    have h2 := weight_flat e
    have h3 := weight_flat r
    simp only [flatS, weight, weight_app, SL.size]
    omega
/-- Where the numbered statements lie. -/
theorem nums_open {base n c : Nat} {w' : World} {ao : Option Addr} {xs : List Value} (ho : w'.ownsRow base 53 5 (.slice ao n c) n xs) :
    ∃ g go, base ≤ g ∧ (n ≠ 0 → ao = some ⟨g, go, none⟩) ∧ ∀ j x, xs[j]? = some x → g < w'.heap.size ∧ w'.cell? ⟨g, go + j, none⟩ = some x := by
  rcases Nat.eq_zero_or_pos n with h0 | h0
  · refine ⟨base, 0, Nat.le_refl _, fun h => absurd h0 h, fun i x hx => ?_⟩
    have hl := ho.1
    rw [h0, Nat.zero_mul] at hl
    rw [List.eq_nil_of_length_eq_zero hl] at hx
    simp at hx
  · obtain ⟨g, go, cap, e, hg, hc⟩ := (rowAt_own ho).cells h0
    simp at e
    obtain ⟨rfl, rfl⟩ := e
    exact ⟨g, go, (ho.lt g rfl).1, fun _ => rfl, fun j x hx => ⟨hg, hc j x hx⟩⟩
theorem cnt_two {w1 w4 : World} (hk : Keeps (fun _ => False) ((w1.alloc (.map #[] 0)).alloc (.map #[] 0)) w4) : Cnt w4 w1.heap.size 0 (fun _ => 0) ∧ Cnt w4 (w1.heap.size + 1) 0 (fun _ => 0) := by
  have h := Cnt.made (w1.alloc (.map #[] 0))
  have e : (w1.alloc (.map #[] 0)).heap.size = w1.heap.size + 1 := by simp
  rw [e] at h
  exact ⟨((Cnt.made w1).keep ((Keeps.refl (fun _ => False) _).alloc _) id).keep hk id, h.keep hk id⟩
/-- What is left of the numbered statements. -/
def NIn (B : Nat) (w4 : World) (F : Nat → Prop) (g o : Nat) (rest : SL) (yr : List Value) (wr : World) : Prop :=
  SsIn (argZ B) wr rest yr ∧ (∀ j x, yr[j]? = some x → g < wr.heap.size ∧ wr.cell? ⟨g, o + j, none⟩ = some x) ∧ Keeps F w4 wr
theorem NIn.step {B g o : Nat} {w4 wr wa w' : World} {F : Nat → Prop} {op : Int} {f : Txt} {x : EL} {t e r : SL} {a1 a2 a3 a4 a5 : Value} {ys : List Value} (h : NIn B w4 F g o (.cons op f x t e r) (a1 :: a2 :: a3 :: a4 :: a5 :: ys) wr) (ha : Keeps (fun _ => False) wr wa) (hk : Keeps F wa w') (hF : ∀ q, F q → B ≤ q) (hg : ¬ F g) : NIn B w4 F g (o + 5) r ys w' := by
  obtain ⟨h1, h2, h3⟩ := h
  have hk2 : Keeps F wr w' := (ha.mono (fun _ _ h => h.elim)).trans hk
  obtain ⟨xv, tv, ev, xs', e', _, _, _, hs⟩ := h1
  simp only [List.cons.injEq] at e'
  obtain ⟨_, _, _, _, _, rfl⟩ := e'
  refine ⟨hs.argKeep hk2 hF, fun j x hx => ?_, h3.trans hk2⟩
  obtain ⟨hl, hc⟩ := h2 (j + 5) x (by simpa using hx)
  rw [show o + 5 + j = o + (j + 5) by omega]
  exact ⟨Nat.lt_of_lt_of_le hl hk2.size, (hk2.cell hl hg).trans hc⟩
theorem headS_name {op : Int} {f : Txt} {a b c : Nat} (h : headS op f a b c = true) (ho : op = 1 ∨ op = 2 ∨ op = 3 ∨ op = 4 ∨ op = 5) : f.length ≤ 1000 := by
  unfold headS at h
  split at h
  · simp only [Bool.and_eq_true] at h
    have := name_short h.1
    omega
  · rw [if_pos (by omega)] at h
    simp only [Bool.and_eq_true] at h
    have := name_short h.1
    omega
theorem checkP_zero {S : List FieldA} {l : SL} (h : (checkP S l).1 = 0) : schemaB S = true ∧ checkS l = 0 := by
  unfold checkP at h
  cases hs : schemaB S with
  | false => rw [errS_bad hs, if_pos (by decide)] at h; simp at h
  | true =>
    rw [errS_good hs, if_neg (by simp)] at h
    by_cases hc : checkS l = 0
    · exact ⟨rfl, hc⟩
    · rw [if_pos hc] at h
      exact absurd h hc

set_option maxRecDepth 100000 in
set_option maxHeartbeats 4000000 in
theorem tfields_bad (Z : Zone) (S : List FieldA) (l : SL) (hsz : l.size ≤ 4294967294) (sv pv : Value) (w : World) (up : Nat) (hT : Types w) (hF : Forms w) (hf : FldsAt w sv S) (hp : SlS Z w up pv l) (hE : (checkP S l).1 ≠ 0) :
    Calls Tryz.prog 15 #[.agg #[sv], pv] w fun e w' => e = .returned (.tuple #[.slice none 0 0, .slice none 0 0, .int .i64 (checkP S l).1]) ∧ Keeps (fun _ => False) w w' := by
  obtain ⟨ao, cap, rfl, hc⟩ := hp.head
  obtain ⟨so, sc, rfl⟩ := RowAt.form hf
  obtain ⟨HB, hxb, hxc⟩ := boxedT w #[.slice so S.length sc] 24
  have c0 := hxc 0 (.slice so S.length sc) rfl
  have HCK := fun w' (hk : Keeps (fun _ => False) w w') => hide (tcheck_v Z S l hsz (.slice so S.length sc) (.slice ao l.len cap) w' up (hT.keepF hk) (hF.keepF hk) (hf.keepF hk) (hp.keepF hk))
  obtain ⟨⟨E, at'⟩, hpv⟩ : ∃ p, p = checkP S l := ⟨_, rfl⟩
  rw [← hpv] at hE HCK ⊢
  have hE' : (E != 0) = true := by simpa using hE
  clear hT hF hf hp hxc hpv hE
  go_enter Tryz.func15, Tryz.ntmps15
  go_wp2_with (go_at_call 14; refine (unhide (HCK _ (unhide HB))).mono ?_; rintro e w1 ⟨rfl, hk1⟩; have HKa := hide ((unhide HB).trans hk1); clear hk1)
  refine bodyPost_ret (v := .tuple #[.slice none 0 0, .slice none 0 0, .int .i64 E]) (by simp [results, go_sem]) rfl ?_
  exact ⟨rfl, unhide HKa⟩

set_option maxRecDepth 100000 in
set_option maxHeartbeats 4000000 in
theorem tfields_fit (Z : Zone) (S : List FieldA) (l : SL) (hsz : l.size ≤ 4294967294) (sv pv : Value) (w : World) (up : Nat) (hT : Types w) (hF : Forms w) (hf : FldsAt w sv S) (hp : SlS Z w up pv l) (hE : (checkP S l).1 = 0) :
    Calls Tryz.prog 15 #[.agg #[sv], pv] w fun e w' => ∃ rv wv, e = .returned (.tuple #[rv, wv, .int .i64 0]) ∧ NmAt w' w.heap.size rv (pick S (fun s => decide (0 < rdF (flatS l) s))) ∧ NmAt w' w.heap.size wv (pick S (fun s => decide (0 < wrF (flatS l) s))) ∧ (∀ q, rv.ownBlock = some q → wv.ownBlock ≠ some q) ∧ Keeps (fun _ => False) w w' := by
  obtain ⟨hS, hC⟩ := checkP_zero hE
  have hwl := checkS_well hC
  have hnl : (flatS l).len ≤ 4294967294 := by rw [flatS_len]; exact Nat.le_trans (countS_le l) hsz
  obtain ⟨ao, cap, rfl, hc⟩ := hp.head
  obtain ⟨so, sc, rfl⟩ := RowAt.form hf
  obtain ⟨HB, hxb, hxc⟩ := boxedT w #[.slice so S.length sc] 24
  have c0 := hxc 0 (.slice so S.length sc) rfl
  have SB : ∀ w', Keeps (fun _ => False) (w.alloc (.cells #[.slice so S.length sc] 24)) w' → w'.cell? ⟨w.heap.size, 0, none⟩ = some (.slice so S.length sc) := fun w' hk => (hk.cell hxb id).trans c0
  have HSB := hide SB
  have HCK := fun w' (hk : Keeps (fun _ => False) w w') => hide (tcheck_v Z S l hsz (.slice so S.length sc) (.slice ao l.len cap) w' up (hT.keepF hk) (hF.keepF hk) (hf.keepF hk) (hp.keepF hk))
  have HNU := fun w' (hk : Keeps (fun _ => False) w w') => hide (numbered_v w.heap.size (l.size + 1) l (by omega) hsz w' 0 (.slice ao l.len cap) hk.size ((hp.arg (Nat.le_refl _) 0).keepF hk))
  obtain ⟨⟨E, at'⟩, hpv⟩ : ∃ p, p = checkP S l := ⟨_, rfl⟩
  rw [← hpv] at hE HCK
  subst hE
  have hmm := @run_makeMap Tryz.prog
  have HF := hide hf
  have HW := hide (flat_well (N := 4294967294) l hsz hwl)
  clear hT hF hf hp hxc hpv SB hC hwl
  go_enter Tryz.func15, Tryz.ntmps15
  go_wp2_with (first
    | (go_at_call 14; refine (unhide (HCK _ (unhide HB))).mono ?_; rintro e w1 ⟨rfl, hk1⟩; have HKa := hide ((unhide HB).trans hk1); have HKb := hide hk1; clear hk1)
    | (go_at_call 32; refine (unhide (HNU _ (((unhide HKa).alloc _).alloc _))).mono ?_; rintro e w4 ⟨fo, fc, n, xs, rfl, hn, hown, hss, hk4⟩; obtain ⟨g, goff, hgb, hg, hcl⟩ := nums_open hown; have HNL := hide hn; have HG := hide hg; have HCL := hide hcl; have HGB := hide hgb; have HSS := hide hss; have HC1 := hide (cnt_two hk4).1; have HC2 := hide (cnt_two hk4).2; have HK4 := hide ((((unhide HKa).alloc _).alloc _).trans hk4); have HK4b := hide ((((unhide HKb).alloc _).alloc _).trans hk4); clear hn hg hcl hown hss hk4 hgb))
  have hn2 : n ≤ 4294967294 := by rw [unhide HNL]; exact hnl
  have hw1 : w.heap.size ≤ w1.heap.size := (unhide HKa).size
  have hgm : w1.heap.size + 2 ≤ g := by have := unhide HGB; simpa using this
  have hwt : weight (flatS l) ≤ 8589934588 := by have := weight_flat l; omega
  clear hnl HCK HNU c0 HGB
  go_loopw [27] (fun i wr => ∃ (rest : SL) (yr : List Value) (k n1 n2 : Nat) (d1 d2 : Txt → Nat), i = .int .i64 k ∧ k + rest.len = n ∧ wellF 4294967294 rest ∧ Hid (∀ s, d1 s + rdF rest s = rdF (flatS l) s) ∧ Hid (∀ s, d2 s + wrF rest s = wrF (flatS l) s) ∧ n1 + weight rest ≤ 8589934588 ∧ n2 + weight rest ≤ 8589934588 ∧ Cnt wr w1.heap.size n1 d1 ∧ Cnt wr (w1.heap.size + 1) n2 d2 ∧ NIn w.heap.size w4 (fun q => q = w1.heap.size ∨ q = w1.heap.size + 1) g (goff + k * 5) rest yr wr) (fun i _ => n - (intOf i).toNat)
  case atStart => exact ⟨flatS l, xs, 0, 0, 0, fun _ => 0, fun _ => 0, rfl, by rw [Nat.zero_add]; exact (unhide HNL).symm, unhide HW, fun s => Nat.zero_add _, fun s => Nat.zero_add _, by omega, by omega, unhide HC1, unhide HC2, unhide HSS, by simpa using unhide HCL, Keeps.refl _ _⟩
  case round =>
    obtain ⟨rest, yr, k, n1, n2, d1, d2, rfl, hkl, hwf, HR1, HR2, hw1', hw2', hd1, hd2, hin⟩ := hrel
    have HIN := hide hin
    have HD1 := hide hd1
    have HD2' := hide hd2
    cases rest with
    | nil =>
      simp only [SL.len, Nat.add_zero] at hkl
      have i1 : ¬ (k : Int) < (n : Int) := by omega
      have hkw := hin.2.2
      have hs1 : w.heap.size + 1 ≤ w1.heap.size := by have := (unhide HKb).size; simpa using this
      have hs4 := (unhide HK4b).size
      have cr := (hkw.cell (o := 0) (Nat.lt_of_lt_of_le hxb hs4) (show ¬ (w.heap.size = w1.heap.size ∨ w.heap.size = w1.heap.size + 1) by omega)).trans (unhide HSB _ (unhide HK4b))
      have hkr : Keeps (fun _ => False) w wr := (unhide HK4).narrow hkw (fun q e => by omega)
      have HKR := hide hkr
      have hwl := hkr.size
      have hSB := hS
      unfold schemaB at hSB
      simp only [Bool.and_eq_true, decide_eq_true_eq] at hSB
      have hl8 := hSB.1.1.1.2
      have hnm : ∀ f ∈ S, f.name.length ≤ 8 := by
        intro f hf
        have h := List.all_eq_true.1 hSB.1.1.2 f hf
        unfold fieldOK at h
        simp only [Bool.and_eq_true] at h
        exact name_short h.1
      have HN1 := fun (w' : World) (hk : Keeps (fun _ => False) wr w') => hide (namesOf_v S hl8 hnm w1.heap.size n1 d1 (.slice so S.length sc) w' (((unhide HF).keepF hkr).keepF hk) (hd1.keep hk id))
      have HN2 := fun (w' : World) (hk : Keeps (fun _ => False) wr w') => hide (namesOf_v S hl8 hnm (w1.heap.size + 1) n2 d2 (.slice so S.length sc) w' (((unhide HF).keepF hkr).keepF hk) (hd2.keep hk id))
      have e1 : d1 = rdF (flatS l) := funext (fun s => by have := unhide HR1 s; simpa [rdF] using this)
      have e2 : d2 = wrF (flatS l) := funext (fun s => by have := unhide HR2 s; simpa [wrF] using this)
      rw [e1] at HN1
      rw [e2] at HN2
      have hxw : w.heap.size < wr.heap.size := by have := hkw.size; omega
      have CR : ∀ w', Keeps (fun _ => False) wr w' → w'.cell? ⟨w.heap.size, 0, none⟩ = some (.slice so S.length sc) := fun w' hk => (hk.cell hxw id).trans cr
      have HCR := hide CR
      have HWL := hide hwl
      have mk1 : True := trivial
      have kr0 : Hid (Keeps (fun _ => False) wr wr) := Keeps.refl _ _
      clear hd1 hd2 hin hkw hkr hSB hnm e1 e2 hwf hw1' hw2' HR1 HR2 HIN HD1 HD2' hs1 hs4 CR hl8 hwl hkl
      go_wp2_with fail
      go_region_held3 (fun w' => w'.cell? ⟨w.heap.size, 0, none⟩ = some (.slice so S.length sc)) (first | with_reducible exact unhide HCR _ (unhide kr0) | with_reducible exact unhide HCR _ (unhide kr0).drew)
        ((first
          | (clear mk1; go_at_call 35; refine (unhide (HN1 _ (by first | with_reducible exact unhide kr0 | with_reducible exact (unhide kr0).drew))).mono ?_; rintro e wA ⟨v1, rfl, hv1, hkA⟩; have HV1 := hide hv1; have HKA := hide hkA; have kr1 : Keeps (fun _ => False) wr wA := (by first | with_reducible exact (unhide kr0).trans hkA | with_reducible exact (unhide kr0).drew.trans hkA); have kr0 := hide kr1; clear kr1 hv1 hkA; have mk2 : True := trivial)
          | (clear mk2; go_at_call 35; refine (unhide (HN2 _ (by first | with_reducible exact unhide kr0 | with_reducible exact (unhide kr0).drew))).mono ?_; rintro e wB ⟨v2, rfl, hv2, hkB⟩; have HV2 := hide hv2; have HKB := hide hkB; have kr1 : Keeps (fun _ => False) wr wB := (by first | with_reducible exact (unhide kr0).trans hkB | with_reducible exact (unhide kr0).drew.trans hkB); have kr0 := hide kr1; clear kr1 hv2 hkB)))
      all_goals go_wp2_with fail
      all_goals
        refine bodyPost_ret (v := .tuple #[v1, v2, .int .i64 0]) (by simp [results, go_sem]) rfl ?_
        exact ⟨v1, v2, rfl, ownsRow_lower (ownsRow_kept (unhide HV1) (by first | exact unhide HKB | exact (Keeps.refl _ _).drew.trans (unhide HKB)) (fun _ _ => id)) (unhide HWL), ownsRow_lower (unhide HV2) (Nat.le_trans (unhide HWL) (unhide HKA).size), fun q e f => by (have h1 := (World.ownsRow.lt (unhide HV1) q e).2; have h2 := (World.ownsRow.lt (unhide HV2) q f).1; first | omega | (simp at h1 h2; omega)), (unhide HKR).trans (unhide kr0)⟩
    | cons op f x t el rest =>
      obtain ⟨xv, tv, ev, xs2, rfl, hsx, hst', hse, hsr⟩ := hin.1
      obtain ⟨xao, xcap, rfl, hxl⟩ := hsx.head
      obtain ⟨tao, tcap, rfl, htl⟩ := hst'.head
      obtain ⟨eao, ecap, rfl, hel⟩ := hse.head
      obtain ⟨hh, hwx, hxz, hwr⟩ := hwf
      simp only [SL.len] at hkl
      simp only [weight] at hw1' hw2'
      obtain rfl := (unhide HG) (by omega)
      have z0 := (hin.2.1 0 _ rfl).2
      have z1 := (hin.2.1 1 _ rfl).2
      have z2 := (hin.2.1 2 _ rfl).2
      have z3 := (hin.2.1 3 _ rfl).2
      have z4 := (hin.2.1 4 _ rfl).2
      rw [Nat.add_zero] at z0
      have i1 : (k : Int) < (n : Int) := by omega
      have ix0 : (0 : Int) ≤ (k : Int) := by omega
      obtain ⟨HB2, hxb2, hxc2⟩ := boxedT wr #[.int .i64 op, str f, .slice xao x.len xcap, .slice tao t.len tcap, .slice eao el.len ecap] 53
      have y0 := hxc2 0 (.int .i64 op) rfl
      have y1 := hxc2 1 (str f) rfl
      have y2 := hxc2 2 (.slice xao x.len xcap) rfl
      have hlt2 := hd2.lt
      have hbm1 : ¬ wr.heap.size = w1.heap.size := by omega
      have hm12 : ¬ w1.heap.size + 1 = w1.heap.size := by omega
      have hm21 : ¬ w1.heap.size = w1.heap.size + 1 := by omega
      have HWR := hide hwr
      have HD2 := hide (hd2.keep (unhide HB2) id)
      have HCALL := hide (countNames_v w.heap.size w1.heap.size (by omega) (x.size + 1) x (by omega) hxz hwx _ 0 (.slice xao x.len xcap) n1 d1 (hsx.keepF (unhide HB2)) (hd1.keep (unhide HB2) id) (by omega))
      have HKT := hide (fun (w' : World) (hk : Keeps (fun q => q = w1.heap.size ∨ q = w1.heap.size + 1) (wr.alloc (.cells #[.int .i64 op, str f, .slice xao x.len xcap, .slice tao t.len tcap, .slice eao el.len ecap] 53)) w') => hin.step (unhide HB2) hk (fun q e => by omega) (by omega))
      have HHS := hide hh
      clear hd1 hd2 hin hsx hst' hse hsr hh hwx hwr hxc2
      by_cases ho : op = 1 ∨ op = 5
      · have hfl : f.length ≤ 1000 := headS_name (unhide HHS) (by omega)
        rcases ho with rfl | rfl
        · go_wp2_with (go_at_call 34; refine (unhide HCALL).mono ?_; rintro e w5 ⟨rfl, n5, hn5, hc5', hk5⟩; obtain ⟨d5, HD5, hc5⟩ : ∃ d5 : Txt → Nat, Hid (∀ s, d5 s = d1 s + cntE x s) ∧ Cnt w5 w1.heap.size n5 d5 := ⟨_, fun _ => rfl, hc5'⟩; have v0 := (hk5.cell (o := 0) hxb2 hbm1).trans y0; have v1 := (hk5.cell (o := 1) hxb2 hbm1).trans y1; have hc52 := (unhide HD2).keep hk5 hm12; have hlk := hc52.look hfl; have hle := hc52.le f; obtain ⟨w6, hst, hc6, hk6⟩ := hc52.store hfl (by omega); have HC6 := hide hc6; have HK6 := hide hk6; clear hc6 hk6; have HC5 := hide hc5; have HC52 := hide hc52; have HK5 := hide hk5; clear hc5' hc5 hc52 hk5)
          go_roundw
          case rel =>
            refine ⟨rest, xs2, k + 1, n5, n2 + 1, d5, _, by go_num, by omega, unhide HWR, fun s => ?_, fun s => ?_, by omega, by omega, (unhide HC5).keep (unhide HK6) hm21, unhide HC6, ?_⟩
            · have h := unhide HR1 s
              have h5 := unhide HD5 s
              simp only [rdF] at h
              rw [if_neg (fun e => by omega)] at h
              omega
            · have h := unhide HR2 s
              simp only [wrF] at h
              unfold bump
              by_cases e : s = f
              · subst e
                simp at h ⊢
                omega
              · rw [if_neg (fun h => e h.2.symm)] at h
                rw [if_neg e]
                omega
            · rw [show goff + (k + 1) * 5 = goff + k * 5 + 5 by omega]
              exact unhide HKT _ (((unhide HK5).mono (fun q _ e => Or.inl e)).trans ((unhide HK6).mono (fun q _ e => Or.inr e)))
          case measure => simp [intOf]; omega
        · go_wp2_with (go_at_call 34; refine (unhide HCALL).mono ?_; rintro e w5 ⟨rfl, n5, hn5, hc5', hk5⟩; obtain ⟨d5, HD5, hc5⟩ : ∃ d5 : Txt → Nat, Hid (∀ s, d5 s = d1 s + cntE x s) ∧ Cnt w5 w1.heap.size n5 d5 := ⟨_, fun _ => rfl, hc5'⟩; have v0 := (hk5.cell (o := 0) hxb2 hbm1).trans y0; have v1 := (hk5.cell (o := 1) hxb2 hbm1).trans y1; have hc52 := (unhide HD2).keep hk5 hm12; have hlk := hc52.look hfl; have hle := hc52.le f; obtain ⟨w6, hst, hc6, hk6⟩ := hc52.store hfl (by omega); have HC6 := hide hc6; have HK6 := hide hk6; clear hc6 hk6; have HC5 := hide hc5; have HC52 := hide hc52; have HK5 := hide hk5; clear hc5' hc5 hc52 hk5)
          go_roundw
          case rel =>
            refine ⟨rest, xs2, k + 1, n5, n2 + 1, d5, _, by go_num, by omega, unhide HWR, fun s => ?_, fun s => ?_, by omega, by omega, (unhide HC5).keep (unhide HK6) hm21, unhide HC6, ?_⟩
            · have h := unhide HR1 s
              have h5 := unhide HD5 s
              simp only [rdF] at h
              rw [if_neg (fun e => by omega)] at h
              omega
            · have h := unhide HR2 s
              simp only [wrF] at h
              unfold bump
              by_cases e : s = f
              · subst e
                simp at h ⊢
                omega
              · rw [if_neg (fun h => e h.2.symm)] at h
                rw [if_neg e]
                omega
            · rw [show goff + (k + 1) * 5 = goff + k * 5 + 5 by omega]
              exact unhide HKT _ (((unhide HK5).mono (fun q _ e => Or.inl e)).trans ((unhide HK6).mono (fun q _ e => Or.inr e)))
          case measure => simp [intOf]; omega
      · by_cases hq : op = 2 ∨ op = 3 ∨ op = 4
        · have hfl : f.length ≤ 1000 := headS_name (unhide HHS) (by omega)
          clear ho
          rcases hq with rfl | rfl | rfl
          · go_wp2_with (go_at_call 34; refine (unhide HCALL).mono ?_; rintro e w5 ⟨rfl, n5, hn5, hc5', hk5⟩; obtain ⟨d5, HD5, hc5⟩ : ∃ d5 : Txt → Nat, Hid (∀ s, d5 s = d1 s + cntE x s) ∧ Cnt w5 w1.heap.size n5 d5 := ⟨_, fun _ => rfl, hc5'⟩; have v0 := (hk5.cell (o := 0) hxb2 hbm1).trans y0; have v1 := (hk5.cell (o := 1) hxb2 hbm1).trans y1; have hc52 := (unhide HD2).keep hk5 hm12; have hlk := hc5.look hfl; have hle := hc5.le f; obtain ⟨w6, hst, hc6, hk6⟩ := hc5.store hfl (by omega); have u1 := (hk6.cell (o := 1) (Nat.lt_of_lt_of_le hxb2 hk5.size) hbm1).trans v1; have hc62 := hc52.keep hk6 hm12; have hlk2 := hc62.look hfl; have hle2 := hc62.le f; obtain ⟨w7, hst2, hc7, hk7⟩ := hc62.store hfl (by omega); have HC6 := hide (hc6.keep hk7 hm21); have HC7 := hide hc7; have HK6 := hide hk6; have HK7 := hide hk7; clear hc6 hk6 hc7 hk7 hc62; have HC5 := hide hc5; have HC52 := hide hc52; have HK5 := hide hk5; clear hc5' hc5 hc52 hk5)
            go_roundw
            case rel =>
              refine ⟨rest, xs2, k + 1, n5 + 1, n2 + 1, _, _, by go_num, by omega, unhide HWR, fun s => ?_, fun s => ?_, by omega, by omega, unhide HC6, unhide HC7, ?_⟩
              · have h := unhide HR1 s
                have h5 := unhide HD5 s
                simp only [rdF] at h
                unfold bump
                by_cases e : s = f
                · subst e
                  simp at h ⊢
                  omega
                · rw [if_neg (fun h => e h.2.symm)] at h
                  rw [if_neg e]
                  omega
              · have h := unhide HR2 s
                simp only [wrF] at h
                unfold bump
                by_cases e : s = f
                · subst e
                  simp at h ⊢
                  omega
                · rw [if_neg (fun h => e h.2.symm)] at h
                  rw [if_neg e]
                  omega
              · rw [show goff + (k + 1) * 5 = goff + k * 5 + 5 by omega]
                exact unhide HKT _ ((((unhide HK5).mono (fun q _ e => Or.inl e)).trans ((unhide HK6).mono (fun q _ e => Or.inl e))).trans ((unhide HK7).mono (fun q _ e => Or.inr e)))
            case measure => simp [intOf]; omega
          · go_wp2_with (go_at_call 34; refine (unhide HCALL).mono ?_; rintro e w5 ⟨rfl, n5, hn5, hc5', hk5⟩; obtain ⟨d5, HD5, hc5⟩ : ∃ d5 : Txt → Nat, Hid (∀ s, d5 s = d1 s + cntE x s) ∧ Cnt w5 w1.heap.size n5 d5 := ⟨_, fun _ => rfl, hc5'⟩; have v0 := (hk5.cell (o := 0) hxb2 hbm1).trans y0; have v1 := (hk5.cell (o := 1) hxb2 hbm1).trans y1; have hc52 := (unhide HD2).keep hk5 hm12; have hlk := hc5.look hfl; have hle := hc5.le f; obtain ⟨w6, hst, hc6, hk6⟩ := hc5.store hfl (by omega); have u1 := (hk6.cell (o := 1) (Nat.lt_of_lt_of_le hxb2 hk5.size) hbm1).trans v1; have hc62 := hc52.keep hk6 hm12; have hlk2 := hc62.look hfl; have hle2 := hc62.le f; obtain ⟨w7, hst2, hc7, hk7⟩ := hc62.store hfl (by omega); have HC6 := hide (hc6.keep hk7 hm21); have HC7 := hide hc7; have HK6 := hide hk6; have HK7 := hide hk7; clear hc6 hk6 hc7 hk7 hc62; have HC5 := hide hc5; have HC52 := hide hc52; have HK5 := hide hk5; clear hc5' hc5 hc52 hk5)
            go_roundw
            case rel =>
              refine ⟨rest, xs2, k + 1, n5 + 1, n2 + 1, _, _, by go_num, by omega, unhide HWR, fun s => ?_, fun s => ?_, by omega, by omega, unhide HC6, unhide HC7, ?_⟩
              · have h := unhide HR1 s
                have h5 := unhide HD5 s
                simp only [rdF] at h
                unfold bump
                by_cases e : s = f
                · subst e
                  simp at h ⊢
                  omega
                · rw [if_neg (fun h => e h.2.symm)] at h
                  rw [if_neg e]
                  omega
              · have h := unhide HR2 s
                simp only [wrF] at h
                unfold bump
                by_cases e : s = f
                · subst e
                  simp at h ⊢
                  omega
                · rw [if_neg (fun h => e h.2.symm)] at h
                  rw [if_neg e]
                  omega
              · rw [show goff + (k + 1) * 5 = goff + k * 5 + 5 by omega]
                exact unhide HKT _ ((((unhide HK5).mono (fun q _ e => Or.inl e)).trans ((unhide HK6).mono (fun q _ e => Or.inl e))).trans ((unhide HK7).mono (fun q _ e => Or.inr e)))
            case measure => simp [intOf]; omega
          · go_wp2_with (go_at_call 34; refine (unhide HCALL).mono ?_; rintro e w5 ⟨rfl, n5, hn5, hc5', hk5⟩; obtain ⟨d5, HD5, hc5⟩ : ∃ d5 : Txt → Nat, Hid (∀ s, d5 s = d1 s + cntE x s) ∧ Cnt w5 w1.heap.size n5 d5 := ⟨_, fun _ => rfl, hc5'⟩; have v0 := (hk5.cell (o := 0) hxb2 hbm1).trans y0; have v1 := (hk5.cell (o := 1) hxb2 hbm1).trans y1; have hc52 := (unhide HD2).keep hk5 hm12; have hlk := hc5.look hfl; have hle := hc5.le f; obtain ⟨w6, hst, hc6, hk6⟩ := hc5.store hfl (by omega); have u1 := (hk6.cell (o := 1) (Nat.lt_of_lt_of_le hxb2 hk5.size) hbm1).trans v1; have hc62 := hc52.keep hk6 hm12; have hlk2 := hc62.look hfl; have hle2 := hc62.le f; obtain ⟨w7, hst2, hc7, hk7⟩ := hc62.store hfl (by omega); have HC6 := hide (hc6.keep hk7 hm21); have HC7 := hide hc7; have HK6 := hide hk6; have HK7 := hide hk7; clear hc6 hk6 hc7 hk7 hc62; have HC5 := hide hc5; have HC52 := hide hc52; have HK5 := hide hk5; clear hc5' hc5 hc52 hk5)
            go_roundw
            case rel =>
              refine ⟨rest, xs2, k + 1, n5 + 1, n2 + 1, _, _, by go_num, by omega, unhide HWR, fun s => ?_, fun s => ?_, by omega, by omega, unhide HC6, unhide HC7, ?_⟩
              · have h := unhide HR1 s
                have h5 := unhide HD5 s
                simp only [rdF] at h
                unfold bump
                by_cases e : s = f
                · subst e
                  simp at h ⊢
                  omega
                · rw [if_neg (fun h => e h.2.symm)] at h
                  rw [if_neg e]
                  omega
              · have h := unhide HR2 s
                simp only [wrF] at h
                unfold bump
                by_cases e : s = f
                · subst e
                  simp at h ⊢
                  omega
                · rw [if_neg (fun h => e h.2.symm)] at h
                  rw [if_neg e]
                  omega
              · rw [show goff + (k + 1) * 5 = goff + k * 5 + 5 by omega]
                exact unhide HKT _ ((((unhide HK5).mono (fun q _ e => Or.inl e)).trans ((unhide HK6).mono (fun q _ e => Or.inl e))).trans ((unhide HK7).mono (fun q _ e => Or.inr e)))
            case measure => simp [intOf]; omega
        · have o1 : (op == 1) = false := by simp; omega
          have o2 : (op == 2) = false := by simp; omega
          have o3 : (op == 3) = false := by simp; omega
          have o4 : (op == 4) = false := by simp; omega
          have o5 : (op == 5) = false := by simp; omega
          have HOO : Hid (¬ (op = 1 ∨ op = 2 ∨ op = 3 ∨ op = 4 ∨ op = 5)) := by intro h; omega
          clear ho hq
          go_wp2_with (go_at_call 34; refine (unhide HCALL).mono ?_; rintro e w5 ⟨rfl, n5, hn5, hc5', hk5⟩; obtain ⟨d5, HD5, hc5⟩ : ∃ d5 : Txt → Nat, Hid (∀ s, d5 s = d1 s + cntE x s) ∧ Cnt w5 w1.heap.size n5 d5 := ⟨_, fun _ => rfl, hc5'⟩; have v0 := (hk5.cell (o := 0) hxb2 hbm1).trans y0; have v1 := (hk5.cell (o := 1) hxb2 hbm1).trans y1; have hc52 := (unhide HD2).keep hk5 hm12; have HC5 := hide hc5; have HC52 := hide hc52; have HK5 := hide hk5; clear hc5' hc5 hc52 hk5)
          go_roundw
          case rel =>
            refine ⟨rest, xs2, k + 1, n5, n2, d5, d2, by go_num, by omega, unhide HWR, fun s => ?_, fun s => ?_, by omega, by omega, unhide HC5, unhide HC52, ?_⟩
            · have h := unhide HR1 s
              have h5 := unhide HD5 s
              simp only [rdF] at h
              rw [if_neg (fun e => unhide HOO (by omega))] at h
              omega
            · have h := unhide HR2 s
              simp only [wrF] at h
              rw [if_neg (fun e => unhide HOO (by omega))] at h
              omega
            · rw [show goff + (k + 1) * 5 = goff + k * 5 + 5 by omega]
              exact unhide HKT _ ((unhide HK5).mono (fun q _ e => Or.inl e))
          case measure => simp [intOf]; omega
end Go.Proofs.YtoempeobaknkcaaGreatDoor
