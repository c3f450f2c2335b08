import Derived.Test.YtoempeobaknkcaaGreatDoorJzan
import Derived.Test.YtoempeobaknkcaaGreatDoorJzax
import Derived.Test.YtoempeobaknkcaaGreatDoorJzas
import Derived.Test.YtoempeobaknkcaaGreatDoorJzah
namespace Go.Proofs.YtoempeobaknkcaaGreatDoor
open Go.RowKit Go.Maps

/-- How often a program's statements, laid flat, read a field; how often they write it. -/
def rdF : SL → Txt → Nat
  | .nil, _ => 0
  | .cons op f x _ _ r, s => cntE x s + (if (op = 2 ∨ op = 3 ∨ op = 4) ∧ f = s then 1 else 0) + rdF r s
def wrF : SL → Txt → Nat
  | .nil, _ => 0
  | .cons op f _ _ _ r, s => (if (op = 1 ∨ op = 2 ∨ op = 3 ∨ op = 4 ∨ op = 5) ∧ f = s then 1 else 0) + wrF r s
/-- What Fields answers. -/
def fieldsP (S : List FieldA) (l : SL) : List Txt × List Txt × Int :=
  if (checkP S l).1 ≠ 0 then ([], [], (checkP S l).1) else (pick S (fun s => decide (0 < rdF (flatS l) s)), pick S (fun s => decide (0 < wrF (flatS l) s)), 0)
def weight : SL → Nat
  | .nil => 0
  | .cons _ _ x _ _ r => x.size + 2 + weight r
theorem weight_app : ∀ l m : SL, weight (l.app m) = weight l + weight m
  | .nil, m => by simp [SL.app, weight]
  | .cons _ _ x _ _ r, m => by simp only [SL.app, weight, weight_app r m]; omega
theorem weight_flat : ∀ l : SL, weight (flatS l) ≤ 2 * l.size
  | .nil => by simp [flatS, weight]
  | .cons _ _ x t e r => by
    have h1 := weight_flat t
    have h2 := weight_flat e
    have h3 := weight_flat r
    simp only [flatS, weight, weight_app, SL.size]
    omega
/-- Where the numbered statements lie. -/
theorem nums_open {base n c : Nat} {w' : World} {ao : Option Addr} {xs : List Value} (ho : w'.ownsRow base 53 5 (.slice ao n c) n xs) :
    ∃ g go, base ≤ g ∧ (n ≠ 0 → ao = some ⟨g, go, none⟩) ∧ ∀ j x, xs[j]? = some x → g < w'.heap.size ∧ w'.cell? ⟨g, go + j, none⟩ = some x := by
  rcases Nat.eq_zero_or_pos n with h0 | h0
  · refine ⟨base, 0, Nat.le_refl _, fun h => absurd h0 h, fun i x hx => ?_⟩
    have hl := ho.1
    rw [h0, Nat.zero_mul] at hl
    rw [List.eq_nil_of_length_eq_zero hl] at hx
    simp at hx
  · obtain ⟨g, go, cap, e, hg, hc⟩ := (rowAt_own ho).cells h0
    simp at e
    obtain ⟨rfl, rfl⟩ := e
    exact ⟨g, go, (ho.lt g rfl).1, fun _ => rfl, fun j x hx => ⟨hg, hc j x hx⟩⟩
theorem cnt_two {w1 w4 : World} (hk : Keeps (fun _ => False) ((w1.alloc (.map #[] 0)).alloc (.map #[] 0)) w4) : Cnt w4 w1.heap.size 0 (fun _ => 0) ∧ Cnt w4 (w1.heap.size + 1) 0 (fun _ => 0) := by
  have h := Cnt.made (w1.alloc (.map #[] 0))
  have e : (w1.alloc (.map #[] 0)).heap.size = w1.heap.size + 1 := by simp
  rw [e] at h
  exact ⟨((Cnt.made w1).keep ((Keeps.refl (fun _ => False) _).alloc _) id).keep hk id, h.keep hk id⟩
/-- What is left of the numbered statements. -/
def NIn (B : Nat) (w4 : World) (F : Nat → Prop) (g o : Nat) (rest : SL) (yr : List Value) (wr : World) : Prop :=
  SsIn (argZ B) wr rest yr ∧ (∀ j x, yr[j]? = some x → g < wr.heap.size ∧ wr.cell? ⟨g, o + j, none⟩ = some x) ∧ Keeps F w4 wr
theorem NIn.step {B g o : Nat} {w4 wr wa w' : World} {F : Nat → Prop} {op : Int} {f : Txt} {x : EL} {t e r : SL} {a1 a2 a3 a4 a5 : Value} {ys : List Value} (h : NIn B w4 F g o (.cons op f x t e r) (a1 :: a2 :: a3 :: a4 :: a5 :: ys) wr) (ha : Keeps (fun _ => False) wr wa) (hk : Keeps F wa w') (hF : ∀ q, F q → B ≤ q) (hg : ¬ F g) : NIn B w4 F g (o + 5) r ys w' := by
  obtain ⟨h1, h2, h3⟩ := h
  have hk2 : Keeps F wr w' := (ha.mono (fun _ _ h => h.elim)).trans hk
  obtain ⟨xv, tv, ev, xs', e', _, _, _, hs⟩ := h1
  simp only [List.cons.injEq] at e'
  obtain ⟨_, _, _, _, _, rfl⟩ := e'
  refine ⟨hs.argKeep hk2 hF, fun j x hx => ?_, h3.trans hk2⟩
  obtain ⟨hl, hc⟩ := h2 (j + 5) x (by simpa using hx)
  rw [show o + 5 + j = o + (j + 5) by omega]
  exact ⟨Nat.lt_of_lt_of_le hl hk2.size, (hk2.cell hl hg).trans hc⟩
theorem headS_name {op : Int} {f : Txt} {a b c : Nat} (h : headS op f a b c = true) (ho : op = 1 ∨ op = 2 ∨ op = 3 ∨ op = 4 ∨ op = 5) : f.length ≤ 1000 := by
  unfold headS at h
  split at h
  · simp only [Bool.and_eq_true] at h
    have := name_short h.1
    omega
  · rw [if_pos (by omega)] at h
    simp only [Bool.and_eq_true] at h
    have := name_short h.1
    omega
theorem checkP_zero {S : List FieldA} {l : SL} (h : (checkP S l).1 = 0) : schemaB S = true ∧ checkS l = 0 := by
  unfold checkP at h
  cases hs : schemaB S with
  | false => rw [errS_bad hs, if_pos (by decide)] at h; simp at h
  | true =>
    rw [errS_good hs, if_neg (by simp)] at h
    by_cases hc : checkS l = 0
    · exact ⟨rfl, hc⟩
    · rw [if_pos hc] at h
      exact absurd h hc

set_option maxRecDepth 100000 in
set_option maxHeartbeats 4000000 in
theorem tfields_bad (Z : Zone) (S : List FieldA) (l : SL) (hsz : l.size ≤ 4294967294) (sv pv : Value) (w : World) (up : Nat) (hT : Types w) (hF : Forms w) (hf : FldsAt w sv S) (hp : SlS Z w up pv l) (hE : (checkP S l).1 ≠ 0) :
    Calls Tryz.prog 15 #[.agg #[sv], pv] w fun e w' => e = .returned (.tuple #[.slice none 0 0, .slice none 0 0, .int .i64 (checkP S l).1]) ∧ Keeps (fun _ => False) w w' := by
  obtain ⟨ao, cap, rfl, hc⟩ := hp.head
  obtain ⟨so, sc, rfl⟩ := RowAt.form hf
  obtain ⟨HB, hxb, hxc⟩ := boxedT w #[.slice so S.length sc] 24
  have c0 := hxc 0 (.slice so S.length sc) rfl
  have HCK := fun w' (hk : Keeps (fun _ => False) w w') => hide (tcheck_v Z S l hsz (.slice so S.length sc) (.slice ao l.len cap) w' up (hT.keepF hk) (hF.keepF hk) (hf.keepF hk) (hp.keepF hk))
  obtain ⟨⟨E, at'⟩, hpv⟩ : ∃ p, p = checkP S l := ⟨_, rfl⟩
  rw [← hpv] at hE HCK ⊢
  have hE' : (E != 0) = true := by simpa using hE
  clear hT hF hf hp hxc hpv hE
  go_enter Tryz.func15, Tryz.ntmps15
  go_wp2_with (go_at_call 14; refine (unhide (HCK _ (unhide HB))).mono ?_; rintro e w1 ⟨rfl, hk1⟩; have HKa := hide ((unhide HB).trans hk1); clear hk1)
  refine bodyPost_ret (v := .tuple #[.slice none 0 0, .slice none 0 0, .int .i64 E]) (by simp [results, go_sem]) rfl ?_
  exact ⟨rfl, unhide HKa⟩

set_option maxRecDepth 100000 in
set_option maxHeartbeats 4000000 in
theorem tfields_fit (Z : Zone) (S : List FieldA) (l : SL) (hsz : l.size ≤ 4294967294) (sv pv : Value) (w : World) (up : Nat) (hT : Types w) (hF : Forms w) (hf : FldsAt w sv S) (hp : SlS Z w up pv l) (hE : (checkP S l).1 = 0) :
    Calls Tryz.prog 15 #[.agg #[sv], pv] w fun e w' => ∃ rv wv, e = .returned (.tuple #[rv, wv, .int .i64 0]) ∧ NmAt w' w.heap.size rv (pick S (fun s => decide (0 < rdF (flatS l) s))) ∧ NmAt w' w.heap.size wv (pick S (fun s => decide (0 < wrF (flatS l) s))) ∧ (∀ q, rv.ownBlock = some q → wv.ownBlock ≠ some q) ∧ Keeps (fun _ => False) w w' := by
  obtain ⟨hS, hC⟩ := checkP_zero hE
  have hwl := checkS_well hC
  have hnl : (flatS l).len ≤ 4294967294 := by rw [flatS_len]; exact Nat.le_trans (countS_le l) hsz
  obtain ⟨ao, cap, rfl, hc⟩ := hp.head
  obtain ⟨so, sc, rfl⟩ := RowAt.form hf
  obtain ⟨HB, hxb, hxc⟩ := boxedT w #[.slice so S.length sc] 24
  have c0 := hxc 0 (.slice so S.length sc) rfl
  have SB : ∀ w', Keeps (fun _ => False) (w.alloc (.cells #[.slice so S.length sc] 24)) w' → w'.cell? ⟨w.heap.size, 0, none⟩ = some (.slice so S.length sc) := fun w' hk => (hk.cell hxb id).trans c0
  have HSB := hide SB
  have HCK := fun w' (hk : Keeps (fun _ => False) w w') => hide (tcheck_v Z S l hsz (.slice so S.length sc) (.slice ao l.len cap) w' up (hT.keepF hk) (hF.keepF hk) (hf.keepF hk) (hp.keepF hk))
  have HNU := fun w' (hk : Keeps (fun _ => False) w w') => hide (numbered_v w.heap.size (l.size + 1) l (by omega) hsz w' 0 (.slice ao l.len cap) hk.size ((hp.arg (Nat.le_refl _) 0).keepF hk))
  obtain ⟨⟨E, at'⟩, hpv⟩ : ∃ p, p = checkP S l := ⟨_, rfl⟩
  rw [← hpv] at hE HCK
  subst hE
  have hmm := @run_makeMap Tryz.prog
  have HF := hide hf
  have HW := hide (flat_well (N := 4294967294) l hsz hwl)
  clear hT hF hf hp hxc hpv SB hC hwl
  go_enter Tryz.func15, Tryz.ntmps15
  go_wp2_with (first
    | (go_at_call 14; refine (unhide (HCK _ (unhide HB))).mono ?_; rintro e w1 ⟨rfl, hk1⟩; have HKa := hide ((unhide HB).trans hk1); have HKb := hide hk1; clear hk1)
    | (go_at_call 32; refine (unhide (HNU _ (((unhide HKa).alloc _).alloc _))).mono ?_; rintro e w4 ⟨fo, fc, n, xs, rfl, hn, hown, hss, hk4⟩; obtain ⟨g, goff, hgb, hg, hcl⟩ := nums_open hown; have HNL := hide hn; have HG := hide hg; have HCL := hide hcl; have HGB := hide hgb; have HSS := hide hss; have HC1 := hide (cnt_two hk4).1; have HC2 := hide (cnt_two hk4).2; have HK4 := hide ((((unhide HKa).alloc _).alloc _).trans hk4); have HK4b := hide ((((unhide HKb).alloc _).alloc _).trans hk4); clear hn hg hcl hown hss hk4 hgb))
  have hn2 : n ≤ 4294967294 := by rw [unhide HNL]; exact hnl
  have hw1 : w.heap.size ≤ w1.heap.size := (unhide HKa).size
  have hgm : w1.heap.size + 2 ≤ g := by have := unhide HGB; simpa using this
  have hwt : weight (flatS l) ≤ 8589934588 := by have := weight_flat l; omega
  clear hnl HCK HNU c0 HGB
  go_loopw [27] (fun i wr => ∃ (rest : SL) (yr : List Value) (k n1 n2 : Nat) (d1 d2 : Txt → Nat), i = .int .i64 k ∧ k + rest.len = n ∧ wellF 4294967294 rest ∧ Hid (∀ s, d1 s + rdF rest s = rdF (flatS l) s) ∧ Hid (∀ s, d2 s + wrF rest s = wrF (flatS l) s) ∧ n1 + weight rest ≤ 8589934588 ∧ n2 + weight rest ≤ 8589934588 ∧ Cnt wr w1.heap.size n1 d1 ∧ Cnt wr (w1.heap.size + 1) n2 d2 ∧ NIn w.heap.size w4 (fun q => q = w1.heap.size ∨ q = w1.heap.size + 1) g (goff + k * 5) rest yr wr) (fun i _ => n - (intOf i).toNat)
  case atStart => exact ⟨flatS l, xs, 0, 0, 0, fun _ => 0, fun _ => 0, rfl, by rw [Nat.zero_add]; exact (unhide HNL).symm, unhide HW, fun s => Nat.zero_add _, fun s => Nat.zero_add _, by omega, by omega, unhide HC1, unhide HC2, unhide HSS, by simpa using unhide HCL, Keeps.refl _ _⟩
  case round =>
    obtain ⟨rest, yr, k, n1, n2, d1, d2, rfl, hkl, hwf, HR1, HR2, hw1', hw2', hd1, hd2, hin⟩ := hrel
    have HIN := hide hin
    have HD1 := hide hd1
    have HD2' := hide hd2
    cases rest with
    | nil =>
      simp only [SL.len, Nat.add_zero] at hkl
      have i1 : ¬ (k : Int) < (n : Int) := by omega
      have hkw := hin.2.2
      have hs1 : w.heap.size + 1 ≤ w1.heap.size := by have := (unhide HKb).size; simpa using this
      have hs4 := (unhide HK4b).size
      have cr := (hkw.cell (o := 0) (Nat.lt_of_lt_of_le hxb hs4) (show ¬ (w.heap.size = w1.heap.size ∨ w.heap.size = w1.heap.size + 1) by omega)).trans (unhide HSB _ (unhide HK4b))
      have hkr : Keeps (fun _ => False) w wr := (unhide HK4).narrow hkw (fun q e => by omega)
      have HKR := hide hkr
      have hwl := hkr.size
      have hSB := hS
      unfold schemaB at hSB
      simp only [Bool.and_eq_true, decide_eq_true_eq] at hSB
      have hl8 := hSB.1.1.1.2
      have hnm : ∀ f ∈ S, f.name.length ≤ 8 := by
        intro f hf
        have h := List.all_eq_true.1 hSB.1.1.2 f hf
        unfold fieldOK at h
        simp only [Bool.and_eq_true] at h
        exact name_short h.1
      have HN1 := fun (w' : World) (hk : Keeps (fun _ => False) wr w') => hide (namesOf_v S hl8 hnm w1.heap.size n1 d1 (.slice so S.length sc) w' (((unhide HF).keepF hkr).keepF hk) (hd1.keep hk id))
      have HN2 := fun (w' : World) (hk : Keeps (fun _ => False) wr w') => hide (namesOf_v S hl8 hnm (w1.heap.size + 1) n2 d2 (.slice so S.length sc) w' (((unhide HF).keepF hkr).keepF hk) (hd2.keep hk id))
      have e1 : d1 = rdF (flatS l) := funext (fun s => by have := unhide HR1 s; simpa [rdF] using this)
      have e2 : d2 = wrF (flatS l) := funext (fun s => by have := unhide HR2 s; simpa [wrF] using this)
      rw [e1] at HN1
      rw [e2] at HN2
      have hxw : w.heap.size < wr.heap.size := by have := hkw.size; omega
      have CR : ∀ w', Keeps (fun _ => False) wr w' → w'.cell? ⟨w.heap.size, 0, none⟩ = some (.slice so S.length sc) := fun w' hk => (hk.cell hxw id).trans cr
      have HCR := hide CR
      have HWL := hide hwl
      have mk1 : True := trivial
      have kr0 : Hid (Keeps (fun _ => False) wr wr) := Keeps.refl _ _
      clear hd1 hd2 hin hkw hkr hSB hnm e1 e2 hwf hw1' hw2' HR1 HR2 HIN HD1 HD2' hs1 hs4 CR hl8 hwl hkl
      go_wp2_with fail
      go_region_held3 (fun w' => w'.cell? ⟨w.heap.size, 0, none⟩ = some (.slice so S.length sc)) (first | with_reducible exact unhide HCR _ (unhide kr0) | with_reducible exact unhide HCR _ (unhide kr0).drew)
        ((first
          | (clear mk1; go_at_call 35; refine (unhide (HN1 _ (by first | with_reducible exact unhide kr0 | with_reducible exact (unhide kr0).drew))).mono ?_; rintro e wA ⟨v1, rfl, hv1, hkA⟩; have HV1 := hide hv1; have HKA := hide hkA; have kr1 : Keeps (fun _ => False) wr wA := (by first | with_reducible exact (unhide kr0).trans hkA | with_reducible exact (unhide kr0).drew.trans hkA); have kr0 := hide kr1; clear kr1 hv1 hkA; have mk2 : True := trivial)
          | (clear mk2; go_at_call 35; refine (unhide (HN2 _ (by first | with_reducible exact unhide kr0 | with_reducible exact (unhide kr0).drew))).mono ?_; rintro e wB ⟨v2, rfl, hv2, hkB⟩; have HV2 := hide hv2; have HKB := hide hkB; have kr1 : Keeps (fun _ => False) wr wB := (by first | with_reducible exact (unhide kr0).trans hkB | with_reducible exact (unhide kr0).drew.trans hkB); have kr0 := hide kr1; clear kr1 hv2 hkB)))
      all_goals go_wp2_with fail
      all_goals
        refine bodyPost_ret (v := .tuple #[v1, v2, .int .i64 0]) (by simp [results, go_sem]) rfl ?_
        exact ⟨v1, v2, rfl, ownsRow_lower (ownsRow_kept (unhide HV1) (by first | exact unhide HKB | exact (Keeps.refl _ _).drew.trans (unhide HKB)) (fun _ _ => id)) (unhide HWL), ownsRow_lower (unhide HV2) (Nat.le_trans (unhide HWL) (unhide HKA).size), fun q e f => by (have h1 := (World.ownsRow.lt (unhide HV1) q e).2; have h2 := (World.ownsRow.lt (unhide HV2) q f).1; first | omega | (simp at h1 h2; omega)), (unhide HKR).trans (unhide kr0)⟩
    | cons op f x t el rest =>
      obtain ⟨xv, tv, ev, xs2, rfl, hsx, hst', hse, hsr⟩ := hin.1
      obtain ⟨xao, xcap, rfl, hxl⟩ := hsx.head
      obtain ⟨tao, tcap, rfl, htl⟩ := hst'.head
      obtain ⟨eao, ecap, rfl, hel⟩ := hse.head
      obtain ⟨hh, hwx, hxz, hwr⟩ := hwf
      simp only [SL.len] at hkl
      simp only [weight] at hw1' hw2'
      obtain rfl := (unhide HG) (by omega)
      have z0 := (hin.2.1 0 _ rfl).2
      have z1 := (hin.2.1 1 _ rfl).2
      have z2 := (hin.2.1 2 _ rfl).2
      have z3 := (hin.2.1 3 _ rfl).2
      have z4 := (hin.2.1 4 _ rfl).2
      rw [Nat.add_zero] at z0
      have i1 : (k : Int) < (n : Int) := by omega
      have ix0 : (0 : Int) ≤ (k : Int) := by omega
      obtain ⟨HB2, hxb2, hxc2⟩ := boxedT wr #[.int .i64 op, str f, .slice xao x.len xcap, .slice tao t.len tcap, .slice eao el.len ecap] 53
      have y0 := hxc2 0 (.int .i64 op) rfl
      have y1 := hxc2 1 (str f) rfl
      have y2 := hxc2 2 (.slice xao x.len xcap) rfl
      have hlt2 := hd2.lt
      have hbm1 : ¬ wr.heap.size = w1.heap.size := by omega
      have hm12 : ¬ w1.heap.size + 1 = w1.heap.size := by omega
      have hm21 : ¬ w1.heap.size = w1.heap.size + 1 := by omega
      have HWR := hide hwr
      have HD2 := hide (hd2.keep (unhide HB2) id)
      have HCALL := hide (countNames_v w.heap.size w1.heap.size (by omega) (x.size + 1) x (by omega) hxz hwx _ 0 (.slice xao x.len xcap) n1 d1 (hsx.keepF (unhide HB2)) (hd1.keep (unhide HB2) id) (by omega))
      have HKT := hide (fun (w' : World) (hk : Keeps (fun q => q = w1.heap.size ∨ q = w1.heap.size + 1) (wr.alloc (.cells #[.int .i64 op, str f, .slice xao x.len xcap, .slice tao t.len tcap, .slice eao el.len ecap] 53)) w') => hin.step (unhide HB2) hk (fun q e => by omega) (by omega))
      have HHS := hide hh
      clear hd1 hd2 hin hsx hst' hse hsr hh hwx hwr hxc2
      by_cases ho : op = 1 ∨ op = 5
      · have hfl : f.length ≤ 1000 := headS_name (unhide HHS) (by omega)
        rcases ho with rfl | rfl
        · go_wp2_with (go_at_call 34; refine (unhide HCALL).mono ?_; rintro e w5 ⟨rfl, n5, hn5, hc5', hk5⟩; obtain ⟨d5, HD5, hc5⟩ : ∃ d5 : Txt → Nat, Hid (∀ s, d5 s = d1 s + cntE x s) ∧ Cnt w5 w1.heap.size n5 d5 := ⟨_, fun _ => rfl, hc5'⟩; have v0 := (hk5.cell (o := 0) hxb2 hbm1).trans y0; have v1 := (hk5.cell (o := 1) hxb2 hbm1).trans y1; have hc52 := (unhide HD2).keep hk5 hm12; have hlk := hc52.look hfl; have hle := hc52.le f; obtain ⟨w6, hst, hc6, hk6⟩ := hc52.store hfl (by omega); have HC6 := hide hc6; have HK6 := hide hk6; clear hc6 hk6; have HC5 := hide hc5; have HC52 := hide hc52; have HK5 := hide hk5; clear hc5' hc5 hc52 hk5)
          go_roundw
          case rel =>
            refine ⟨rest, xs2, k + 1, n5, n2 + 1, d5, _, by go_num, by omega, unhide HWR, fun s => ?_, fun s => ?_, by omega, by omega, (unhide HC5).keep (unhide HK6) hm21, unhide HC6, ?_⟩
            · have h := unhide HR1 s
              have h5 := unhide HD5 s
              simp only [rdF] at h
              rw [if_neg (fun e => by omega)] at h
              omega
            · have h := unhide HR2 s
              simp only [wrF] at h
              unfold bump
              by_cases e : s = f
              · subst e
                simp at h ⊢
                omega
              · rw [if_neg (fun h => e h.2.symm)] at h
                rw [if_neg e]
                omega
            · rw [show goff + (k + 1) * 5 = goff + k * 5 + 5 by omega]
              exact unhide HKT _ (((unhide HK5).mono (fun q _ e => Or.inl e)).trans ((unhide HK6).mono (fun q _ e => Or.inr e)))
          case measure => simp [intOf]; omega
        · go_wp2_with (go_at_call 34; refine (unhide HCALL).mono ?_; rintro e w5 ⟨rfl, n5, hn5, hc5', hk5⟩; obtain ⟨d5, HD5, hc5⟩ : ∃ d5 : Txt → Nat, Hid (∀ s, d5 s = d1 s + cntE x s) ∧ Cnt w5 w1.heap.size n5 d5 := ⟨_, fun _ => rfl, hc5'⟩; have v0 := (hk5.cell (o := 0) hxb2 hbm1).trans y0; have v1 := (hk5.cell (o := 1) hxb2 hbm1).trans y1; have hc52 := (unhide HD2).keep hk5 hm12; have hlk := hc52.look hfl; have hle := hc52.le f; obtain ⟨w6, hst, hc6, hk6⟩ := hc52.store hfl (by omega); have HC6 := hide hc6; have HK6 := hide hk6; clear hc6 hk6; have HC5 := hide hc5; have HC52 := hide hc52; have HK5 := hide hk5; clear hc5' hc5 hc52 hk5)
          go_roundw
          case rel =>
            refine ⟨rest, xs2, k + 1, n5, n2 + 1, d5, _, by go_num, by omega, unhide HWR, fun s => ?_, fun s => ?_, by omega, by omega, (unhide HC5).keep (unhide HK6) hm21, unhide HC6, ?_⟩
            · have h := unhide HR1 s
              have h5 := unhide HD5 s
              simp only [rdF] at h
              rw [if_neg (fun e => by omega)] at h
              omega
            · have h := unhide HR2 s
              simp only [wrF] at h
              unfold bump
              by_cases e : s = f
              · subst e
                simp at h ⊢
                omega
              · rw [if_neg (fun h => e h.2.symm)] at h
                rw [if_neg e]
                omega
            · rw [show goff + (k + 1) * 5 = goff + k * 5 + 5 by omega]
              exact unhide HKT _ (((unhide HK5).mono (fun q _ e => Or.inl e)).trans ((unhide HK6).mono (fun q _ e => Or.inr e)))
          case measure => simp [intOf]; omega
      · by_cases hq : op = 2 ∨ op = 3 ∨ op = 4
        · have hfl : f.length ≤ 1000 := headS_name (unhide HHS) (by omega)
          clear ho
          rcases hq with rfl | rfl | rfl
          · go_wp2_with (go_at_call 34; refine (unhide HCALL).mono ?_; rintro e w5 ⟨rfl, n5, hn5, hc5', hk5⟩; obtain ⟨d5, HD5, hc5⟩ : ∃ d5 : Txt → Nat, Hid (∀ s, d5 s = d1 s + cntE x s) ∧ Cnt w5 w1.heap.size n5 d5 := ⟨_, fun _ => rfl, hc5'⟩; have v0 := (hk5.cell (o := 0) hxb2 hbm1).trans y0; have v1 := (hk5.cell (o := 1) hxb2 hbm1).trans y1; have hc52 := (unhide HD2).keep hk5 hm12; have hlk := hc5.look hfl; have hle := hc5.le f; obtain ⟨w6, hst, hc6, hk6⟩ := hc5.store hfl (by omega); have u1 := (hk6.cell (o := 1) (Nat.lt_of_lt_of_le hxb2 hk5.size) hbm1).trans v1; have hc62 := hc52.keep hk6 hm12; have hlk2 := hc62.look hfl; have hle2 := hc62.le f; obtain ⟨w7, hst2, hc7, hk7⟩ := hc62.store hfl (by omega); have HC6 := hide (hc6.keep hk7 hm21); have HC7 := hide hc7; have HK6 := hide hk6; have HK7 := hide hk7; clear hc6 hk6 hc7 hk7 hc62; have HC5 := hide hc5; have HC52 := hide hc52; have HK5 := hide hk5; clear hc5' hc5 hc52 hk5)
            go_roundw
            case rel =>
              refine ⟨rest, xs2, k + 1, n5 + 1, n2 + 1, _, _, by go_num, by omega, unhide HWR, fun s => ?_, fun s => ?_, by omega, by omega, unhide HC6, unhide HC7, ?_⟩
              · have h := unhide HR1 s
                have h5 := unhide HD5 s
                simp only [rdF] at h
                unfold bump
                by_cases e : s = f
                · subst e
                  simp at h ⊢
                  omega
                · rw [if_neg (fun h => e h.2.symm)] at h
                  rw [if_neg e]
                  omega
              · have h := unhide HR2 s
                simp only [wrF] at h
                unfold bump
                by_cases e : s = f
                · subst e
                  simp at h ⊢
                  omega
                · rw [if_neg (fun h => e h.2.symm)] at h
                  rw [if_neg e]
                  omega
              · rw [show goff + (k + 1) * 5 = goff + k * 5 + 5 by omega]
                exact unhide HKT _ ((((unhide HK5).mono (fun q _ e => Or.inl e)).trans ((unhide HK6).mono (fun q _ e => Or.inl e))).trans ((unhide HK7).mono (fun q _ e => Or.inr e)))
            case measure => simp [intOf]; omega
          · go_wp2_with (go_at_call 34; refine (unhide HCALL).mono ?_; rintro e w5 ⟨rfl, n5, hn5, hc5', hk5⟩; obtain ⟨d5, HD5, hc5⟩ : ∃ d5 : Txt → Nat, Hid (∀ s, d5 s = d1 s + cntE x s) ∧ Cnt w5 w1.heap.size n5 d5 := ⟨_, fun _ => rfl, hc5'⟩; have v0 := (hk5.cell (o := 0) hxb2 hbm1).trans y0; have v1 := (hk5.cell (o := 1) hxb2 hbm1).trans y1; have hc52 := (unhide HD2).keep hk5 hm12; have hlk := hc5.look hfl; have hle := hc5.le f; obtain ⟨w6, hst, hc6, hk6⟩ := hc5.store hfl (by omega); have u1 := (hk6.cell (o := 1) (Nat.lt_of_lt_of_le hxb2 hk5.size) hbm1).trans v1; have hc62 := hc52.keep hk6 hm12; have hlk2 := hc62.look hfl; have hle2 := hc62.le f; obtain ⟨w7, hst2, hc7, hk7⟩ := hc62.store hfl (by omega); have HC6 := hide (hc6.keep hk7 hm21); have HC7 := hide hc7; have HK6 := hide hk6; have HK7 := hide hk7; clear hc6 hk6 hc7 hk7 hc62; have HC5 := hide hc5; have HC52 := hide hc52; have HK5 := hide hk5; clear hc5' hc5 hc52 hk5)
            go_roundw
            case rel =>
              refine ⟨rest, xs2, k + 1, n5 + 1, n2 + 1, _, _, by go_num, by omega, unhide HWR, fun s => ?_, fun s => ?_, by omega, by omega, unhide HC6, unhide HC7, ?_⟩
              · have h := unhide HR1 s
                have h5 := unhide HD5 s
                simp only [rdF] at h
                unfold bump
                by_cases e : s = f
                · subst e
                  simp at h ⊢
                  omega
                · rw [if_neg (fun h => e h.2.symm)] at h
                  rw [if_neg e]
                  omega
              · have h := unhide HR2 s
                simp only [wrF] at h
                unfold bump
                by_cases e : s = f
                · subst e
                  simp at h ⊢
                  omega
                · rw [if_neg (fun h => e h.2.symm)] at h
                  rw [if_neg e]
                  omega
              · rw [show goff + (k + 1) * 5 = goff + k * 5 + 5 by omega]
                exact unhide HKT _ ((((unhide HK5).mono (fun q _ e => Or.inl e)).trans ((unhide HK6).mono (fun q _ e => Or.inl e))).trans ((unhide HK7).mono (fun q _ e => Or.inr e)))
            case measure => simp [intOf]; omega
          · go_wp2_with (go_at_call 34; refine (unhide HCALL).mono ?_; rintro e w5 ⟨rfl, n5, hn5, hc5', hk5⟩; obtain ⟨d5, HD5, hc5⟩ : ∃ d5 : Txt → Nat, Hid (∀ s, d5 s = d1 s + cntE x s) ∧ Cnt w5 w1.heap.size n5 d5 := ⟨_, fun _ => rfl, hc5'⟩; have v0 := (hk5.cell (o := 0) hxb2 hbm1).trans y0; have v1 := (hk5.cell (o := 1) hxb2 hbm1).trans y1; have hc52 := (unhide HD2).keep hk5 hm12; have hlk := hc5.look hfl; have hle := hc5.le f; obtain ⟨w6, hst, hc6, hk6⟩ := hc5.store hfl (by omega); have u1 := (hk6.cell (o := 1) (Nat.lt_of_lt_of_le hxb2 hk5.size) hbm1).trans v1; have hc62 := hc52.keep hk6 hm12; have hlk2 := hc62.look hfl; have hle2 := hc62.le f; obtain ⟨w7, hst2, hc7, hk7⟩ := hc62.store hfl (by omega); have HC6 := hide (hc6.keep hk7 hm21); have HC7 := hide hc7; have HK6 := hide hk6; have HK7 := hide hk7; clear hc6 hk6 hc7 hk7 hc62; have HC5 := hide hc5; have HC52 := hide hc52; have HK5 := hide hk5; clear hc5' hc5 hc52 hk5)
            go_roundw
            case rel =>
              refine ⟨rest, xs2, k + 1, n5 + 1, n2 + 1, _, _, by go_num, by omega, unhide HWR, fun s => ?_, fun s => ?_, by omega, by omega, unhide HC6, unhide HC7, ?_⟩
              · have h := unhide HR1 s
                have h5 := unhide HD5 s
                simp only [rdF] at h
                unfold bump
                by_cases e : s = f
                · subst e
                  simp at h ⊢
                  omega
                · rw [if_neg (fun h => e h.2.symm)] at h
                  rw [if_neg e]
                  omega
              · have h := unhide HR2 s
                simp only [wrF] at h
                unfold bump
                by_cases e : s = f
                · subst e
                  simp at h ⊢
                  omega
                · rw [if_neg (fun h => e h.2.symm)] at h
                  rw [if_neg e]
                  omega
              · rw [show goff + (k + 1) * 5 = goff + k * 5 + 5 by omega]
                exact unhide HKT _ ((((unhide HK5).mono (fun q _ e => Or.inl e)).trans ((unhide HK6).mono (fun q _ e => Or.inl e))).trans ((unhide HK7).mono (fun q _ e => Or.inr e)))
            case measure => simp [intOf]; omega
        · have o1 : (op == 1) = false := by simp; omega
          have o2 : (op == 2) = false := by simp; omega
          have o3 : (op == 3) = false := by simp; omega
          have o4 : (op == 4) = false := by simp; omega
          have o5 : (op == 5) = false := by simp; omega
          have HOO : Hid (¬ (op = 1 ∨ op = 2 ∨ op = 3 ∨ op = 4 ∨ op = 5)) := by intro h; omega
          clear ho hq
          go_wp2_with (go_at_call 34; refine (unhide HCALL).mono ?_; rintro e w5 ⟨rfl, n5, hn5, hc5', hk5⟩; obtain ⟨d5, HD5, hc5⟩ : ∃ d5 : Txt → Nat, Hid (∀ s, d5 s = d1 s + cntE x s) ∧ Cnt w5 w1.heap.size n5 d5 := ⟨_, fun _ => rfl, hc5'⟩; have v0 := (hk5.cell (o := 0) hxb2 hbm1).trans y0; have v1 := (hk5.cell (o := 1) hxb2 hbm1).trans y1; have hc52 := (unhide HD2).keep hk5 hm12; have HC5 := hide hc5; have HC52 := hide hc52; have HK5 := hide hk5; clear hc5' hc5 hc52 hk5)
          go_roundw
          case rel =>
            refine ⟨rest, xs2, k + 1, n5, n2, d5, d2, by go_num, by omega, unhide HWR, fun s => ?_, fun s => ?_, by omega, by omega, unhide HC5, unhide HC52, ?_⟩
            · have h := unhide HR1 s
              have h5 := unhide HD5 s
              simp only [rdF] at h
              rw [if_neg (fun e => unhide HOO (by omega))] at h
              omega
            · have h := unhide HR2 s
              simp only [wrF] at h
              rw [if_neg (fun e => unhide HOO (by omega))] at h
              omega
            · rw [show goff + (k + 1) * 5 = goff + k * 5 + 5 by omega]
              exact unhide HKT _ ((unhide HK5).mono (fun q _ e => Or.inl e))
          case measure => simp [intOf]; omega
end Go.Proofs.YtoempeobaknkcaaGreatDoor
namespace Go.Proofs.YtoempeobaknkcaaGreatDoor
open Go.RowKit Go.Maps

/-- Does a statement by itself read the field, write it? -/
def rd1 (op : Int) (f : Txt) (ex : EL) (x : Txt) : Bool := decide (0 < cntE ex x) || decide ((op = 2 ∨ op = 3 ∨ op = 4) ∧ f = x)
def wr1 (op : Int) (f : Txt) (x : Txt) : Bool := decide ((op = 1 ∨ op = 2 ∨ op = 3 ∨ op = 4 ∨ op = 5) ∧ f = x)

theorem rd1_no {op : Int} {f : Txt} {ex : EL} {x : Txt} (h : ¬ ((op = 2 ∨ op = 3 ∨ op = 4) ∧ f = x)) : rd1 op f ex x = decide (0 < cntE ex x) := by
  unfold rd1
  rw [decide_eq_false h, Bool.or_false]
theorem wr1_no {op : Int} {f x : Txt} (h : ¬ ((op = 1 ∨ op = 2 ∨ op = 3 ∨ op = 4 ∨ op = 5) ∧ f = x)) : wr1 op f x = false := by
  unfold wr1
  rw [decide_eq_false h]

set_option maxRecDepth 100000 in
set_option maxHeartbeats 4000000 in
theorem uses_v (Z : Zone) (op : Int) (f : Txt) (l : EL) (hlen' : l.size ≤ 4294967294) (x : Txt) (w : World) (up : Nat) (v tv ev : Value) (hS : SlE Z w up v l) (hv : ∃ to tn tc eo en ec, tv = .slice to tn tc ∧ ev = .slice eo en ec) :
    Calls Tryz.prog 26 #[stV op f v tv ev, str x] w fun e w' => e = .returned (.tuple #[.bool (rd1 op f l x), .bool (wr1 op f x)]) ∧ Keeps (fun _ => False) w w' := by
  have hlen : l.len ≤ 4294967294 := by have := EL.len_le l; omega
  obtain ⟨to, tn, tc, eo, en, ec, rfl, rfl⟩ := hv
  obtain ⟨ao, cap, b, off, rfl, hcap, ha, hx⟩ := hS.open
  obtain ⟨HB, hxb, hxc⟩ := boxedT w #[.int .i64 op, str f, .slice ao l.len cap, .slice to tn tc, .slice eo en ec] 53
  have c0 := hxc 0 (.int .i64 op) rfl
  have c1 := hxc 1 (str f) rfl
  have c2 := hxc 2 (.slice ao l.len cap) rfl
  have HX := hide hx
  have HA := hide ha
  clear hS hx ha hxc
  go_enter Tryz.func26, Tryz.ntmps26
  go_wp2_with fail
  go_loopw [6, 7] (fun d i wr => ∃ (rest : EL) (k : Nat) (r : Bool), d = .bool r ∧ i = .int .i64 k ∧ k + rest.len = l.len ∧ rest.size ≤ l.size ∧ Hid ((r || decide (0 < cntE rest x)) = decide (0 < cntE l x)) ∧ Keeps (fun _ => False) (w.alloc (.cells #[.int .i64 op, str f, .slice ao l.len cap, .slice to tn tc, .slice eo en ec] 53)) wr ∧ ExIn Z wr rest b (off + k * 4)) (fun _ i _ => l.len - (intOf i).toNat)
  case atStart => exact ⟨l, 0, false, rfl, rfl, by omega, Nat.le_refl _, rfl, Keeps.refl _ _, by simpa using (unhide HX).keepF (unhide HB)⟩
  case round =>
    obtain ⟨rest, k, r, rfl, rfl, hkl, hrs, HWE, hkeep, hr⟩ := hrel
    have q0 := (hkeep.cell (o := 0) hxb id).trans c0
    have q1 := (hkeep.cell (o := 1) hxb id).trans c1
    have q2 := (hkeep.cell (o := 2) hxb id).trans c2
    have HK := hide hkeep
    clear hkeep
    cases rest with
    | nil =>
      simp only [EL.len, EL.size] at hkl hrs
      have HV : Hid (r = decide (0 < cntE l x)) := by have h := unhide HWE; exact hide (by simpa [cntE] using h)
      clear hr
      have i1 : ¬ (k : Int) < (l.len : Int) := by omega
      by_cases hf : f = x
      · subst hf
        by_cases ho : op = 2 ∨ op = 3 ∨ op = 4
        · rcases ho with rfl | rfl | rfl
          all_goals
            go_wp2_with fail
            refine bodyPost_ret (v := .tuple #[.bool true, .bool true]) (by simp [results, go_sem]) rfl ?_
            exact ⟨by simp [rd1, wr1], (unhide HB).trans (unhide HK)⟩
        · by_cases hp : op = 1 ∨ op = 5
          · rcases hp with rfl | rfl
            all_goals
              clear ho
              go_wp2_with fail
              refine bodyPost_ret (v := .tuple #[.bool r, .bool true]) (by simp [results, go_sem]) rfl ?_
              exact ⟨by rw [unhide HV]; simp [rd1, wr1], (unhide HB).trans (unhide HK)⟩
          · have o1 : (op == 1) = false := by simp; omega
            have o2 : (op == 2) = false := by simp; omega
            have o3 : (op == 3) = false := by simp; omega
            have o4 : (op == 4) = false := by simp; omega
            have o5 : (op == 5) = false := by simp; omega
            have HO : Hid (¬ (op = 2 ∨ op = 3 ∨ op = 4) ∧ ¬ (op = 1 ∨ op = 2 ∨ op = 3 ∨ op = 4 ∨ op = 5)) := ⟨ho, by omega⟩
            clear ho hp
            go_wp2_with fail
            refine bodyPost_ret (v := .tuple #[.bool r, .bool false]) (by simp [results, go_sem]) rfl ?_
            exact ⟨by rw [unhide HV]; rw [rd1_no (fun h => (unhide HO).1 h.1), wr1_no (fun h => (unhide HO).2 h.1)], (unhide HB).trans (unhide HK)⟩
      · have hfe : (f == x) = false := by simpa using hf
        have hfn : (f != x) = true := by simpa using hf
        have HF := hide hf
        clear hf
        go_wp2_with fail
        refine bodyPost_ret (v := .tuple #[.bool r, .bool false]) (by simp [results, go_sem]) rfl ?_
        exact ⟨by rw [unhide HV]; rw [rd1_no (fun h => (unhide HF) h.2), wr1_no (fun h => (unhide HF) h.2)], (unhide HB).trans (unhide HK)⟩
    | cons op' n' s' kids rest =>
      obtain ⟨h1, h2, h3, h4, h5, ⟨kao, kcap, h6, h7, h8⟩, h9⟩ := hr
      simp only [EL.len, EL.size] at hkl hrs
      obtain ⟨rfl, hp⟩ := (unhide HA) (by omega)
      have HKID : Hid (SlE Z wr b (.slice kao kids.len kcap) kids) := ⟨kao, kcap, rfl, h7, h8⟩
      have HR := hide h9
      have i1 : (k : Int) < (l.len : Int) := by omega
      have i0 : (0 : Int) ≤ (k : Int) := by omega
      have HKD := hide (names_v Z x (kids.size + 1) kids (by omega) (by omega) op' n' s' wr b (.slice kao kids.len kcap) (unhide HKID))
      have HWE2 : Hid ((r || (decide (0 < cntE (.cons op' n' s' kids .nil) x) || decide (0 < cntE rest x))) = decide (0 < cntE l x)) := by
        have h := unhide HWE
        rw [cnt_head] at h
        exact h
      generalize decide (0 < cntE (.cons op' n' s' kids .nil) x) = rr at HKD HWE2
      clear h2 h8 h9 HWE
      cases r with
      | true =>
        go_wp2_with (go_at_call 44; refine (unhide HKD).mono ?_; rintro e w1 ⟨rfl, hk1⟩; have HK1 := hide hk1; clear hk1)
        go_roundw
        case rel =>
          refine ⟨rest, k + 1, true, rfl, by go_num, by omega, by omega, by rw [← unhide HWE2]; rfl, (unhide HK).trans (unhide HK1), ?_⟩
          rw [show off + (k + 1) * 4 = off + k * 4 + 4 by omega]
          exact (unhide HR).keepF (unhide HK1)
        case measure => simp [intOf]; omega
      | false =>
        go_wp2_with (go_at_call 44; refine (unhide HKD).mono ?_; rintro e w1 ⟨rfl, hk1⟩; have HK1 := hide hk1; clear hk1)
        go_roundw
        case rel =>
          refine ⟨rest, k + 1, rr, rfl, by go_num, by omega, by omega, by rw [← unhide HWE2]; rfl, (unhide HK).trans (unhide HK1), ?_⟩
          rw [show off + (k + 1) * 4 = off + k * 4 + 4 by omega]
          exact (unhide HR).keepF (unhide HK1)
        case measure => simp [intOf]; omega
end Go.Proofs.YtoempeobaknkcaaGreatDoor
namespace Go.Proofs.YtoempeobaknkcaaGreatDoor
open Go.RowKit Go.Maps

/-- A row that grows by another one, statement by statement: what stands so far. (Blocks from A on below C are the other row's.) -/
structure Grow (B : Nat) (W0 W1 : World) (acc tot : SL) (g go : Nat) (v : Value) (j m : Nat) (xs : List Value) (rest : SL) (yr : List Value) (cur : World) : Prop where
  own : cur.ownsRow W0.heap.size 53 5 v m xs
  held : SsIn (argZ B) cur acc xs
  left : SsIn (argZ B) cur rest yr
  cells : ∀ i x, yr[i]? = some x → cur.cell? ⟨g, go + j * 5 + i, none⟩ = some x
  far : v.ownBlock ≠ some g
  lt : g < cur.heap.size
  kept : Keeps (fun q => W0.heap.size ≤ q) W1 cur
  all : acc.app rest = tot
  len : m = acc.len

/-- One statement more. -/
theorem Grow.step {B : Nat} {W0 W1 : World} {acc tot : SL} {g go : Nat} {oo : Option Addr} {oc : Nat} {j m : Nat} {xs : List Value} {op : Int} {f : Txt} {x : EL} {t el rest : SL} {xv tv ev : Value} {yr : List Value} {cur w6 : World} {g6 c6 : Nat} (hB : B ≤ W0.heap.size)
    (h : Grow B W0 W1 acc tot g go (.slice oo m oc) j m xs (.cons op f x t el rest) (.int .i64 op :: str f :: xv :: tv :: ev :: yr) cur)
    (ho : w6.ownsRow W0.heap.size 53 5 (.slice (some ⟨g6, 0, none⟩) (m + 1) c6) (m + 1) (xs ++ [.int .i64 op, str f, xv, tv, ev]))
    (hg : (cur.alloc (.cells #[.int .i64 op, str f, xv, tv, ev] 53)).grownBy w6 (Value.slice oo m oc).ownBlock) (hat : (Value.slice oo m oc).ownBlock = some g6 ∨ g6 = cur.heap.size + 1) :
    Grow B W0 W1 (acc.app (.cons op f x t el .nil)) tot g go (.slice (some ⟨g6, 0, none⟩) (m + 1) c6) (j + 1) (m + 1) (xs ++ [.int .i64 op, str f, xv, tv, ev]) rest yr w6 := by
  have hF : ∀ q, W0.heap.size ≤ q → B ≤ q := fun q hq => Nat.le_trans hB hq
  have k1 : Keeps (fun q => (Value.slice oo m oc).ownBlock = some q) cur w6 := ((Keeps.refl _ cur).alloc _).grown hg (fun q e _ => e)
  have k2 : Keeps (fun q => W0.heap.size ≤ q) cur w6 := k1.mono (fun q _ e => (h.own.lt q e).1)
  obtain ⟨xv', tv', ev', yr', e, h1, h2, h3, h4⟩ := h.left
  simp only [List.cons.injEq, true_and] at e
  obtain ⟨rfl, rfl, rfl, rfl⟩ := e
  refine ⟨ho, (h.held.argKeep k2 hF).app ⟨_, _, _, [], rfl, h1.argKeep k2 hF, h2.argKeep k2 hF, h3.argKeep k2 hF, rfl⟩, h4.argKeep k2 hF, fun i y hy => ?_, fun e => ?_, Nat.lt_of_lt_of_le h.lt k1.size, h.kept.trans k2, ?_, ?_⟩
  · rw [k1.cell h.lt h.far, show go + (j + 1) * 5 + i = go + j * 5 + (i + 5) by omega]
    exact h.cells (i + 5) y (by simpa using hy)
  · have e' : g6 = g := by simpa [Value.ownBlock] using e
    have := h.lt
    rcases hat with ha | ha
    · exact h.far (by rw [ha, e'])
    · omega
  · rw [app_oneS]; exact h.all
  · rw [SL.len_app, h.len]; rfl
theorem SsIn.cons_open {Z : Zone} {w : World} {op : Int} {f : Txt} {x : EL} {t e r : SL} {xs : List Value} (h : SsIn Z w (.cons op f x t e r) xs) : ∃ xo xc to tc eo ec ys, xs = .int .i64 op :: str f :: .slice xo x.len xc :: .slice to t.len tc :: .slice eo e.len ec :: ys := by
  obtain ⟨xv, tv, ev, ys, e, h1, h2, h3, _⟩ := h
  obtain ⟨xo, xc, rfl, _⟩ := h1.head
  obtain ⟨to, tc, rfl, _⟩ := h2.head
  obtain ⟨eo, ec, rfl, _⟩ := h3.head
  exact ⟨xo, xc, to, tc, eo, ec, ys, e⟩
theorem SsIn.nil_open {Z : Zone} {w : World} {xs : List Value} (h : SsIn Z w .nil xs) : xs = [] := h
end Go.Proofs.YtoempeobaknkcaaGreatDoor
