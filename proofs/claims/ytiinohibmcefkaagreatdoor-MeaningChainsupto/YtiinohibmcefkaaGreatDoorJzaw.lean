import Derived.Test.YtiinohibmcefkaaGreatDoorJzav
import Derived.Test.YtiinohibmcefkaaGreatDoorJzau
import Derived.Test.YtiinohibmcefkaaGreatDoorJzap
import Derived.Test.YtiinohibmcefkaaGreatDoorJzag
import Derived.Deep.DeepCutAuto
import Derived.Test.YtiinohibmcefkaaGreatDoorJzas
import Derived.Test.YtiinohibmcefkaaGreatDoorJzat
import Derived.Test.YtiinohibmcefkaaGreatDoorXr
import Derived.Test.YtiinohibmcefkaaGreatDoorRows
import Derived.Test.YtiinohibmcefkaaGreatDoorVm1
namespace Go.Proofs.YtiinohibmcefkaaGreatDoor
open Go.RowKit Go.Maps
set_option maxRecDepth 100000
set_option maxHeartbeats 8000000
theorem rcheck_bad (Z : Zone) (S : List FieldA) (l : SL) (hsz : l.size ≤ 4294967294) (sv pv : Value) (w : World) (up : Nat) (hf : FldsAt w sv S) (hp : SlS Z w up pv l) (E : Int) (hE : E ≠ 0)
  (h : schemaB S = false ∧ E = 60 ∨ schemaB S = true ∧ checkS l = E) :
  Calls Tryz.prog 62 #[.agg #[sv], pv] w fun e w' => e = .returned (chkV (E, 0)) ∧ Keeps (fun _ => False) w w' := by
 obtain ⟨ao, cap, rfl, hc⟩ := hp.head
 obtain ⟨so, sc, rfl⟩ := RowAt.form hf
 obtain ⟨HB, hxb, hxc⟩ := boxedT w #[.slice so S.length sc] 24
 have c0 := hxc 0 (.slice so S.length sc) rfl
 have HCS := hide (checkSchema_any S (.slice so S.length sc) _ (hf.keepF (uh HB)))
 have HCE := fun w' (hk : Keeps (fun _ => False) w w') => hide (rCheck_v Z l hsz w' up (.slice ao l.len cap) (hp.keepF hk))
 clear hf hp hxc
 rcases h with ⟨h1, rfl⟩ | ⟨h1, h2⟩
 ·rw [errS_bad h1] at HCS
  clear h1 HCE
  go_enter Tryz.func62, Tryz.ntmps62
  go_wp2_with (go_at_call 67; refine (uh HCS).mono ?_; rintro e w1 ⟨rfl, hk1⟩; have HKa := hide ((uh HB).trans hk1); clear hk1)
  refine bodyPost_ret (v := .tuple #[.int .i64 60, .int .i64 0]) (by simp [results, go_sem]) rfl ?_
  exact ⟨rfl, uh HKa⟩
 ·rw [errS_good h1] at HCS
  rw [h2] at HCE
  have n0 : (E != 0) = true := by simpa using hE
  clear h1 h2 hE
  go_enter Tryz.func62, Tryz.ntmps62
  go_wp2_with (first
   | (go_at_call 67; refine (uh HCS).mono ?_; rintro e w1 ⟨rfl, hk1⟩; have HKa := hide ((uh HB).trans hk1); clear hk1)
   | (go_at_call 97; refine (uh (HCE _ (uh HKa))).mono ?_; rintro e w2 ⟨rfl, hk1⟩; have HKa := hide ((uh HKa).trans hk1); clear hk1))
  refine bodyPost_ret (v := .tuple #[.int .i64 E, .int .i64 0]) (by simp [results, go_sem]) rfl ?_
  exact ⟨rfl, uh HKa⟩
theorem rcheck_fit (Z : Zone) (S : List FieldA) (l : SL) (hsz : l.size ≤ 4294967294) (sv pv : Value) (w : World) (up : Nat) (hf : FldsAt w sv S) (hp : SlS Z w up pv l) (hS : schemaB S = true) (hC : checkS l = 0) :
  Calls Tryz.prog 62 #[.agg #[sv], pv] w fun e w' => e = .returned (chkV (firstBad S (flatS l) 0)) ∧ Keeps (fun _ => False) w w' := by
 have hwl := checkS_well hC
 have hnl : (flatS l).len ≤ 4294967294 := by rw [flatS_len]; exact Nat.le_trans (countS_le l) hsz
 obtain ⟨ao, cap, rfl, hc⟩ := hp.head
 obtain ⟨so, sc, rfl⟩ := RowAt.form hf
 obtain ⟨HB, hxb, hxc⟩ := boxedT w #[.slice so S.length sc] 24
 have c0 := hxc 0 (.slice so S.length sc) rfl
 have SB : ∀ w', Keeps (fun _ => False) (w.alloc (.cells #[.slice so S.length sc] 24)) w' → w'.cell? ⟨w.heap.size, 0, none⟩ = some (.slice so S.length sc) := fun w' hk => (hk.cell hxb id).trans c0
 have HSB := hide SB
 have HCS := hide (checkSchema_any S (.slice so S.length sc) _ (hf.keepF (uh HB)))
 have HCE := fun w' (hk : Keeps (fun _ => False) w w') => hide (rCheck_v Z l hsz w' up (.slice ao l.len cap) (hp.keepF hk))
 have HNU := fun w' (hk : Keeps (fun _ => False) w w') => hide (flat_v w'.heap.size (l.size + 1) l (by omega) hsz w' 0 (.slice ao l.len cap) (Nat.le_refl _) ((hp.keepF hk).arg (Nat.le_refl _) 0))
 have HF := hide hf
 have HSG := hide hS
 rw [errS_good hS] at HCS
 rw [hC] at HCE
 have HW := hide (flat_well (N := 4294967294) l hsz hwl)
 clear hf hp hxc SB hS hC hwl
 go_enter Tryz.func62, Tryz.ntmps62
 go_wp2_with (first
  | (go_at_call 67; refine (uh HCS).mono ?_; rintro e w1 ⟨rfl, hk1⟩; have HKa := hide ((uh HB).trans hk1); have HKb := hide hk1; clear hk1)
  | (go_at_call 97; refine (uh (HCE _ (uh HKa))).mono ?_; rintro e w2 ⟨rfl, hk1⟩; have HKa := hide ((uh HKa).trans hk1); have HKb := hide ((uh HKb).trans hk1); clear hk1)
  | (go_at_call 98; refine (uh (HNU _ (uh HKa))).mono ?_; rintro e w4 ⟨fo, fc, n, xs, rfl, hn, hown, hss, hk1⟩; obtain ⟨g, goff, hg, hst⟩ := num_open hn (rowAt_own hown) hss; have HNL := hide hn; have HG := hide hg; have HST := hide hst; have HKa := hide ((uh HKa).trans hk1); have HKb := hide ((uh HKb).trans hk1); clear hn hown hss hg hst hk1))
 have hn2 : n ≤ 4294967294 := by rw [uh HNL]; exact hnl
 clear hnl HCS HCE HNU c0
 go_loopw [8] (fun i wr => ∃ (rest : SL) (k : Nat), i = .int .i64 k ∧ k + rest.len = n ∧ Hid (firstBad S rest k = firstBad S (flatS l) 0) ∧ wellF 4294967294 rest ∧ Keeps (fun _ => False) w4 wr ∧ StIn (argZ w4.heap.size) w4 rest g (goff + k * 5)) (fun i _ => n - (intOf i).toNat)
 case atStart => exact ⟨flatS l, 0, rfl, by rw [Nat.zero_add]; exact (uh HNL).symm, rfl, uh HW, Keeps.refl _ _, by simpa using uh HST⟩
 case round =>
  obtain ⟨rest, k, rfl, hkl, HS, hwf, hkeep, hr⟩ := hrel
  have HK := hide hkeep
  cases rest with
  | nil =>
   simp only [SL.len, Nat.add_zero] at hkl
   have i1 : ¬ (k : Int) < (n : Int) := by omega
   clear hr hkeep hwf hkl
   go_wp2_with fail
   refine bodyPost_ret (v := .tuple #[.int .i64 0, .int .i64 0]) (by simp [results, go_sem]) rfl ?_
   exact ⟨by rw [← uh HS]; rfl, (uh HKa).trans (uh HK)⟩
  | cons op f x t el rest =>
   obtain ⟨h1, h2, h3, h4, ⟨xv, h5, hxs⟩, ⟨tao, tcap, h6, h7, h8⟩, ⟨eao, ecap, j6, j7, j8⟩, h9⟩ := hr
   obtain ⟨hh, hwx, hxz, hwr⟩ := hwf
   simp only [SL.len] at hkl
   obtain ⟨xao, xcap, rfl, hxl⟩ := hxs.head
   obtain rfl := (uh HG) (by omega)
   have HR := hide h9
   have HWR := hide hwr
   have i1 : (k : Int) < (n : Int) := by omega
   have ix0 : (0 : Int) ≤ (k : Int) := by omega
   have HKL := hide hkl
   have e0 : ∀ m : KW wr, m.wd.cell? ⟨w.heap.size, 0, none⟩ = some (.slice so S.length sc) := fun m => uh HSB _ (((uh HKb).trans hkeep).trans m.kept)
   have f0 : ∀ m : KW wr, m.wd.cell? ⟨g, goff + k * 5, none⟩ = some (.int .i64 op) := fun m => ((hkeep.trans m.kept).cell h1 id).trans h3
   have f1 : ∀ m : KW wr, m.wd.cell? ⟨g, goff + k * 5 + 1, none⟩ = some (str f) := fun m => ((hkeep.trans m.kept).cell h1 id).trans h4
   have f2 : ∀ m : KW wr, m.wd.cell? ⟨g, goff + k * 5 + 2, none⟩ = some (.slice xao x.len xcap) := fun m => ((hkeep.trans m.kept).cell h1 id).trans h5
   have f3 : ∀ m : KW wr, m.wd.cell? ⟨g, goff + k * 5 + 3, none⟩ = some (.slice tao t.len tcap) := fun m => ((hkeep.trans m.kept).cell h1 id).trans h6
   have f4 : ∀ m : KW wr, m.wd.cell? ⟨g, goff + k * 5 + 4, none⟩ = some (.slice eao el.len ecap) := fun m => ((hkeep.trans m.kept).cell h1 id).trans j6
   have HE := hide (fun (m : KW wr) => kw_of m (refOwn_v (argZ w4.heap.size) S (uh HSG) so sc op f x t el _ (.slice tao t.len tcap) (.slice eao el.len ecap) g m.wd ((uh HF).keepF (((uh HKa).trans hkeep).trans m.kept)) (hxs.keepF (hkeep.trans m.kept)) ⟨_, _, _, _, _, _, rfl, rfl⟩ hh hwx))
   have hst : firstBad S (.cons op f x t el rest) k = if ownP S op f x ≠ 0 then (ownP S op f x, k) else firstBad S rest (k + 1) := rfl
   rw [hst] at HS
   obtain ⟨R, hR⟩ : ∃ R, R = ownP S op f x := ⟨_, rfl⟩
   rw [← hR] at HE HS
   clear hkeep h1 h2 h3 h4 h5 h6 h8 h9 j6 j8 hxs hst hR hh hwx hwr hkl
   by_cases hR0 : R = 0
   ·subst hR0
    rw [if_neg (by simp)] at HS
    go_wp2_with fail
    refine region_kept (by kernel_rfl) (by kernel_rfl) ?_
    repeat (go_big_quiet_step ((go_at_call 99; exact uh HE _)))
    refine wpQuiet_nil ?_
    rintro _ ⟨nq, rfl⟩
    have HK1 := hide nq.kept
    go_wp2_with fail
    go_roundw
    case rel =>
     refine ⟨rest, k + 1, by go_num, by have := uh HKL; omega, uh HS, uh HWR, (uh HK).trans (uh HK1), ?_⟩
     rw [show goff + (k + 1) * 5 = goff + k * 5 + 5 by omega]
     exact uh HR
    case measure => have := uh HKL; simp [intOf]; omega
   ·have n0 : (R != 0) = true := by simpa using hR0
    rw [if_pos hR0] at HS
    clear hR0
    go_wp2_with fail
    refine region_kept (by kernel_rfl) (by kernel_rfl) ?_
    repeat (go_big_quiet_step ((go_at_call 99; exact uh HE _)))
    refine wpQuiet_nil ?_
    rintro _ ⟨nq, rfl⟩
    have HK1 := hide nq.kept
    go_wp2_with fail
    refine bodyPost_ret (v := .tuple #[.int .i64 R, .int .i64 (k : Int)]) (by simp [results, go_sem]) rfl ?_
    exact ⟨by rw [← uh HS], ((uh HKa).trans (uh HK)).trans (uh HK1)⟩
theorem rcheck9_v (Z : Zone) (S : List FieldA) (l : SL) (hsz : l.size ≤ 4294967294) (sv pv : Value) (w : World) (up : Nat) (hf : FldsAt w sv S) (hp : SlS Z w up pv l) :
  Calls Tryz.prog 62 #[.agg #[sv], pv] w fun e w' => e = .returned (chkV (checkP S l)) ∧ Keeps (fun _ => False) w w' := by
 unfold checkP
 cases hS : schemaB S with
 | false =>
  rw [errS_bad hS, if_pos (by decide)]
  exact rcheck_bad Z S l hsz sv pv w up hf hp 60 (by decide) (Or.inl ⟨hS, rfl⟩)
 | true =>
  rw [errS_good hS, if_neg (by simp)]
  by_cases hE : checkS l = 0
  ·rw [if_neg (by simpa using hE)]
   exact rcheck_fit Z S l hsz sv pv w up hf hp hS hE
  ·rw [if_pos hE]
   exact rcheck_bad Z S l hsz sv pv w up hf hp _ hE (Or.inr ⟨hS, rfl⟩)
end Go.Proofs.YtiinohibmcefkaaGreatDoor
namespace Go.Proofs.YtiinohibmcefkaaGreatDoor
open Go.RowKit Go.Maps
set_option maxRecDepth 100000
set_option maxHeartbeats 8000000
def isB31 (N : Nat) (w : World) (v : Value) : Prop := ∃ g, v = .pointer (some ⟨g, 0, none⟩) ∧ N ≤ g ∧ w.heap[g]? = some (.cells #[.bool false, .slice none 0 0] 31 (0, 0))
theorem isB31.keep {N : Nat} {w w' : World} {v : Value} (h : isB31 N w v) (hk : Keeps (fun _ => False) w w') : isB31 N w' v := by
 obtain ⟨g, e, hN, hg⟩ := h
 exact ⟨g, e, hN, (hk.block _ (lt_of_block hg) id).trans hg⟩
section
variable {Q : Exit → Act → World → Prop} {K : Act → World → Prop} {o : Oper} {a : Act} {w : World}
theorem step_alloc31 {N : Nat} (ho : o.op = .alloc 31) (hN : N ≤ w.heap.size) (hk : ∀ v' w', isB31 N w' v' → Keeps (fun _ => False) w w' → K (a.put o.dst v') w') : Oper.wp Tryz.prog o a w K Q := by
 unfold Oper.wp
 simp [execOp, ho, go_sem]
 exact hk _ _ ⟨w.heap.size, rfl, hN, heap_alloc_new w _⟩ (kAlloc w _)
theorem step_c64 {t : Nat} {v : Value} {h : Bool} {vals : List ValA} (ho : o.op = .call { callee := .value (.func 64), args := #[.tmp t], argTypes := #[31] }) (ht : a.tmps.getD t undef = v) (hc : Calls Tryz.prog 64 #[v] w fun e w' => ∃ ro rc, e = .returned (.agg #[.bool h, .slice ro vals.length rc]) ∧ w'.ownsRow w.heap.size 41 3 (.slice ro vals.length rc) vals.length (vcs vals) ∧ Keeps (fun _ => False) w w')
  (hk : ∀ v' w', isR w' v' (h, vals) → Keeps (fun _ => False) w w' → K (a.put o.dst v') w') : Oper.wp Tryz.prog o a w K Q := by
 have he := slot_of ht
 unfold Oper.wp
 simp [execOp, ho, he, go_sem]
 refine hc.mono ?_
 rintro e w' ⟨ro, rc, rfl, h1, h2⟩
 exact hk _ _ ⟨ro, rc, rfl, rowAt_own h1⟩ h2
theorem step_c63 {t u q : Nat} {v v2 : Value} {p r : Bool × List ValA} (ho : o.op = .call { callee := .value (.func 63), args := #[.tmp t, .tmp u, .tmp q], argTypes := #[24, 28, 31] }) (ht : a.tmps.getD t undef = v) (hu : a.tmps.getD u undef = v2) (hq : isR w (a.tmps.getD q undef) p) (hc : ∀ uv, ValsAt w uv p.2 → Calls Tryz.prog 63 #[v, v2, .agg #[.bool p.1, uv]] w (RPost w r))
  (hk : ∀ v' w', isR w' v' r → Keeps (fun _ => False) w w' → K (a.put o.dst v') w') : Oper.wp Tryz.prog o a w K Q := by
 obtain ⟨ro, rc, e3', hv⟩ := hq
 have e1 := slot_of ht
 have e2 := slot_of hu
 have e3 := slot_of e3'
 unfold Oper.wp
 simp [execOp, ho, e1, e2, e3, go_sem]
 refine (hc _ hv).mono ?_
 rintro e w' ⟨v', rfl, h1, h2⟩
 exact hk _ _ h1 h2
end
def RunPost (w : World) (R : (Bool × List ValA) × Int) (e : Ending) (w' : World) : Prop := ∃ uo uc, e = .returned (.tuple #[.agg #[.bool R.1.1, .slice uo R.1.2.length uc], .int .i64 R.2]) ∧ ValsAt w' (.slice uo R.1.2.length uc) R.1.2 ∧ Keeps (fun _ => False) w w'
theorem run_form (S : List FieldA) (l : SL) (h : Bool) (vals : List ValA) : runP S l h vals = if (checkP S l).1 ≠ 0 then ((false, []), (checkP S l).1) else if rowE S h vals ≠ 0 then ((false, []), rowE S h vals) else (runS S l (h, vals), 0) := by
 unfold runP chainP
 by_cases he : errS S = 0
 ·rw [if_neg (by simpa using he)]
  rw [firstE_one]
  rfl
 ·have hc : (checkP S l).1 = errS S := by
   unfold checkP
   rw [if_pos he]
  rw [if_pos he, hc, if_pos he]
theorem rrun_v (Z : Zone) (S : List FieldA) (l : SL) (hsz : l.size ≤ 4294967294) (hi : intS l) (h : Bool) (vals : List ValA) (hv : ∀ v ∈ vals, I64 v.n) (hvl : vals.length ≤ 4398046511104) (sv pv u : Value) (w : World) (up : Nat) (hf : FldsAt w sv S) (hu : ValsAt w u vals) (hp : SlS Z w up pv l) :
  Calls Tryz.prog 28 #[.agg #[sv], pv, .agg #[.bool h, u]] w (RunPost w (runP S l h vals)) := by
 obtain ⟨so, sc, rfl⟩ := RowAt.form hf
 obtain ⟨uo, uc, rfl⟩ := RowAt.form hu
 have hp0 := hp
 obtain ⟨po, pc, rfl, _⟩ := hp.head
 obtain ⟨W, hW, hkW, g0, g1, g2⟩ := boxA3 w #[.slice so S.length sc] #[.bool h, .slice uo vals.length uc] #[.bool false, .slice none 0 0] 24 31 31
 have HKW := hide hkW
 have G0 := hide g0
 have G1 := hide g1
 have B2 := hide g2
 have p0 := cl1 g0
 have HCK := hide (rcheck9_v Z S l hsz (.slice so S.length sc) (.slice po l.len pc) W up (hf.keepF hkW) (hp0.keepF hkW))
 have HCR := hide (fun (W' : World) (hk : Keeps (fun _ => False) w W') => checkRowR_v S (.slice so S.length sc) (.slice uo vals.length uc) h vals W' (hf.keepF hk) (hu.keepF hk))
 have HCO0 := hide (fun (W' : World) (hk : Keeps (fun _ => False) w W') => copiedR_v W' h (.slice uo vals.length uc) vals (hu.keepF hk) hvl)
 have HAF0 := hide (fun (c : (checkP S l).1 = 0) (q : rowE S h vals = 0) (W' : World) (hk : Keeps (fun _ => False) w W') (uv : Value) (hq : ValsAt W' uv vals) => after_of S (check_ok c).1 so sc l.size (does_at S (check_ok c).1 so sc l.size hsz) l (Nat.le_refl _) hsz (check_ok c).2.1 (check_ok c).2.2 hi h vals (rowE_fit q) hv Z up (.slice po l.len pc) uv W' (hf.keepF hk) hq (hp0.keepF hk))
 have HE0 := hide (fun (c : (checkP S l).1 = 0) => errS_good (check_ok c).1)
 rw [run_form]
 have HN : ∀ (W' : World), ValsAt W' (.slice none 0 0) [] := fun W' => rowAt_own (World.ownsRow_nil W' 0 41 3)
 have HNH := hide HN
 clear g0 g1 g2 hkW hf hu hp hp0 hv hi HN
 generalize hck : checkP S l = CK at *
 obtain ⟨ck, cn⟩ := CK
 by_cases hc : ck = 0
 ·subst hc
  rw [if_neg (by simp)]
  have hE := uh HE0 rfl
  have HCR2 := hide (fun (W' : World) (hk : Keeps (fun _ => False) w W') => (by have := uh HCR W' hk; rw [if_neg (by simpa using hE)] at this; exact this : Calls Tryz.prog 53 #[.agg #[.slice so S.length sc], .agg #[.bool h, .slice uo vals.length uc]] W' fun e w' => e = .returned (.int .i64 (rowE S h vals)) ∧ Keeps (fun _ => False) W' w'))
  have HAF1 := hide (uh HAF0 rfl)
  clear hE HCR HAF0 HE0 hck
  generalize runS S l (h, vals) = r at *
  generalize hro : rowE S h vals = RO at *
  clear hro
  by_cases hr : RO = 0
  ·subst hr
   rw [if_neg (by simp)]
   have HAF2 := hide (uh HAF1 rfl)
   go_enter Tryz.func28, Tryz.ntmps28
   go_wp2_with fail
   refine (uh HCK).mono ?_
   rintro e w1 ⟨rfl, hk1⟩
   have HK1 := hide hk1
   replace p0 := cl1 (blk_keep (uh G0) hk1)
   obtain ⟨r0, r1⟩ := cl2 (blk_keep (uh G1) hk1)
   clear hk1
   unfold chkV
   go_wp2_with fail
   refine (uh HCR2 w1 ((uh HKW).trans (uh HK1))).mono ?_
   rintro e X ⟨rfl, hk2⟩
   have HWX := hide ((uh HK1).trans hk2)
   have HS0 := hide (fun (W' : World) (hk : Keeps (fun _ => False) X W') => blk_keep (blk_keep (uh G0) (uh HWX)) hk)
   have HR0 := hide (fun (W' : World) (hk : Keeps (fun _ => False) X W') => blk_keep (blk_keep (uh G1) (uh HWX)) hk)
   have HCO := hide (fun (W' : World) (hk : Keeps (fun _ => False) X W') => uh HCO0 W' (((uh HKW).trans (uh HWX)).trans hk))
   have HAF := hide (fun (W' : World) (hk : Keeps (fun _ => False) X W') => uh HAF2 W' (((uh HKW).trans (uh HWX)).trans hk))
   have HKX := hide (Keeps.refl (fun _ => False) X)
   clear hk2 p0 r0 r1 HAF1 HAF2 HCR2 HCK
   go_upto_region 7 with fail
   rename_i Q0 K0 hc0
   refine wp_region_last (X := X) (by kernel_rfl) 6 rfl _ rfl rfl (by decide) (by kernel_rfl) [28, 29, 30, 31, 32, 10] (by decide) rfl (by first | rfl | kernel_rfl | simp [opsB]) (uh HKX) (fun i v W1 => match i with | 0 => v = .agg #[.slice so S.length sc] | 1 => v = .slice po l.len pc | 2 => v = .agg #[.bool h, .slice uo vals.length uc] | 3 => isR W1 v (h, vals) | 4 => isR W1 v r | 5 => isB31 X.heap.size W1 v | _ => True) ?_ ?_ ?_
   ·intro i v w1 w2 hq hk
    rcases i with _ | _ | _ | _ | _ | _ | i
    all_goals first | exact hq | exact isR.keepF hq hk | exact isB31.keep hq hk
   ·intro i oo A W1 him ho hs hk hd K' hK
    rcases i with _ | _ | _ | _ | _ | _ | i
    ·obtain rfl := Option.some.inj ho
     exact step_load24 rfl ((hs.at rfl 3 (by decide)).trans rfl) (uh HS0 W1 hk) (hK _ _ rfl (Keeps.refl _ _))
    ·obtain rfl := Option.some.inj ho
     exact step_move rfl ((hs.at rfl 1 (by decide)).trans rfl) (hK _ _ rfl (Keeps.refl _ _))
    ·obtain rfl := Option.some.inj ho
     exact step_load31 rfl ((hs.at rfl 5 (by decide)).trans rfl) (uh HR0 W1 hk) (hK _ _ rfl (Keeps.refl _ _))
    ·obtain rfl := Option.some.inj ho
     exact step_c64 rfl (hd ⟨2, .data⟩ (by simp) rfl) (uh HCO W1 hk) (fun v' w' q1 q2 => hK v' w' q1 q2)
    ·obtain rfl := Option.some.inj ho
     exact step_c63 rfl (hd ⟨0, .data⟩ (by simp) rfl) (hd ⟨1, .data⟩ (by simp) rfl) (hd ⟨3, .data⟩ (by simp) rfl) (uh HAF W1 hk) (fun v' w' q1 q2 => hK v' w' q1 q2)
    ·obtain rfl := Option.some.inj ho
     exact step_alloc31 rfl hk.size (fun v' w' h1 h2 => hK v' w' h1 h2)
    ·omega
   ·intro A V hs hk hall K' hK
    have v0 : A.tmps.getD 28 undef = .agg #[.slice so S.length sc] := hall 0 (by decide)
    have v1 : A.tmps.getD 29 undef = .slice po l.len pc := hall 1 (by decide)
    have v2 : A.tmps.getD 30 undef = .agg #[.bool h, .slice uo vals.length uc] := hall 2 (by decide)
    obtain ⟨mo, mc, v3, _⟩ : isR V (A.tmps.getD 31 undef) (h, vals) := hall 3 (by decide)
    obtain ⟨no, nc, v4, hnv⟩ : isR V (A.tmps.getD 32 undef) r := hall 4 (by decide)
    obtain ⟨g, v5, hgN, hgb⟩ : isB31 X.heap.size V (A.tmps.getD 10 undef) := hall 5 (by decide)
    refine step_store31 rfl rfl v5 v4 hgb (by simp [Value.oneCell']) ?_
    intro V2 hb2 hk2
    refine hK A V2 (hc0 _ _ ?_)
    have hA := same_fold hs rfl
    simp only [List.foldl_cons, List.foldl_nil, v0, v1, v2, v3, v4, v5] at hA
    simp only [Act.put, List.setIfInBounds_toArray, List.set_cons_zero, List.set_cons_succ] at hA
    have hv2 := vals_off hnv hgb (off2 (by intro n; simp)) hk2
    have hk3 : Keeps (fun _ => False) X V2 := hk.narrow hk2 (fun q e => by omega)
    obtain ⟨q0, q1⟩ := cl2 hb2
    have hb := blk_keep (blk_keep (uh B2) (uh HWX)) hk3
    have z0 := fB hb 0
    have z1 := fB hb 1
    obtain ⟨y0, y1⟩ := cl2 hb
    obtain ⟨s0, s1⟩ := set2c hb (.bool r.1) (.slice no r.2.length nc)
    have HKE := hide ((((uh HKW).trans (uh HWX)).trans hk3).fresh (by omega) (keeps_set2 V2 (w.heap.size + 1 + 1) (.bool r.1) (.slice no r.2.length nc)))
    have HVE := hide (vals_off hv2 hb (off2 (by intro n; simp)) (keeps_set2 V2 (w.heap.size + 1 + 1) (.bool r.1) (.slice no r.2.length nc)))
    rw [hA]
    clear hs hk hall hK hA hb2 hk2 hnv hv2 hk3 hb hgb v0 v1 v2 v3 v4 v5
    go_wp2_with fail
    refine bodyPost_ret (v := .tuple #[.agg #[.bool r.1, .slice no r.2.length nc], .int .i64 0]) (by simp [results, go_sem, s0, s1]) rfl ?_
    exact ⟨no, nc, rfl, uh HVE, uh HKE⟩
  ·rw [if_pos hr]
   go_enter Tryz.func28, Tryz.ntmps28
   go_wp2_with fail
   refine (uh HCK).mono ?_
   rintro e w1 ⟨rfl, hk1⟩
   have HK1 := hide hk1
   replace p0 := cl1 (blk_keep (uh G0) hk1)
   obtain ⟨r0, r1⟩ := cl2 (blk_keep (uh G1) hk1)
   clear hk1
   unfold chkV
   go_wp2_with fail
   refine (uh HCR2 w1 ((uh HKW).trans (uh HK1))).mono ?_
   rintro e w2 ⟨rfl, hk2⟩
   have hb := blk_keep (uh B2) ((uh HK1).trans hk2)
   have z0 := fB hb 0
   have z1 := fB hb 1
   obtain ⟨y0, y1⟩ := cl2 hb
   obtain ⟨s0, s1⟩ := set2c hb (.bool false) (.slice none 0 0)
   have HKE := hide ((((uh HKW).trans (uh HK1)).trans hk2).fresh (by omega) (keeps_set2 w2 (w.heap.size + 1 + 1) (.bool false) (.slice none 0 0)))
   clear hb hk2 p0 r0 r1
   go_wp2_with fail
   refine bodyPost_ret (v := .tuple #[.agg #[.bool false, .slice none 0 0], .int .i64 RO]) (by simp [results, go_sem, s0, s1]) rfl ?_
   exact ⟨none, 0, rfl, uh HNH _, uh HKE⟩
 ·rw [if_pos (show (ck, cn).1 ≠ 0 from hc)]
  go_enter Tryz.func28, Tryz.ntmps28
  go_wp2_with fail
  refine (uh HCK).mono ?_
  rintro e w2 ⟨rfl, hk2⟩
  unfold chkV
  have hb := blk_keep (uh B2) hk2
  have z0 := fB hb 0
  have z1 := fB hb 1
  obtain ⟨y0, y1⟩ := cl2 hb
  obtain ⟨s0, s1⟩ := set2c hb (.bool false) (.slice none 0 0)
  have HKE := hide (((uh HKW).trans hk2).fresh (by omega) (keeps_set2 w2 (w.heap.size + 1 + 1) (.bool false) (.slice none 0 0)))
  clear hb hk2 p0
  go_wp2_with fail
  refine bodyPost_ret (v := .tuple #[.agg #[.bool false, .slice none 0 0], .int .i64 ck]) (by simp [results, go_sem, s0, s1]) rfl ?_
  exact ⟨none, 0, rfl, uh HNH _, uh HKE⟩
end Go.Proofs.YtiinohibmcefkaaGreatDoor
namespace Go.Proofs.YtiinohibmcefkaaGreatDoor
open Go.RowKit Go.Maps
def reachL (ops : Array Oper) : Nat → List Nat → List Nat
 | 0, need => need
 | i + 1, need => reachL ops i (if need.contains i then need ++ (match ops[i]? with | some o => waitsL o | none => []) else need)
theorem reachL_done {ops : Array Oper} {d : Nat → Bool} (hc : ∀ (i : Nat) (o : Oper), ops[i]? = some o → d i = true → ∀ e ∈ o.after, Region.binds .any e = true → d e.on = true) : ∀ (n : Nat) (need : List Nat), (∀ j ∈ need, d j = true) → ∀ j ∈ reachL ops n need, d j = true
 | 0, _, hn, j, hj => hn j hj
 | n + 1, need, hn, j, hj => by
  refine reachL_done hc n _ (fun k hk => ?_) j hj
  split at hk
  ·rename_i hcn
   rcases List.mem_append.1 hk with hk | hk
   ·exact hn k hk
   ·cases ho : ops[n]? with
    | none => rw [ho] at hk; simp at hk
    | some o =>
     rw [ho] at hk
     obtain ⟨e, he, hb, rfl⟩ := waitsL_mem hk
     exact hc n o ho (hn n (by simpa using hcn)) e he hb
  ·exact hn k hk
def opsC (dl : List Nat) (sz s : Nat) : Nat → List Oper → Bool
 | _, [] => true
 | i, o :: r => (i == s || (decide (o.dst = some (dl.getD i 0)) && decide (dl.getD i 0 < sz))) && o.guard.isNone && o.after.toList.all (fun e => !Region.binds .any e || decide (e.on < i)) && opsC dl sz s (i + 1) r
theorem opsC_at {dl : List Nat} {sz s : Nat} : ∀ {l : List Oper} {k : Nat}, opsC dl sz s k l = true → ∀ (j : Nat) (o : Oper), l[j]? = some o → (k + j ≠ s → o.dst = some (dl.getD (k + j) 0) ∧ dl.getD (k + j) 0 < sz) ∧ o.guard = none ∧ ∀ e ∈ o.after, Region.binds .any e = true → e.on < k + j
 | [], _, _, j, o, h => by simp at h
 | x :: r, k, hB, 0, o, h => by
  simp at h
  subst h
  simp only [opsC, Bool.and_eq_true, Bool.or_eq_true, beq_iff_eq, decide_eq_true_eq, Option.isNone_iff_eq_none] at hB
  obtain ⟨⟨⟨h1, h2⟩, h4⟩, _⟩ := hB
  refine ⟨fun hne => h1.resolve_left hne, h2, fun e he hb => ?_⟩
  have := List.all_eq_true.1 h4 e (by simpa using he)
  simpa [hb] using this
 | x :: r, k, hB, j + 1, o, h => by
  simp only [opsC, Bool.and_eq_true] at hB
  have := opsC_at hB.2 j o (by simpa using h)
  rwa [show k + 1 + j = k + (j + 1) by omega] at this
section
variable {P : Program} {ops : Array Oper} {Q : Exit → Act → World → Prop}
theorem all_doneB (hac : ∀ (i : Nat) (o : Oper), ops[i]? = some o → ∀ e ∈ o.after, Region.binds .any e = true → e.on < i) {listed : Array Bool} (hl : listed.size = ops.size) (hr : Region.ready .any ops listed = []) : ∀ i, i < ops.size → listed.getD i false = true := by
 intro i
 induction i using Nat.strongRecOn with
 | ind i ih =>
  intro hi
  cases hd : listed.getD i false with
  | true => rfl
  | false =>
   have hm : i ∈ Region.ready .any ops listed := by
    refine mem_ready.2 ⟨?_, ops[i], Array.getElem?_eq_getElem hi, fun e he hb => ih e.on (hac i _ (Array.getElem?_eq_getElem hi) e he hb) (Nat.lt_trans (hac i _ (Array.getElem?_eq_getElem hi) e he hb) hi)⟩
    rw [Array.getD_eq_getD_getElem?, Array.getElem?_eq_getElem (by omega)] at hd ⊢
    exact hd
   rw [hr] at hm
   cases hm
theorem wpAny_invB (hac : ∀ (i : Nat) (o : Oper), ops[i]? = some o → ∀ e ∈ o.after, Region.binds .any e = true → e.on < i) (I : (Nat → Bool) → Act → World → Prop)
  (hs : ∀ (d : Nat → Bool) (a : Act) (w : World) (i : Nat) (o : Oper), I d a w → d i = false → ops[i]? = some o → (∀ e ∈ o.after, Region.binds .any e = true → d e.on = true) → wpOp P ops Q i (fun a' w' => I (mark d i) a' w') a w)
  (he : ∀ (d : Nat → Bool) (a : Act) (w : World), I d a w → (∀ i, i < ops.size → d i = true) → Q .normal a w) :
  ∀ (fuel : Nat) (listed : Array Bool) (a : Act) (w : World), listed.size = ops.size → undone (fun j => listed.getD j false) ops.size ≤ fuel → I (fun j => listed.getD j false) a w → wpAny P .any ops Q fuel listed a w
 | 0, listed, a, w, hl, hf, hI => by
  have hd := undone_zero (Nat.le_zero.1 hf)
  refine ⟨?_, he _ a w hI hd⟩
  cases hr : Region.ready .any ops listed with
  | nil => rfl
  | cons i r =>
   have hm : i ∈ Region.ready .any ops listed := by rw [hr]; exact List.mem_cons_self ..
   obtain ⟨h1, o, ho, _⟩ := mem_ready.1 hm
   have hi : i < ops.size := (Array.getElem?_eq_some_iff.1 ho).1
   have h2 := hd i hi
   rw [Array.getD_eq_getD_getElem?, Array.getElem?_eq_getElem (by omega)] at h1
   simp only [Array.getD_eq_getD_getElem?, Array.getElem?_eq_getElem (show i < listed.size by omega)] at h2
   have h1' : listed[i] = false := h1
   have h2' : listed[i] = true := h2
   rw [h1'] at h2'
   cases h2'
 | fuel + 1, listed, a, w, hl, hf, hI => by
  refine ⟨fun hr => he _ a w hI (all_doneB hac hl hr), fun i hm => ?_⟩
  obtain ⟨h1, o, ho, hall⟩ := mem_ready.1 hm
  have hi : i < ops.size := (Array.getElem?_eq_some_iff.1 ho).1
  have hd : listed.getD i false = false := by
   rw [Array.getD_eq_getD_getElem?, Array.getElem?_eq_getElem (by omega)] at h1 ⊢
   exact h1
  have heq : (fun j => (listed.setIfInBounds i true).getD j false) = mark (fun j => listed.getD j false) i := by
   funext j
   unfold mark
   by_cases hj : j = i
   ·subst hj
    rw [if_pos rfl, Array.getD_eq_getD_getElem?, Array.getElem?_setIfInBounds_self_of_lt (by omega)]
    rfl
   ·rw [if_neg hj]
    show (listed.setIfInBounds i true).getD j false = listed.getD j false
    rw [Array.getD_eq_getD_getElem?, Array.getD_eq_getD_getElem?, Array.getElem?_setIfInBounds_ne (fun e => hj e.symm)]
  refine wpOp_mono (fun a' w' hI' => ?_) (hs _ a w i o hI hd ho hall)
  refine wpAny_invB hac I hs he fuel (listed.setIfInBounds i true) a' w' (by simpa using hl) ?_ ?_
  ·rw [heq]
   have := undone_mark (d := fun j => listed.getD j false) hd hi
   omega
  ·rw [heq]
   exact hI'
theorem wp_region_invB {id : Nat} {a : Act} {w : World} (hm : P.follows .mixedOrders = true) (hac : ∀ (i : Nat) (o : Oper), ops[i]? = some o → ∀ e ∈ o.after, Region.binds .any e = true → e.on < i) (I : (Nat → Bool) → Act → World → Prop)
  (h0 : I (fun _ => false) a w.drew)
  (hs : ∀ (d : Nat → Bool) (a : Act) (w : World) (i : Nat) (o : Oper), I d a w → d i = false → ops[i]? = some o → (∀ e ∈ o.after, Region.binds .any e = true → d e.on = true) → wpOp P ops Q i (fun a' w' => I (mark d i) a' w') a w)
  (he : ∀ (d : Nat → Bool) (a : Act) (w : World), I d a w → (∀ i, i < ops.size → d i = true) → Q .normal a w) : (Code.region id ops true).wp P Q a w := by
 refine wp_region_any hm ?_
 have e : (fun j => (Array.replicate ops.size false).getD j false) = fun _ => false := by
  funext j
  rw [Array.getD_eq_getD_getElem?, Array.getElem?_replicate]
  split <;> rfl
 have hu : ∀ n, undone (fun _ => false) n = n := fun n => by
  induction n with
  | zero => rfl
  | succ n ih => simp [undone, ih]
 refine wpAny_invB hac I hs he _ _ _ _ (by simp) ?_ ?_
 ·rw [e, hu]
  exact Nat.le_refl _
 ·rw [e]
  exact h0
theorem wp_region_store {id : Nat} {a0 : Act} {w0 X : World} (hm : P.follows .mixedOrders = true) (n s bx : Nat) (hsz : ops.size = n) (hsn : s < n) (os : Oper) (hos : ops[s]? = some os)
  (dl cv : List Nat) (hinj : ∀ i, i < n → ∀ j, j < n → i ≠ s → j ≠ s → dl.getD i 0 = dl.getD j 0 → i = j) (hB : opsC dl a0.tmps.size s 0 ops.toList = true)
  (hcv : cv.all (fun j => (reachL ops s (waitsL os)).contains j) = true) (hbx : bx ∈ cv) (hbn : bx < n) (hbs : bx ≠ s) (hcs : s ∉ cv) (hcn : ∀ j ∈ cv, j < n)
  (hX : Keeps (fun _ => False) X w0)
  (F : Nat → Value → World → Prop) (hF : ∀ i v w w', F i v w → Keeps (fun _ => False) w w' → F i v w')
  (F2 : Nat → Value → Prop) (hF2 : ∀ i v w, F i v w → F2 i v) (G : Value → World → Prop)
  (hs : ∀ (i : Nat) (o : Oper) (a : Act) (w : World), i < n → i ≠ s → ops[i]? = some o → Same a0 n (fun i => dl.getD i 0) a → Keeps (fun _ => False) X w → (∀ e ∈ o.after, Region.binds .any e = true → e.on ≠ s → F e.on (a.tmps.getD (dl.getD e.on 0) undef) w) → (∀ e ∈ o.after, Region.binds .any e = true → e.on ≠ s) →
    ∀ K' : Act → World → Prop, (∀ v w', F i v w' → Keeps (fun _ => False) w w' → K' (a.put o.dst v) w') → Oper.wp P o a w K' Q)
  (he : ∀ (a : Act) (w : World), Same a0 n (fun i => dl.getD i 0) a → Keeps (fun _ => False) X w → (∀ i ∈ cv, F i (a.tmps.getD (dl.getD i 0) undef) w) →
    ∀ K' : Act → World → Prop, (∀ w', G (a.tmps.getD (dl.getD bx 0) undef) w' → K' a w') → Oper.wp P os a w K' Q)
  (hs2 : ∀ (i : Nat) (o : Oper) (a : Act) (w : World), i < n → i ≠ s → i ∉ cv → ops[i]? = some o → (∀ e ∈ o.after, Region.binds .any e = true → e.on ≠ s → F2 e.on (a.tmps.getD (dl.getD e.on 0) undef)) →
    ∀ K' : Act → World → Prop, (∀ v, F2 i v → K' (a.put o.dst v) w) → Oper.wp P o a w K' Q)
  (hend : ∀ (a : Act) (w : World), Same a0 n (fun i => dl.getD i 0) a → G (a.tmps.getD (dl.getD bx 0) undef) w → (∀ i, i < n → i ≠ s → F2 i (a.tmps.getD (dl.getD i 0) undef)) → Q .normal a w) : (Code.region id ops true).wp P Q a0 w0 := by
 have hat : ∀ (i : Nat) (o : Oper), ops[i]? = some o → (i ≠ s → o.dst = some (dl.getD i 0) ∧ dl.getD i 0 < a0.tmps.size) ∧ o.guard = none ∧ ∀ e ∈ o.after, Region.binds .any e = true → e.on < i := fun i o ho => by
  have := opsC_at hB i o (by simpa using ho)
  rwa [Nat.zero_add] at this
 have hlt : ∀ (i : Nat) (o : Oper), ops[i]? = some o → i < n := fun i o ho => by
  have := (Array.getElem?_eq_some_iff.1 ho).1
  omega
 refine wp_region_invB hm (fun i o ho => (hat i o ho).2.2) (fun d a w => (∀ (i : Nat) (o : Oper), ops[i]? = some o → d i = true → ∀ e ∈ o.after, Region.binds .any e = true → d e.on = true) ∧ Same a0 n (fun i => dl.getD i 0) a ∧ ((d s = false ∧ Keeps (fun _ => False) X w ∧ ∀ i, i < n → i ≠ s → d i = true → F i (a.tmps.getD (dl.getD i 0) undef) w) ∨ (d s = true ∧ G (a.tmps.getD (dl.getD bx 0) undef) w ∧ ∀ i, i < n → i ≠ s → d i = true → F2 i (a.tmps.getD (dl.getD i 0) undef)))) ?_ ?_ ?_
 ·exact ⟨(fun i o _ h => by cases h), ⟨rfl, rfl, fun _ _ => rfl⟩, Or.inl ⟨rfl, hX.drew, (fun i _ _ h => by cases h)⟩⟩
 ·rintro d a w i o ⟨hcl, hsm, hI⟩ hd ho hall
  have hcl' : ∀ (j : Nat) (o' : Oper), ops[j]? = some o' → mark d i j = true → ∀ e ∈ o'.after, Region.binds .any e = true → mark d i e.on = true := fun j o' ho' hj e he' hb => by
   unfold mark at hj ⊢
   by_cases hei : e.on = i
   ·rw [if_pos hei]
   ·rw [if_neg hei]
    by_cases hji : j = i
    ·subst hji
     rw [ho] at ho'
     obtain rfl := Option.some.inj ho'
     exact hall e he' hb
    ·rw [if_neg hji] at hj
     exact hcl j o' ho' hj e he' hb
  have hin := hlt i o ho
  obtain ⟨q0, q2, q4⟩ := hat i o ho
  refine wpOp_step ho (fun K' hK => ?_)
  have hw : Region.wanted o (yielded ops a.tmps) = true := by simp [Region.wanted, q2]
  rw [if_pos hw]
  have hcd : (∀ e ∈ os.after, Region.binds .any e = true → d e.on = true) → ∀ j ∈ cv, d j = true := fun hwt j hj => by
   refine reachL_done hcl s (waitsL os) (fun k hk => ?_) j (by simpa using List.all_eq_true.1 hcv j hj)
   obtain ⟨e, he', hb, rfl⟩ := waitsL_mem hk
   exact hwt e he' hb
  by_cases his : i = s
  ·subst his
   rw [hos] at ho
   obtain rfl := Option.some.inj ho
   rcases hI with ⟨hds, h2, h3⟩ | ⟨hds, _⟩
   ·refine he a w hsm h2 (fun j hj => h3 j (hcn j hj) (fun e => hcs (e ▸ hj)) (hcd hall j hj)) K' fun w' hg => hK _ _ ⟨hcl', hsm, Or.inr ⟨by unfold mark; rw [if_pos rfl], hg, fun j hj hji hmk => ?_⟩⟩
    unfold mark at hmk
    rw [if_neg hji] at hmk
    exact hF2 _ _ _ (h3 j hj hji hmk)
   ·rw [hd] at hds
    cases hds
  ·obtain ⟨q1, q3⟩ := q0 his
   have hms : mark d i s = d s := by unfold mark; rw [if_neg (fun e => his e.symm)]
   rcases hI with ⟨hds, h2, h3⟩ | ⟨hds, hg, h3⟩
   ·have hne : ∀ e ∈ o.after, Region.binds .any e = true → e.on ≠ s := fun e he' hb hes => by
     have := hall e he' hb
     rw [hes, hds] at this
     cases this
    refine hs i o a w hin his ho hsm h2 (fun e he' hb hes => h3 e.on (Nat.lt_trans (q4 e he' hb) hin) hes (hall e he' hb)) hne K' fun v w' hv hk => hK _ _ ⟨hcl', ?_, Or.inl ⟨hms.trans hds, h2.trans hk, fun j hj hjs hmk => ?_⟩⟩
    ·rw [q1]
     exact hsm.put hin v
    ·by_cases hij : j = i
     ·subst hij
      rw [q1, put_get a _ v (by rw [hsm.size]; exact q3)]
      exact hv
     ·rw [q1, put_get_ne a v (fun e => hij (hinj j hj i hin hjs his e.symm))]
      refine hF _ _ _ _ (h3 j hj hjs ?_) hk
      unfold mark at hmk
      rwa [if_neg hij] at hmk
   ·have hni : i ∉ cv := fun hic => by
     have := hcd (hcl s os hos hds) i hic
     rw [hd] at this
     cases this
    refine hs2 i o a w hin his hni ho (fun e he' hb hes => h3 e.on (Nat.lt_trans (q4 e he' hb) hin) hes (hall e he' hb)) K' fun v hv => hK _ _ ⟨hcl', ?_, Or.inr ⟨hms.trans hds, ?_, fun j hj hjs hmk => ?_⟩⟩
    ·rw [q1]
     exact hsm.put hin v
    ·rw [q1, put_get_ne a v (fun e => hni (by rw [← hinj bx hbn i hin hbs his e.symm]; exact hbx))]
     exact hg
    ·by_cases hij : j = i
     ·subst hij
      rw [q1, put_get a _ v (by rw [hsm.size]; exact q3)]
      exact hv
     ·rw [q1, put_get_ne a v (fun e => hij (hinj j hj i hin hjs his e.symm))]
      refine h3 j hj hjs ?_
      unfold mark at hmk
      rwa [if_neg hij] at hmk
 ·rintro d a w ⟨_, hsm, hI⟩ hd
  rcases hI with ⟨hds, _⟩ | ⟨_, hg, h3⟩
  ·have := hd s (by omega)
   rw [hds] at this
   cases this
  ·exact hend a w hsm hg (fun i hi his => h3 i hi his (hd i (by omega)))
end
end Go.Proofs.YtiinohibmcefkaaGreatDoor
namespace Go.Proofs.YtiinohibmcefkaaGreatDoor
open Go.RowKit Go.Maps
set_option maxRecDepth 100000
def isT (w : World) (v : Value) (R : (Bool × List ValA) × Int) : Prop := ∃ uo uc, v = .tuple #[.agg #[.bool R.1.1, .slice uo R.1.2.length uc], .int .i64 R.2] ∧ ValsAt w (.slice uo R.1.2.length uc) R.1.2
theorem isT.keepF {w w' : World} {v : Value} {R : (Bool × List ValA) × Int} (h : isT w v R) (hk : Keeps (fun _ => False) w w') : isT w' v R := by
 obtain ⟨uo, uc, e, hv⟩ := h
 exact ⟨uo, uc, e, hv.keepF hk⟩
def isRB (X : World) (v : Value) (w : World) (r : Bool × List ValA) : Prop := ∃ g uo uc, v = .pointer (some ⟨g, 0, none⟩) ∧ X.heap.size ≤ g ∧ w.heap[g]? = some (.cells #[.bool r.1, .slice uo r.2.length uc] 31 (0, 0)) ∧ ValsAt w (.slice uo r.2.length uc) r.2 ∧ Keeps (fun _ => False) X w
section
variable {Q : Exit → Act → World → Prop} {K : Act → World → Prop} {o : Oper} {a : Act} {w : World}
theorem step_c12 {t u q : Nat} {v v2 v3 : Value} {R : (Bool × List ValA) × Int} (ho : o.op = .call { callee := .value (.func 12), args := #[.tmp t, .tmp u, .tmp q], argTypes := #[24, 28, 31] }) (ht : a.tmps.getD t undef = v) (hu : a.tmps.getD u undef = v2) (hq : a.tmps.getD q undef = v3) (hc : Calls Tryz.prog 12 #[v, v2, v3] w (RowPost w R))
  (hk : ∀ v' w', isT w' v' R → Keeps (fun _ => False) w w' → K (a.put o.dst v') w') : Oper.wp Tryz.prog o a w K Q := by
 have e1 := slot_of ht
 have e2 := slot_of hu
 have e3 := slot_of hq
 unfold Oper.wp
 simp [execOp, ho, e1, e2, e3, go_sem]
 refine hc.mono ?_
 rintro e w' ⟨uo, uc, rfl, h1, h2⟩
 exact hk _ _ ⟨uo, uc, rfl, rowAt_own h1⟩ h2
theorem step_moveT {t : Nat} {P : Value → Prop} (ho : o.op = .move (.tmp t)) (ht : P (a.tmps.getD t undef)) (hk : ∀ v', P v' → K (a.put o.dst v') w) : Oper.wp Tryz.prog o a w K Q :=
 step_move ho rfl (hk _ ht)
theorem step_ext0R {t : Nat} {R : (Bool × List ValA) × Int} (ho : o.op = .extract (.tmp t) 0) (ht : isT w (a.tmps.getD t undef) R) (hk : ∀ v', isR w v' R.1 → K (a.put o.dst v') w) : Oper.wp Tryz.prog o a w K Q := by
 obtain ⟨uo, uc, e, hv⟩ := ht
 exact step_ext0 ho e (hk _ ⟨uo, uc, rfl, hv⟩)
theorem step_ext1T {t : Nat} {n : Value} (ho : o.op = .extract (.tmp t) 1) (ht : ∃ x, a.tmps.getD t undef = .tuple #[x, n]) (hk : K (a.put o.dst n) w) : Oper.wp Tryz.prog o a w K Q := by
 obtain ⟨x, e⟩ := ht
 exact step_ext1 ho e hk
theorem isT.ext {R : (Bool × List ValA) × Int} {v : Value} (h : isT w v R) : ∃ x, v = .tuple #[x, .int .i64 R.2] := by
 obtain ⟨uo, uc, e, _⟩ := h
 exact ⟨_, e⟩
theorem step_load61 {t b off : Nat} {v : Value} (ho : o.op = .load 61 (.tmp t)) (ht : a.tmps.getD t undef = .pointer (some ⟨b, off, none⟩)) (hc : w.cell? ⟨b, off, none⟩ = some v) (hk : K (a.put o.dst v) w) : Oper.wp Tryz.prog o a w K Q := by
 have he := slot_of ht
 unfold Oper.wp
 simp [execOp, ho, he, go_sem, hc]
 exact hk
theorem step_indexP0 {t kb ko n cap : Nat} (ho : o.op = .indexAddr 61 (.tmp t) (.const (.int .i64 0))) (ht : a.tmps.getD t undef = .slice (some ⟨kb, ko, none⟩) n cap) (hj : 0 < n) (hk : K (a.put o.dst (.pointer (some ⟨kb, ko, none⟩))) w) : Oper.wp Tryz.prog o a w K Q := by
 have he := slot_of ht
 unfold Oper.wp
 simp [execOp, ho, he, go_sem, hj]
 exact hk
theorem step_storeR {X : World} {t s : Nat} {r : Bool × List ValA} (ho : o.op = .store 31 (.tmp t) (.tmp s)) (hd : o.dst = none) (hb : isB31 X.heap.size w (a.tmps.getD t undef)) (hv : isR w (a.tmps.getD s undef) r) (hk0 : Keeps (fun _ => False) X w)
  (hk : ∀ w', isRB X (a.tmps.getD t undef) w' r → K a w') : Oper.wp Tryz.prog o a w K Q := by
 obtain ⟨g, e, hN, hgb⟩ := hb
 obtain ⟨no, nc, v4, hnv⟩ := hv
 refine step_store31 ho hd e v4 hgb (by simp [Value.oneCell']) ?_
 intro V2 hb2 hk2
 refine hk V2 ⟨g, no, nc, e, hN, hb2, vals_off hnv hgb (off2 (by intro n; simp)) hk2, hk0.narrow hk2 (fun q e => by omega)⟩
end
theorem slE_nil (Z : Zone) (w : World) (up : Nat) : SlE Z w up (.slice none 0 0) .nil := ⟨none, 0, rfl, Nat.le_refl _, fun h => absurd rfl h⟩
theorem ps_one {Z : Zone} {w : World} {up : Nat} {a : Value} {p : SL} (ha : SlS Z w up a p) : PsAt Z (w.alloc (.cells #[a] 28)) up (.slice (some ⟨w.heap.size, 0, none⟩) 1 1) [p] := by
 obtain ⟨HB, hxb, hxc⟩ := boxed w #[a] 28
 refine ⟨_, _, rfl, fun _ => ⟨w.heap.size, 0, rfl, hxb, fun i m hm => ?_⟩⟩
 rcases i with _ | i
 ·simp at hm
  subst hm
  exact ⟨_, hxc 0 _ rfl, ha.keepF (uh HB)⟩
 ·simp at hm
end Go.Proofs.YtiinohibmcefkaaGreatDoor
namespace Go.Proofs.YtiinohibmcefkaaGreatDoor
open Go.ChangeShapes Go.WideShapes Go.ChangeAt Go.RowKit Go.Deep
section
variable {H : Type} {enc : TypeId × Value → H} {W : World}
theorem stmts_inI (F : Nat) : ∀ (fuel : Nat) (c : Value) (x : DataW H × List MemPlace), fuel < F → DataW.trod enc Tryz.prog W 0 (fun _ => true) true fuel 28 [c] = some x → ∃ l : SL, intS l ∧ ∀ up, SlS (argZ W.heap.size) W up c l := by
 induction F with
 | zero => intro fuel c x h; omega
 | succ F ih =>
  intro fuel c x hF h
  rcases slice_read Tryz.underlying28 Tryz.cells39 (by omega) h with rfl | ⟨b, off, len, cap, n, spot, rfl, hl, hn, hel⟩
  ·exact ⟨.nil, trivial, fun up => ⟨none, 0, rfl, Nat.le_refl _, fun h => absurd rfl h⟩⟩
  ·have key : ∀ k i, i + k = len → ∃ l : SL, l.len = k ∧ intS l ∧ StIn (argZ W.heap.size) W l b (off + i * 5) := by
    intro k
    induction k with
    | zero => exact fun i _ => ⟨.nil, rfl, trivial, trivial⟩
    | succ k ihk =>
     intro i hi
     obtain ⟨r, hr1, hri, hr2⟩ := ihk (i + 1) (by omega)
     obtain ⟨_, hb, cs, y, hc, ht, _⟩ := hel i (by omega)
     obtain ⟨op, f, xv, tv, ev, m, z1, z2, z3, hm, rfl, hk1, hk2, hk3⟩ := stmt_read ht
     obtain ⟨ex, hexi, hex⟩ := exprs_inI (m + 1) m xv z1 (by omega) hk1
     obtain ⟨th, hthi, hth⟩ := ih m tv z2 (by omega) hk2
     obtain ⟨el, heli, hel'⟩ := ih m ev z3 (by omega) hk3
     obtain ⟨ao, kc, rfl, hkc, hkx⟩ := hth b
     obtain ⟨ao2, kc2, rfl, hkc2, hkx2⟩ := hel' b
     refine ⟨.cons op f ex th el r, by simp [SL.len, hr1], ⟨hexi, hthi, heli, hri⟩, hb, hb, hc 0 _ rfl, hc 1 _ rfl, ⟨xv, hc 2 _ rfl, hex b⟩, ⟨ao, kc, hc 3 _ rfl, hkc, hkx⟩, ⟨ao2, kc2, hc 4 _ rfl, hkc2, hkx2⟩, ?_⟩
     rw [show off + i * 5 + 5 = off + (i + 1) * 5 by omega]
     exact hr2
   obtain ⟨l, hl1, hli, hl2⟩ := key len 0 (by omega)
   subst hl1
   refine ⟨l, hli, fun up => ⟨_, cap, rfl, hl, fun h0 => ?_⟩⟩
   obtain ⟨rfl, _⟩ := hel 0 (by omega)
   exact ⟨b, off, rfl, trivial, by simpa using hl2⟩
end
end Go.Proofs.YtiinohibmcefkaaGreatDoor
namespace Go.Proofs.YtiinohibmcefkaaGreatDoor
open Go.ChangeShapes Go.WideShapes Go.ChangeAt Go.RowKit Go.Deep
theorem bulk_one {H : Type} (d : DataW H) : 1 ≤ Rows.uptoBulk d := by
 cases d with
 | lit l => cases l <;> simp [Rows.uptoBulk]
 | nil => simp [Rows.uptoBulk]
 | ptr d => simp [Rows.uptoBulk]
 | slice elems spare => simp [Rows.uptoBulk]
 | agg parts => simp [Rows.uptoBulk]
 | iface t d => simp [Rows.uptoBulk]
 | map entries => simp [Rows.uptoBulk]
 | held h => simp [Rows.uptoBulk]
theorem bulk_len {H : Type} : ∀ l : List (DataW H), l.length ≤ Rows.uptoBulkAll l
 | [] => by simp
 | d :: r => by
  have h1 := bulk_one d
  have h2 := bulk_len r
  simp only [Rows.uptoBulkAll, List.length_cons]
  omega
section
variable {H : Type} {enc : TypeId × Value → H} {W : World} {fuel : Nat}
theorem bulk_row {t e : TypeId} (ht : Tryz.prog.underlying t = some (.slice e)) {c : Value} {x : DataW H × List MemPlace} (h : DataW.trod enc Tryz.prog W 0 (fun _ => true) true fuel t [c] = some x) {M : Nat} (hb : Rows.uptoBulk x.1 ≤ M) {n : Nat} {xs : List Value} (hr : RowAt W c n xs) : n ≤ M := by
 obtain ⟨ao, cp, hform⟩ := hr.form
 rcases DataW.trod_slice ht h with ⟨hcs, _⟩ | ⟨a, len, cap, elems, rest, n', hn, hcs, hxx, hle, hlc, _, hel, _, _, _⟩
 ·simp at hcs
  rw [hcs] at hform
  simp at hform
  omega
 ·rw [hxx] at hb
  simp only [Rows.uptoBulk] at hb
  have h1 := bulk_len (elems.map (·.1))
  simp only [List.length_map] at h1
  simp at hcs
  rw [hcs] at hform
  simp at hform
  omega
end
section
variable {W : World} {H : Type} {enc : TypeId × Value → H}
theorem schema_bulk {fuel : Nat} {sv : Value} {x : DataW H × List MemPlace} (h : DataW.trod enc Tryz.prog W 0 (fun _ => true) true fuel 24 [sv] = some x) {M : Nat} (hb : Rows.uptoBulk x.1 ≤ M) {S : List FieldA} (hS : FldsAt W sv S) : S.length ≤ M := by
 obtain ⟨xs, m, hm, hx, hl, hlen, hf⟩ := DataW.trod_struct Tryz.underlying24 h
 match xs, hlen with
 | [y0], _ =>
  have h0 : DataW.trod enc Tryz.prog W 0 (fun _ => true) true m 22 (([sv].drop 0).take (Tryz.prog.cellsOf 22)) = some y0 := hf 0 _ rfl
  rw [show Tryz.prog.cellsOf 22 = 1 by kernel_rfl] at h0
  simp only [List.drop_zero, List.take_succ_cons, List.take_zero] at h0
  refine bulk_row Tryz.underlying22 h0 ?_ hS
  rw [hx] at hb
  simp only [Rows.uptoBulk, Rows.uptoBulkAll, List.map_cons, List.map_nil] at hb
  omega
theorem row_bulk {fuel : Nat} {c0 c1 : Value} {x : DataW H × List MemPlace} (h : DataW.trod enc Tryz.prog W 0 (fun _ => true) true fuel 31 [c0, c1] = some x) {M : Nat} (hb : Rows.uptoBulk x.1 ≤ M) {l : List ValA} (hr : ValsAt W c1 l) : l.length ≤ M := by
 obtain ⟨xs, m, hm, hx, hl, hlen, hf⟩ := DataW.trod_struct Tryz.underlying31 h
 match xs, hlen with
 | [y0, y1], _ =>
  have h1 : DataW.trod enc Tryz.prog W 0 (fun _ => true) true m 29 (([c0, c1].drop 1).take (Tryz.prog.cellsOf 29)) = some y1 := hf 1 _ rfl
  rw [e29] at h1
  simp only [List.take_succ_cons, List.take_zero, List.drop_succ_cons, List.drop_zero] at h1
  refine bulk_row Tryz.underlying29 h1 ?_ hr
  rw [hx] at hb
  simp only [Rows.uptoBulk, Rows.uptoBulkAll, List.map_cons, List.map_nil] at hb
  omega
end
end Go.Proofs.YtiinohibmcefkaaGreatDoor
namespace Go.Proofs.YtiinohibmcefkaaGreatDoor
open Go.ChangeShapes Go.WideShapes Go.ChangeAt Go.RowKit Go.Deep
section
variable {H : Type} {enc : TypeId × Value → H} {W : World}
theorem progs_in {fuel : Nat} {c : Value} {x : DataW H × List MemPlace} (h : DataW.trod enc Tryz.prog W 0 (fun _ => true) true fuel 61 [c] = some x) : ∃ ls : List SL, (∀ m ∈ ls, intS m) ∧ ∀ up, PsAt (argZ W.heap.size) W up c ls := by
 rcases slice_read Tryz.underlying61 (sz := 1) (by kernel_rfl) (by omega) h with rfl | ⟨b, off, len, cap, n, spot, rfl, hl, hn, hel⟩
 ·exact ⟨[], fun m hm => by simp at hm, fun up => ⟨none, 0, rfl, fun h => by simp at h⟩⟩
 ·have key : ∀ i, i < len → ∃ m : SL, intS m ∧ ∃ pv, W.cell? ⟨b, off + i, none⟩ = some pv ∧ ∀ up, SlS (argZ W.heap.size) W up pv m := fun i hi => by
   obtain ⟨_, hb, cs, y, hc, ht, hcl⟩ := hel i hi
   match cs, hcl with
   | [c0], _ =>
    obtain ⟨m, hm, hS⟩ := stmts_inI (n + 1) n c0 y (by omega) ht
    exact ⟨m, hm, c0, by have := hc 0 _ rfl; simpa using this, hS⟩
  have build : ∀ k, k ≤ len → ∃ ls : List SL, ls.length = k ∧ (∀ m ∈ ls, intS m) ∧ ∀ (i : Nat) l, ls[i]? = some l → ∃ pv, W.cell? ⟨b, off + i, none⟩ = some pv ∧ ∀ up, SlS (argZ W.heap.size) W up pv l := by
   intro k
   induction k with
   | zero => exact fun _ => ⟨[], rfl, fun m hm => by simp at hm, fun i l hl => by simp at hl⟩
   | succ k ih =>
    intro hk
    obtain ⟨ls, h1, h2, h3⟩ := ih (by omega)
    obtain ⟨m, hm, hp⟩ := key k (by omega)
    refine ⟨ls ++ [m], by simp [h1], fun q hq => ?_, fun i l hl => ?_⟩
    ·rcases List.mem_append.1 hq with h | h
     ·exact h2 q h
     ·simp at h
      subst h
      exact hm
    ·by_cases hi : i < ls.length
     ·rw [List.getElem?_append_left hi] at hl
      exact h3 i l hl
     ·rw [List.getElem?_append_right (by omega)] at hl
      have hj : i - ls.length = 0 := by
       have := (List.getElem?_eq_some_iff.1 hl).1
       simp at this
       omega
      rw [hj] at hl
      simp at hl
      subst hl
      have : i = k := by omega
      subst this
      exact hp
  obtain ⟨ls, h1, h2, h3⟩ := build len (Nat.le_refl _)
  subst h1
  refine ⟨ls, h2, fun up => ⟨_, cap, rfl, fun h0 => ?_⟩⟩
  obtain ⟨rfl, hb, _⟩ := hel 0 h0
  exact ⟨b, off, rfl, hb, fun i l hl => (h3 i l hl).imp fun pv hp => ⟨hp.1, hp.2 up⟩⟩
theorem bulk_at {fuel : Nat} {t e : TypeId} (ht : Tryz.prog.underlying t = some (.slice e)) {ao : Option Addr} {n cap : Nat} {x : DataW H × List MemPlace} (h : DataW.trod enc Tryz.prog W 0 (fun _ => true) true fuel t [.slice ao n cap] = some x) {M : Nat} (hb : Rows.uptoBulk x.1 ≤ M) : n ≤ M := by
 rcases DataW.trod_slice ht h with ⟨hcs, _⟩ | ⟨a, len, cap, elems, rest, n', hn, hcs, hxx, hle, hlc, _, hel, _, _, _⟩
 ·simp at hcs
  omega
 ·rw [hxx] at hb
  simp only [Rows.uptoBulk] at hb
  have h1 := bulk_len (elems.map (·.1))
  simp only [List.length_map] at h1
  simp at hcs
  omega
end
end Go.Proofs.YtiinohibmcefkaaGreatDoor
