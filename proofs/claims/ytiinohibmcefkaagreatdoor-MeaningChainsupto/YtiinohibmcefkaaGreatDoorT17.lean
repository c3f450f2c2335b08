import Derived.Test.YtiinohibmcefkaaGreatDoorJzaw
import Derived.Test.YtiinohibmcefkaaGreatDoorJzaa
import Derived.Deep.DeepCutAuto
namespace Go.Proofs.YtiinohibmcefkaaGreatDoor
open Go.RowKit Go.Maps
set_option maxRecDepth 100000
set_option maxHeartbeats 8000000
section
variable {Q : Exit → Act → World → Prop} {K : Act → World → Prop} {o : Oper} {a : Act} {w : World}
theorem step_indexP {t u kb ko n cap j : Nat} (ho : o.op = .indexAddr 61 (.tmp t) (.tmp u)) (ht : a.tmps.getD t undef = .slice (some ⟨kb, ko, none⟩) n cap) (hu : a.tmps.getD u undef = .int .i64 (j : Int)) (hj : j < n) (hk : K (a.put o.dst (.pointer (some ⟨kb, ko + j, none⟩))) w) : Oper.wp Tryz.prog o a w K Q := by
 have he := slot_of ht
 have he2 := slot_of hu
 have h1 : (j : Int) < (n : Int) := by omega
 have h0 : (0 : Int) ≤ (j : Int) := by omega
 unfold Oper.wp
 simp [execOp, ho, he, he2, go_sem, h1, h0]
 exact hk
end
theorem foldS_in {S : List FieldA} : ∀ (ls : List SL) (r : Bool × List ValA), (∀ l ∈ ls, (checkP S l).1 = 0) → (∀ l ∈ ls, intS l) → Rw S r.1 r.2 → (∀ v ∈ r.2, I64 v.n) → ∀ v ∈ (ls.foldl (fun r l => runS S l r) r).2, I64 v.n
 | [], _, _, _, _, hv => hv
 | l :: ls, r, h, hi, hr, hv => by
  obtain ⟨_, hw, _⟩ := check_ok (h l (by simp))
  exact foldS_in ls _ (fun m hm => h m (by simp [hm])) (fun m hm => hi m (by simp [hm])) (runS_rw l r hw hr) (run_in S l r hw (hi l (by simp)) hr hv)
theorem rchain_v (Z : Zone) (S : List FieldA) (ls : List SL) (hls : ls.length ≤ 1048576) (hsz : ∀ l ∈ ls, l.size ≤ 4294967294) (hi : ∀ l ∈ ls, intS l) (h : Bool) (vals : List ValA) (hv : ∀ v ∈ vals, I64 v.n) (hvl : vals.length ≤ 4398046511104) (sv u pv : Value) (w : World) (up : Nat) (hf : FldsAt w sv S) (hu : ValsAt w u vals) (hp : PsAt Z w up pv ls) :
  Calls Tryz.prog 30 #[.agg #[sv], .agg #[.bool h, u], pv] w (RunPost w (chainP S ls h vals)) := by
 obtain ⟨so, sc, rfl⟩ := RowAt.form hf
 obtain ⟨uo, uc, rfl⟩ := RowAt.form hu
 obtain ⟨po, pc, rfl, hpp⟩ := hp
 obtain ⟨W, hW, hkW, g0, g1, g2⟩ := boxA3 w #[(.slice so S.length sc)] #[.bool h, (.slice uo vals.length uc)] #[.bool false, .slice none 0 0] 24 31 31
 have HKW := hide hkW
 have G0 := hide g0
 have G1 := hide g1
 have B2 := hide g2
 have HPP := hide hpp
 have HSZ := hide hsz
 have HI := hide hi
 have HV64 := hide hv
 have HCS := hide (checkSchema_any S (.slice so S.length sc) W (hf.keepF hkW))
 have HCK := hide (fun (W' : World) (hk : Keeps (fun _ => False) w W') (l : SL) (hl : l.size ≤ 4294967294) (qv : Value) (hq : SlS Z W' up qv l) => rcheck9_v Z S l hl (.slice so S.length sc) qv W' up (hf.keepF hk) hq)
 have HCR := hide (fun (W' : World) (hk : Keeps (fun _ => False) w W') => checkRowR_v S (.slice so S.length sc) (.slice uo vals.length uc) h vals W' (hf.keepF hk) (hu.keepF hk))
 have HCO := hide (fun (W' : World) (hk : Keeps (fun _ => False) w W') => copiedR_v W' h (.slice uo vals.length uc) vals (hu.keepF hk) hvl)
 have HAF0 := hide (fun (l : SL) (c : (checkP S l).1 = 0) (hz : l.size ≤ 4294967294) (hin : intS l) (r : Bool × List ValA) (q : RowFit S r.1 r.2) (q2 : ∀ v ∈ r.2, I64 v.n) (W' : World) (hk : Keeps (fun _ => False) w W') (qv : Value) (hq : SlS Z W' up qv l) (uv : Value) (hu' : ValsAt W' uv r.2) => after_of S (check_ok c).1 so sc l.size (does_at S (check_ok c).1 so sc l.size hz) l (Nat.le_refl _) hz (check_ok c).2.1 (check_ok c).2.2 hin r.1 r.2 q q2 Z up qv uv W' (hf.keepF hk) hu' hq)
 have HNH : Hid (∀ (W' : World), ValsAt W' (.slice none 0 0) []) := fun W' => rowAt_own (World.ownsRow_nil W' 0 41 3)
 have p0 := cl1 g0
 clear g0 g1 g2 hkW hf hu hpp hsz hi hv
 by_cases hS : schemaB S = true
 case neg =>
  have hS' : schemaB S = false := by simpa using hS
  have hR : chainP S ls h vals = ((false, []), 60) := by unfold chainP; rw [errS_bad hS']; simp
  rw [hR]
  rw [errS_bad hS'] at HCS
  clear HCK HCR HCO HAF0 hR hS hS'
  go_enter Tryz.func30, Tryz.ntmps30
  go_wp2_with fail
  refine (uh HCS).mono ?_
  rintro e w1 ⟨rfl, hk1⟩
  have hb := blk_keep (uh B2) hk1
  have z0 := fB hb 0
  have z1 := fB hb 1
  obtain ⟨y0, y1⟩ := cl2 hb
  obtain ⟨s0, s1⟩ := set2c hb (.bool false) (.slice none 0 0)
  have HKE := hide (((uh HKW).trans hk1).fresh (by omega) (keeps_set2 w1 (w.heap.size + 1 + 1) (.bool false) (.slice none 0 0)))
  clear hb
  go_wp2_with fail
  refine bodyPost_ret (v := .tuple #[.agg #[.bool false, .slice none 0 0], .int .i64 60]) (by simp [results, go_sem, s0, s1]) rfl ?_
  exact ⟨none, 0, rfl, uh HNH _, uh HKE⟩
 case pos =>
  rw [errS_good hS] at HCS
  have HSS := hide hS
  clear hS
  go_enter Tryz.func30, Tryz.ntmps30
  go_wp2_with fail
  refine (uh HCS).mono ?_
  rintro e w1 ⟨rfl, hk1⟩
  have HK1 := hide hk1
  clear hk1 p0
  go_wp2_with fail
  go_loopw [9] (fun i wr => ∃ (k : Nat), k ≤ ls.length ∧ i = .int .i64 k ∧ Hid (∀ (j : Nat) m, j < k → ls[j]? = some m → (checkP S m).1 = 0) ∧ Keeps (fun _ => False) W wr) (fun i _ => ls.length - (intOf i).toNat)
  case atStart => exact ⟨0, Nat.zero_le _, rfl, fun j m hj => by omega, uh HK1⟩
  case round =>
   obtain ⟨k, hk, rfl, HB, hkp⟩ := hrel
   have HK := hide hkp
   clear hkp HK1
   by_cases hlt : k < ls.length
   ·obtain ⟨l, hl⟩ : ∃ l, ls[k]? = some l := ⟨_, List.getElem?_eq_getElem hlt⟩
    obtain ⟨b, off, rfl, hb, hc⟩ := uh HPP (by omega)
    obtain ⟨qv, hq1, hq2⟩ := hc k l hl
    obtain ⟨qo, qc, rfl, _⟩ := hq2.head
    have HKC : Hid (∀ n : KW wr, n.wd.cell? ⟨b, off + k, none⟩ = some (.slice qo l.len qc) ∧ n.wd.cell? ⟨w.heap.size, 0, none⟩ = some (.slice so S.length sc)) := fun n => ⟨((((uh HKW).trans (uh HK)).trans n.kept).cell hb id).trans hq1, cl1 (blk_keep (uh G0) ((uh HK).trans n.kept))⟩
    obtain ⟨⟨E, A⟩, hEA⟩ : ∃ p, p = checkP S l := ⟨_, rfl⟩
    have HEA := hide hEA
    have Q62 : Hid (∀ n : KW wr, Calls Tryz.prog 62 #[.agg #[(.slice so S.length sc)], .slice qo l.len qc] n.wd fun e w' => e = .returned (.tuple #[.int .i64 E, .int .i64 A]) ∧ ∃ m2 : KW wr, w' = m2.wd) := fun n => by
     have hKn := ((uh HKW).trans (uh HK)).trans n.kept
     have := uh HCK n.wd hKn l (uh HSZ l (List.mem_of_getElem? hl)) _ (hq2.keepF hKn)
     rw [← uh HEA] at this
     exact kw_of n this
    have i1 : (k : Int) < (ls.length : Int) := by omega
    have i0 : (0 : Int) ≤ (k : Int) := by omega
    have HL := hide hl
    clear hl hq1 hq2 hc hEA
    go_upto_region 7 with fail
    have k8 := fun n => (uh HKC n).1
    have k9 := fun n => (uh HKC n).2
    skip
    refine region_kept (by kernel_rfl) (by kernel_rfl) ?_
    repeat (go_big_quiet_step (((go_at_call 62; exact uh Q62 _))))
    refine wpQuiet_nil ?_
    rintro _ ⟨n2, rfl⟩
    clear k8 k9
    have K2 := hide ((uh HK).trans n2.kept)
    generalize n2.wd = X2 at *
    by_cases hE : E = 0
    ·subst hE
     go_wp2_with fail
     go_roundw
     case rel =>
      refine ⟨k + 1, by omega, by go_num, fun j m hj hm => ?_, uh K2⟩
      by_cases hjk : j < k
      ·exact uh HB j m hjk hm
      ·obtain rfl : j = k := by omega
       have := uh HL
       rw [hm] at this
       simp at this
       subst this
       rw [← uh HEA]
     case measure => simp [intOf]; omega
    ·have n0 : (E != 0) = true := by simpa using hE
     have hR : chainP S ls h vals = ((false, []), E) := by
      have hfe := firstE_at (S := S) (uh HL) (fun i m hi hm => uh HB i m hi hm) (by rw [← uh HEA]; exact hE)
      unfold chainP
      rw [errS_good (uh HSS), hfe, ← uh HEA]
      simp [hE]
     have HR := hide hR
     clear hR hE
     have hb := blk_keep (uh B2) (uh K2)
     have z0 := fB hb 0
     have z1 := fB hb 1
     obtain ⟨y0, y1⟩ := cl2 hb
     obtain ⟨s0, s1⟩ := set2c hb (.bool false) (.slice none 0 0)
     have HKE := hide (((uh HKW).trans (uh K2)).fresh (by omega) (keeps_set2 X2 (w.heap.size + 1 + 1) (.bool false) (.slice none 0 0)))
     clear hb
     go_wp2_with fail
     refine bodyPost_ret (v := .tuple #[.agg #[.bool false, .slice none 0 0], .int .i64 E]) (by simp [results, go_sem, s0, s1]) rfl ?_
     rw [uh HR]
     exact ⟨none, 0, rfl, uh HNH _, uh HKE⟩
   ·obtain rfl : k = ls.length := by omega
    have i1 : ¬ (ls.length : Int) < (ls.length : Int) := by omega
    have HFE : Hid (firstE S ls = 0) := firstE_zero (fun i m hm => uh HB i m (get_lt hm) hm)
    have HC := hide (uh HCR wr ((uh HKW).trans (uh HK)))
    rw [errS_good (uh HSS), if_neg (by simp)] at HC
    have p0 := cl1 (blk_keep (uh G0) (uh HK))
    obtain ⟨r0, r1⟩ := cl2 (blk_keep (uh G1) (uh HK))
    by_cases hR : rowE S h vals = 0
    case neg =>
     have n0 : (rowE S h vals != 0) = true := by simpa using hR
     have hRR : chainP S ls h vals = ((false, []), rowE S h vals) := by
      unfold chainP
      rw [errS_good (uh HSS), uh HFE]
      simp [hR]
     have HR := hide hRR
     clear hRR hR
     generalize rowE S h vals = E at *
     go_wp2_with fail
     refine (uh HC).mono ?_
     rintro e w2 ⟨rfl, hk2⟩
     clear p0 r0 r1
     have hb := blk_keep (uh B2) ((uh HK).trans hk2)
     have z0 := fB hb 0
     have z1 := fB hb 1
     obtain ⟨y0, y1⟩ := cl2 hb
     obtain ⟨s0, s1⟩ := set2c hb (.bool false) (.slice none 0 0)
     have HKE := hide (((uh HKW).trans ((uh HK).trans hk2)).fresh (by omega) (keeps_set2 w2 (w.heap.size + 1 + 1) (.bool false) (.slice none 0 0)))
     clear hb
     go_wp2_with fail
     refine bodyPost_ret (v := .tuple #[.agg #[.bool false, .slice none 0 0], .int .i64 E]) (by simp [results, go_sem, s0, s1]) rfl ?_
     rw [uh HR]
     exact ⟨none, 0, rfl, uh HNH _, uh HKE⟩
    case pos =>
     have hRR : chainP S ls h vals = (ls.foldl (fun r l => runS S l r) (h, vals), 0) := by
      unfold chainP
      rw [errS_good (uh HSS), uh HFE]
      simp [hR]
     have HR := hide hRR
     have HRW := hide (rowE_rw hR)
     have HRF := hide (rowE_fit hR)
     rw [hR] at HC
     clear hRR hR
     go_wp2_with fail
     refine (uh HC).mono ?_
     rintro e w2 ⟨rfl, hk2⟩
     have HK2 := hide ((uh HK).trans hk2)
     have HC2 := hide (uh HCO w2 ((uh HKW).trans (uh HK2)))
     clear hk2 p0 r0 r1
     obtain ⟨r0, r1⟩ := cl2 (blk_keep (uh G1) (uh HK2))
     go_wp2_with fail
     refine (uh HC2).mono ?_
     rintro e w3 ⟨ro, rc, rfl, hown, hk3⟩
     have HK3 := hide ((uh HK2).trans hk3)
     have kA := kAlloc w3 (.cells #[.bool h, .slice ro vals.length rc] 31)
     have gB := heap_alloc_new w3 (.cells #[.bool h, .slice ro vals.length rc] 31)
     have HV4 := hide ((show ValsAt w3 _ _ from rowAt_own hown).keepF kA)
     have HK4 := hide ((uh HK3).trans kA)
     have HB4 := hide gB
     have HBX : Hid (W.heap.size ≤ w3.heap.size) := (uh HK3).size
     clear hk3 r0 r1 hown kA gB HC HC2
     skip
     go_wp2_with fail
     go_loopw [11] (fun i wr => ∃ (k : Nat) (ro : Option Addr) (rc : Nat), k ≤ ls.length ∧ i = .int .i64 k ∧ Hid (wr.heap[w3.heap.size]? = some (.cells #[.bool ((ls.take k).foldl (fun r l => runS S l r) (h, vals)).1, .slice ro ((ls.take k).foldl (fun r l => runS S l r) (h, vals)).2.length rc] 31 (0, 0))) ∧ Hid (ValsAt wr (.slice ro ((ls.take k).foldl (fun r l => runS S l r) (h, vals)).2.length rc) ((ls.take k).foldl (fun r l => runS S l r) (h, vals)).2) ∧ Keeps (fun _ => False) W wr) (fun i _ => ls.length - (intOf i).toNat)
     case atStart => exact ⟨0, ro, rc, Nat.zero_le _, rfl, HB4, HV4, uh HK4⟩
     case round =>
      obtain ⟨k, ro, rc, hk, rfl, HBk, HRV, hkp⟩ := hrel
      have HKk := hide hkp
      clear hkp
      by_cases hlt : k < ls.length
      ·obtain ⟨l, hl⟩ : ∃ l, ls[k]? = some l := ⟨_, List.getElem?_eq_getElem hlt⟩
       obtain ⟨b, off, rfl, hb, hc⟩ := uh HPP (by omega)
       obtain ⟨qv, hq1, hq2⟩ := hc k l hl
       obtain ⟨qo, qc, rfl, _⟩ := hq2.head
       have hck : ∀ m ∈ ls.take k, (checkP S m).1 = 0 := fun m hm => firstE_all (uh HFE) m (List.mem_of_mem_take hm)
       have hfit := foldS_fit (uh HSS) (ls.take k) (h, vals) hck (uh HRF)
       have hin := foldS_in (S := S) (ls.take k) (h, vals) hck (fun m hm => uh HI m (List.mem_of_mem_take hm)) (uh HRW) (uh HV64)
       have HL := hide (foldS_take (S := S) hl (h, vals))
       have hKw := (uh HKW).trans (uh HKk)
       have HQC := hide (fun (W' : World) (q : Keeps (fun _ => False) wr W') => ((hKw.trans q).cell hb id).trans hq1)
       have HS0 := hide (fun (W' : World) (q : Keeps (fun _ => False) wr W') => blk_keep (uh G0) ((uh HKk).trans q))
       have hlm : l ∈ ls := List.mem_of_getElem? hl
       have hcl := firstE_all (uh HFE) l hlm
       generalize hRR : (ls.take k).foldl (fun r l => runS S l r) (h, vals) = R at *
       clear hRR
       have HB0 := hide (fun (W' : World) (q : Keeps (fun _ => False) wr W') => blk_keep (uh HBk) q)
       have HAF := hide (fun (W' : World) (q : Keeps (fun _ => False) wr W') (uv : Value) (hu' : ValsAt W' uv R.2) => uh HAF0 l hcl (uh HSZ l hlm) (uh HI l hlm) R hfit hin W' (hKw.trans q) _ (hq2.keepF (hKw.trans q)) uv hu')
       have HKX := hide (Keeps.refl (fun _ => False) wr)
       have HLT : Hid (k < ls.length) := hlt
       have i1 : (k : Int) < (ls.length : Int) := by omega
       have i0 : (0 : Int) ≤ (k : Int) := by omega
       clear hl hq1 hq2 hc hKw hck hfit hin hcl hlm
       go_upto_region 17 with fail
       rename_i Q0 K0 hc0
       refine wp_region_last (X := wr) (by kernel_rfl) 7 rfl _ rfl rfl (by decide) (by kernel_rfl) [52, 53, 54, 55, 56, 57, 58] (by decide) rfl (by first | rfl | kernel_rfl | simp [opsB]) (uh HKX) (fun i v W1 => match i with | 0 => v = .agg #[(.slice so S.length sc)] | 1 => v = .slice (some ⟨b, off, none⟩) ls.length pc | 2 => v = .int .i64 (k : Int) | 3 => v = .pointer (some ⟨b, off + k, none⟩) | 4 => v = .slice qo l.len qc | 5 => isR W1 v R | 6 => isR W1 v (runS S l R) | _ => True) ?_ ?_ ?_
       ·intro i v w1 w2 hq hk
        rcases i with _ | _ | _ | _ | _ | _ | _ | i
        all_goals first | exact hq | exact isR.keepF hq hk
       ·intro i oo A W1 him ho hs hk hd K' hK
        rcases i with _ | _ | _ | _ | _ | _ | _ | i
        ·obtain rfl := Option.some.inj ho
         exact step_load24 rfl ((hs.at rfl 3 (by decide)).trans rfl) (uh HS0 W1 hk) (hK _ _ rfl (Keeps.refl _ _))
        ·obtain rfl := Option.some.inj ho
         exact step_move rfl ((hs.at rfl 2 (by decide)).trans rfl) (hK _ _ rfl (Keeps.refl _ _))
        ·obtain rfl := Option.some.inj ho
         exact step_move rfl ((hs.at rfl 11 (by decide)).trans rfl) (hK _ _ rfl (Keeps.refl _ _))
        ·obtain rfl := Option.some.inj ho
         exact step_indexP rfl (hd ⟨1, .data⟩ (by simp) rfl) (hd ⟨2, .data⟩ (by simp) rfl) (uh HLT) (hK _ _ rfl (Keeps.refl _ _))
        ·obtain rfl := Option.some.inj ho
         exact step_load28 rfl (hd ⟨3, .data⟩ (by simp) rfl) (uh HQC W1 hk) (hK _ _ rfl (Keeps.refl _ _))
        ·obtain rfl := Option.some.inj ho
         exact step_load31 rfl ((hs.at rfl 10 (by decide)).trans rfl) (uh HB0 W1 hk) (hK _ _ ⟨ro, rc, rfl, (uh HRV).keepF hk⟩ (Keeps.refl _ _))
        ·obtain rfl := Option.some.inj ho
         exact step_c63 rfl (hd ⟨0, .data⟩ (by simp) rfl) (hd ⟨4, .data⟩ (by simp) rfl) (hd ⟨5, .data⟩ (by simp) rfl) (uh HAF W1 hk) (fun v' w' q1 q2 => hK v' w' q1 q2)
        ·omega
       ·intro A V hs hk2 hall K' hK
        have v0 : A.tmps.getD 52 undef = .agg #[(.slice so S.length sc)] := hall 0 (by decide)
        have v1 : A.tmps.getD 53 undef = .slice (some ⟨b, off, none⟩) ls.length pc := hall 1 (by decide)
        have v2 : A.tmps.getD 54 undef = .int .i64 (k : Int) := hall 2 (by decide)
        have v3 : A.tmps.getD 55 undef = .pointer (some ⟨b, off + k, none⟩) := hall 3 (by decide)
        have v4 : A.tmps.getD 56 undef = .slice qo l.len qc := hall 4 (by decide)
        obtain ⟨mo, mc, v5, _⟩ : isR V (A.tmps.getD 57 undef) R := hall 5 (by decide)
        obtain ⟨no, nc, v6, hnv⟩ : isR V (A.tmps.getD 58 undef) (runS S l R) := hall 6 (by decide)
        have v10 : A.tmps.getD 10 undef = .pointer (some ⟨w3.heap.size, 0, none⟩) := (hs.at rfl 10 (by decide)).trans rfl
        refine step_store31 rfl rfl v10 v6 (uh HB0 V hk2) (by simp [Value.oneCell']) ?_
        intro V2 hb2 hk3
        refine hK A V2 (hc0 _ _ ?_)
        have hA := same_fold hs rfl
        simp only [List.foldl_cons, List.foldl_nil, v0, v1, v2, v3, v4, v5, v6] at hA
        simp only [Act.put, List.setIfInBounds_toArray, List.set_cons_zero, List.set_cons_succ] at hA
        have HV2 := hide (vals_off hnv (uh HB0 V hk2) (off2 (by intro n; simp)) hk3)
        have HK5 : Hid (Keeps (fun _ => False) W V2) := ((uh HKk).trans hk2).narrow hk3 (fun q e => by have := uh HBX; omega)
        have HB5 := hide hb2
        rw [hA]
        clear hs hk2 hall hK hA hb2 hk3 hnv v0 v1 v2 v3 v4 v5 v6 v10
        go_wp2_with fail
        go_roundw
        case rel =>
         refine ⟨k + 1, no, nc, by omega, by go_num, ?_, ?_, uh HK5⟩
         ·rw [uh HL]
          exact uh HB5
         ·rw [uh HL]
          exact uh HV2
        case measure => simp [intOf]; omega
      ·obtain rfl : k = ls.length := by omega
       have i1 : ¬ (ls.length : Int) < (ls.length : Int) := by omega
       rw [List.take_length] at HBk HRV
       generalize ls.foldl (fun r l => runS S l r) (h, vals) = R at *
       have hb := blk_keep (uh B2) (uh HKk)
       have z0 := fB hb 0
       have z1 := fB hb 1
       obtain ⟨y0, y1⟩ := cl2 hb
       obtain ⟨q0, q1⟩ := cl2 (uh HBk)
       obtain ⟨s0, s1⟩ := set2c hb (.bool R.1) (.slice ro R.2.length rc)
       have HKE := hide (((uh HKW).trans (uh HKk)).fresh (by omega) (keeps_set2 wr (w.heap.size + 1 + 1) (.bool R.1) (.slice ro R.2.length rc)))
       have HVE := hide (vals_off (uh HRV) hb (off2 (by intro n; simp)) (keeps_set2 wr (w.heap.size + 1 + 1) (.bool R.1) (.slice ro R.2.length rc)))
       clear hb
       go_wp2_with fail
       refine bodyPost_ret (v := .tuple #[.agg #[.bool R.1, .slice ro R.2.length rc], .int .i64 0]) (by simp [results, go_sem, s0, s1]) rfl ?_
       rw [uh HR]
       exact ⟨ro, rc, rfl, uh HVE, uh HKE⟩
end Go.Proofs.YtiinohibmcefkaaGreatDoor
