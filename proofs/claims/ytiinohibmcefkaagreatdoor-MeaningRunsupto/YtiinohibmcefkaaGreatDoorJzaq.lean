import Derived.Test.YtiinohibmcefkaaGreatDoorJzah
import Derived.Test.YtiinohibmcefkaaGreatDoorJzag
import Derived.Deep.AppendLies
import Derived.Deep.DeepCutAuto
import Derived.Test.YtiinohibmcefkaaGreatDoorJzac
import Derived.Test.YtiinohibmcefkaaGreatDoorJzaa
import Derived.Deep.DeepAppendRoom
import Derived.Test.YtiinohibmcefkaaGreatDoorJzaj
import Derived.Test.YtiinohibmcefkaaGreatDoorJzaf
import Derived.Test.YtiinohibmcefkaaGreatDoorJan
import Derived.Test.YtiinohibmcefkaaGreatDoorJzai
import Derived.Test.YtiinohibmcefkaaGreatDoorKm
import Derived.Test.YtiinohibmcefkaaGreatDoorJad
namespace Go.Proofs.YtiinohibmcefkaaGreatDoor
open Go.RowKit Go.Maps
set_option maxRecDepth 100000
set_option maxHeartbeats 8000000
theorem valsP_app (S : List FieldA) (h : Bool) (vals : List ValA) : ∀ l m : EL, valsP S h vals (l.app m) = valsP S h vals l ++ valsP S h vals m
 | .nil, _ => rfl
 | .cons op n s k r, m => by rw [EL.app, valsP_cons, valsP_cons, valsP_app S h vals r m]; rfl
theorem vcs_app (l m : List ValA) : vcs (l ++ m) = vcs l ++ vcs m := by simp [vcs]
def WorthAt (S : List FieldA) (h : Bool) (vals : List ValA) (sv u : Value) (N : Nat) : Prop := ∀ (kids : EL), kids.size < N → ∀ (op n : Int) (s : Txt) (Z : Zone) (up : Nat) (xv : Value) (w : World), rootB op n s kids.len = true → wellE kids = true → (kindP S op s kids).2 = 0 → FldsAt w sv S → ValsAt w u vals → SlE Z w up xv kids →
 Calls Tryz.prog 54 #[.agg #[sv], exV op n s xv, .agg #[.bool h, u]] w fun e w' => e = .returned (nodeV S op n s kids h vals).v ∧ Keeps (fun _ => False) w w'
theorem kinds_cons {S : List FieldA} {op n : Int} {s : Txt} {kids rest : EL} (h : (kindsP S (.cons op n s kids rest)).2 = 0) : (kindP S op s kids).2 = 0 ∧ (kindsP S rest).2 = 0 := by
 have := kinds_el (e := ⟨op, n, s, kids⟩) (r := rest) h
 exact ⟨this.1, this.2.1⟩
theorem rworthN_v (S : List FieldA) (hS : schemaB S = true) (h : Bool) (vals : List ValA) (hrow : rowE S h vals = 0) (so uo : Option Addr) (sc uc : Nat) (N : Nat) (ih : WorthAt S h vals (.slice so S.length sc) (.slice uo vals.length uc) N) (kids : EL) (hsz : kids.size < N + 1) (o : Nat) (h7 : 7 ≤ o) (h25 : o ≤ 25) (n : Int) (s : Txt) (Z : Zone) (up : Nat) (xv : Value) (w : World) (hb : rootB o n s kids.len = true) (hw : wellE kids = true) (hk0 : (kindP S o s kids).2 = 0) (hfl : FldsAt w (.slice so S.length sc) S) (hva : ValsAt w (.slice uo vals.length uc) vals) (hx : SlE Z w up xv kids) :
  Calls Tryz.prog 54 #[.agg #[(.slice so S.length sc)], exV o n s xv, .agg #[.bool h, (.slice uo vals.length uc)]] w fun e w' => e = .returned (opV o (valsP S h vals kids)).v ∧ Keeps (fun _ => False) w w' := by
 obtain ⟨hks, hkr⟩ := kind_rule hk0
 have hrule : (ruleP S o s (kindsP S kids).1).2 = 0 := by rw [← hkr]; exact hk0
 have hlen : (kids.len : Int) = kidsB o := by
  unfold rootB at hb
  simp only [Bool.and_eq_true, decide_eq_true_eq] at hb
  exact hb.2.1
 have hl3 : kids.len ≤ 3 := by
  have : kidsB (o : Int) ≤ 3 := by
   unfold kidsB
   repeat' split
   all_goals omega
  omega
 have hfit := vals_fit hS (rowE_fit hrow) kids hw hks
 have hshort := valsP_short (rowE_rw hrow) kids hw
 have HOF := hide (fun (W' : World) (kv : Value) (q : ValsAt W' kv (valsP S h vals kids)) => of_v S o s h7 h25 hfit ((by rw [hfit.len, valsP_len]; exact hlen)) hrule hshort kv W' q)
 obtain ⟨xo, xc, pb, poff, rfl, hxc, hpa, hpx⟩ := hx.open
 obtain ⟨i0, hi, hz0, hz1, hz2⟩ := info_parts Tryz.info41
 obtain ⟨W, hW, hkW, g0, g1, g2, g3⟩ := boxA4 w #[(.slice so S.length sc)] #[.int .i64 o, .int .i64 n, str s, .slice xo kids.len xc] #[.bool h, (.slice uo vals.length uc)] #[.int .i64 0, .int .i64 0, .string ⟨#[]⟩] 24 27 31 41
 have HKW := hide hkW
 have HG := hide g3
 obtain ⟨c0, c1, c2, c3⟩ := cl4 g1
 have H0 := hide (fun (W' : World) (hk : Keeps (fun _ => False) W W') => (hk.block _ (lt_of_block g0) id).trans g0)
 have H1 := hide (fun (W' : World) (hk : Keeps (fun _ => False) W W') => (hk.block _ (lt_of_block g1) id).trans g1)
 have H2 := hide (fun (W' : World) (hk : Keeps (fun _ => False) W W') => (hk.block _ (lt_of_block g2) id).trans g2)
 have H3 := hide (fun (W' : World) (hk : Keeps (fun _ => False) W W') => (hk.block _ (lt_of_block g3) id).trans g3)
 have HKX := hide (Keeps.refl (fun _ => False) W)
 have HFL := hide hfl
 have HVA := hide hva
 have HPX := hide hpx
 have HPA := hide hpa
 have HIH0 := hide ih
 have HWL := hide hw
 have HKS := hide hks
 have HSZ := hide hsz
 have n1 : ((o : Int) == 1) = false := by simp; omega
 have n2 : ((o : Int) == 2) = false := by simp; omega
 have n3 : ((o : Int) == 3) = false := by simp; omega
 have n4 : ((o : Int) == 4) = false := by simp; omega
 have n5 : ((o : Int) == 5) = false := by simp; omega
 have n6 : ((o : Int) == 6) = false := by simp; omega
 clear g0 g1 g2 g3 hkW hfl hva hpx hpa ih hw hks hk0 hb hrow hS hkr hrule hfit hshort hsz hx hlen HKX h7 h25
 generalize hoo : (o : Int) = oo at *
 clear hoo
 go_enter Tryz.func54, Tryz.ntmps54
 go_wp2_with fail
 go_loopw [8, 9] (fun ov i wr => ∃ (pre rest : EL) (k : Nat), i = .int .i64 k ∧ kids = pre.app rest ∧ k = pre.len ∧ wr.ownsRow W.heap.size 41 3 ov k (vcs (valsP S h vals pre)) ∧ Keeps (fun _ => False) W wr ∧ ExIn Z w rest pb (poff + k * 4) ∧ wellE rest = true ∧ (kindsP S rest).2 = 0 ∧ rest.size < N + 1) (fun _ i _ => kids.len - (intOf i).toNat)
 case atStart => exact ⟨.nil, kids, 0, rfl, rfl, rfl, by simpa [vcs, valsP] using World.ownsRow_nil W W.heap.size 41 3, Keeps.refl _ _, by simpa using uh HPX, uh HWL, uh HKS, uh HSZ⟩
 case round =>
  obtain ⟨pre, rest, k, rfl, happ, hkp, hown, hkeep, hr, hwr, hkk, hrs⟩ := hrel
  obtain ⟨oo2, oc, rfl⟩ := (rowAt_own hown).form
  have hll := congrArg EL.len happ
  rw [EL.lenApp] at hll
  have HO := hide hown
  have HK := hide hkeep
  have HKw := hide ((uh HKW).trans hkeep)
  cases rest with
  | cons op2 n2' s2 kids2 rest =>
   obtain ⟨h1, h2, h3, h4, h5, ⟨xao, xcap, h6, h7', h8⟩, h9⟩ := hr
   simp only [EL.len] at hll
   obtain ⟨rfl, hp'⟩ := (uh HPA) (by omega)
   simp only [wellE, Bool.and_eq_true] at hwr
   obtain ⟨kk1, kk2⟩ := kinds_cons hkk
   have HC := hide (fun (W' : World) (hk : Keeps (fun _ => False) wr W') => (⟨((((uh HKw).trans hk).cell h1 id).trans h3), ((((uh HKw).trans hk).cell h1 id).trans h4), ((((uh HKw).trans hk).cell h1 id).trans h5), ((((uh HKw).trans hk).cell h1 id).trans h6)⟩ : W'.cell? ⟨pb, poff + k * 4, none⟩ = some (.int .i64 op2) ∧ W'.cell? ⟨pb, poff + k * 4 + 1, none⟩ = some (.int .i64 n2') ∧ W'.cell? ⟨pb, poff + k * 4 + 2, none⟩ = some (str s2) ∧ W'.cell? ⟨pb, poff + k * 4 + 3, none⟩ = some (.slice xao kids2.len xcap)))
   have hsl : SlE Z w pb (.slice xao kids2.len xcap) kids2 := ⟨xao, xcap, rfl, h7', h8⟩
   have HIH := hide (fun (W' : World) (hk : Keeps (fun _ => False) wr W') => uh HIH0 kids2 (by simp only [EL.size] at hrs; omega) op2 n2' s2 Z pb (.slice xao kids2.len xcap) W' hwr.1 hwr.2.1 kk1 ((uh HFL).keepF ((uh HKw).trans hk)) ((uh HVA).keepF ((uh HKw).trans hk)) (hsl.keepF ((uh HKw).trans hk)))
   have HLT : Hid (k < kids.len) := hide (by omega)
   have HREST := hide h9
   have HW2 := hide hwr.2.2
   have HK2 := hide kk2
   have HRS : Hid (rest.size < N + 1) := hide (by simp only [EL.size] at hrs; omega)
   have HAPP := hide happ
   have HKP := hide hkp
   have HKX := hide (Keeps.refl (fun _ => False) wr)
   have i1 : (k : Int) < (kids.len : Int) := by omega
   have c3' := (cB (uh H1 wr hkeep) 3).trans rfl
   have hkb : k ≤ 1000 := by omega
   clear hown hkeep h1 h2 h3 h4 h5 h6 h8 h9 hsl hwr hkk kk1 kk2 hrs happ hkp hp'
   go_upto_region 19 with fail
   rename_i Q0 K0 hc0
   refine wp_region_last (X := wr) (by kernel_rfl) 9 rfl _ rfl rfl (by decide) (by kernel_rfl) [67, 68, 69, 70, 71, 72, 73, 74, 10] (by decide) rfl (by first | rfl | kernel_rfl | simp [opsB]) (uh HKX) (fun i v W1 => match i with | 0 => v = .agg #[(.slice so S.length sc)] | 1 => v = .pointer (some ⟨w.heap.size + 1, 0 + 3, none⟩) | 2 => v = .slice (some ⟨pb, poff, none⟩) kids.len xc | 3 => v = .int .i64 (k : Int) | 4 => v = .pointer (some ⟨pb, poff + k * 4, none⟩) | 5 => v = .agg #[.int .i64 op2, .int .i64 n2', str s2, .slice xao kids2.len xcap] | 6 => v = .agg #[.bool h, (.slice uo vals.length uc)] | 7 => v = (nodeV S op2 n2' s2 kids2 h vals).v | 8 => isB41 wr.heap.size W1 v | _ => True) ?_ ?_ ?_
   ·intro i v w1 w2 hq hk
    rcases i with _ | _ | _ | _ | _ | _ | _ | _ | _ | i
    all_goals first | exact hq | exact isB41.keep hq hk
   ·intro i o A W1 him ho hs hk hd K' hK
    rcases i with _ | _ | _ | _ | _ | _ | _ | _ | _ | i
    ·obtain rfl := Option.some.inj ho
     exact step_load24 rfl ((hs.at rfl 3 (by decide)).trans rfl) (uh H0 W1 ((uh HK).trans hk)) (hK _ _ rfl (Keeps.refl _ _))
    ·obtain rfl := Option.some.inj ho
     exact step_fieldE3 rfl ((hs.at rfl 4 (by decide)).trans rfl) (hK _ _ rfl (Keeps.refl _ _))
    ·obtain rfl := Option.some.inj ho
     exact step_load25 rfl (hd ⟨1, .data⟩ (by simp) rfl) ((cB (uh H1 W1 ((uh HK).trans hk)) _).trans rfl) (hK _ _ rfl (Keeps.refl _ _))
    ·obtain rfl := Option.some.inj ho
     exact step_move rfl ((hs.at rfl 9 (by decide)).trans rfl) (hK _ _ rfl (Keeps.refl _ _))
    ·obtain rfl := Option.some.inj ho
     exact step_indexE rfl (hd ⟨2, .data⟩ (by simp) rfl) (hd ⟨3, .data⟩ (by simp) rfl) (uh HLT) (hK _ _ rfl (Keeps.refl _ _))
    ·obtain rfl := Option.some.inj ho
     exact step_loadE rfl (hd ⟨4, .data⟩ (by simp) rfl) ((uh HC W1 hk).1) ((uh HC W1 hk).2.1) ((uh HC W1 hk).2.2.1) ((uh HC W1 hk).2.2.2) (hK _ _ rfl (Keeps.refl _ _))
    ·obtain rfl := Option.some.inj ho
     exact step_load31 rfl ((hs.at rfl 5 (by decide)).trans rfl) (uh H2 W1 ((uh HK).trans hk)) (hK _ _ rfl (Keeps.refl _ _))
    ·obtain rfl := Option.some.inj ho
     exact step_c54 rfl (hd ⟨0, .data⟩ (by simp) rfl) (hd ⟨5, .data⟩ (by simp) rfl) (hd ⟨6, .data⟩ (by simp) rfl) (uh HIH W1 hk) (fun _ q => hK _ _ rfl q)
    ·obtain rfl := Option.some.inj ho
     exact step_alloc41 rfl hk.size (fun v' w' h1 h2 => hK v' w' h1 h2)
    ·omega
   ·intro A V hs hk hall K' hK
    have hl : A.tmps.getD 74 undef = (nodeV S op2 n2' s2 kids2 h vals).v := hall 7 (by decide)
    have hbx : isB41 wr.heap.size V (A.tmps.getD 10 undef) := hall 8 (by decide)
    refine step_store41 (X := wr) (x := nodeV S op2 n2' s2 kids2 h vals) rfl rfl rfl hl hbx rfl hk ?_
    intro gg V2 hp hg hgb hkV
    refine hK _ _ (hc0 _ _ ?_)
    have v0 : A.tmps.getD 67 undef = .agg #[(.slice so S.length sc)] := hall 0 (by decide)
    have v1 : A.tmps.getD 68 undef = .pointer (some ⟨w.heap.size + 1, 0 + 3, none⟩) := hall 1 (by decide)
    have v2 : A.tmps.getD 69 undef = .slice (some ⟨pb, poff, none⟩) kids.len xc := hall 2 (by decide)
    have v3 : A.tmps.getD 70 undef = .int .i64 (k : Int) := hall 3 (by decide)
    have v4 : A.tmps.getD 71 undef = .pointer (some ⟨pb, poff + k * 4, none⟩) := hall 4 (by decide)
    have v5 : A.tmps.getD 72 undef = .agg #[.int .i64 op2, .int .i64 n2', str s2, .slice xao kids2.len xcap] := hall 5 (by decide)
    have v6 : A.tmps.getD 73 undef = .agg #[.bool h, (.slice uo vals.length uc)] := hall 6 (by decide)
    have hA := same_fold hs rfl
    simp only [List.foldl_cons, List.foldl_nil, v0, v1, v2, v3, v4, v5, v6, hl, hp] at hA
    simp only [Act.put, List.setIfInBounds_toArray, List.set_cons_zero, List.set_cons_succ] at hA
    rw [hA]
    obtain ⟨b0, b1, b2⟩ := cl3 hgb
    have HKV := hide hkV
    have HOV := hide (ownsRow_kept (uh HO) hkV (fun _ _ => id))
    generalize hxx : nodeV S op2 n2' s2 kids2 h vals = x at *
    have HXX := hide hxx
    clear hs hk hall hl hbx hK hp hg hgb hkV v0 v1 v2 v3 v4 v5 v6 hA hxx c0 c1 c2 c3 c3'
    go_wp2_with (at_builtin; refine wpList_append_lies _ rfl _ _ _ rfl W.heap.size 41 i0 _ 3 32 Tryz.underlying29 hi hz0 hz1 hz2 rfl (by omega) (.slice oo2 k oc) k (vcs (valsP S h vals pre)) rfl ((uh HOV).alloc _) ⟨V2.heap.size, 0, none⟩ 1 1 x.cs rfl rfl (World.news_of_block (cs := #[.int .i64 x.kind, .int .i64 x.n, str x.s]) (t := 41) (fr := (0, 0)) (heap_alloc_new V2 _)) (by simp [Value.oneCell', ValA.cs]) (by omega) (by unfold maxLen; omega) (by omega) (by have := ((uh HK).trans (uh HKV)).size; simp; omega) (V2.heap.size + 1) (by simp) ?_; intro gq capq w1 hown1 hgrow hat hlt1)
    go_roundw
    case rel =>
     refine ⟨pre.app (.cons op2 n2' s2 kids2 .nil), rest, k + 1, by go_num, by rw [app_oneX]; exact uh HAPP, by rw [EL.lenApp, uh HKP]; rfl, ?_, (((uh HK).trans (uh HKV)).alloc _).grown hgrow (fun q e hq => by have := ((uh HOV).lt q e).1; omega), ?_, uh HW2, uh HK2, uh HRS⟩
     ·rw [valsP_app, valsP_cons, uh HXX, vcs_app]
      simpa [vcs, valsP] using hown1
     ·rw [show poff + (k + 1) * 4 = poff + k * 4 + 4 by omega]
      exact uh HREST
    case measure => simp [intOf]; omega
  | nil =>
   rw [EL.appNil] at happ
   subst happ
   simp only [EL.len, Nat.add_zero] at hll
   have i1 : ¬ (k : Int) < (kids.len : Int) := by omega
   have hv : ValsAt wr (.slice oo2 k oc) (valsP S h vals kids) := by
    have e : (valsP S h vals kids).length = k := by rw [valsP_len]; omega
    unfold ValsAt
    rw [e]
    exact rowAt_own hown
   have HCO := hide (uh HOF wr _ hv)
   have c0' := (cB (uh H1 wr hkeep) 0).trans rfl
   have c3' := (cB (uh H1 wr hkeep) 3).trans rfl
   have HG2 := hide (uh H3 wr hkeep)
   clear hown hkeep hr hwr hkk hrs hkp hv hll HOF c0 c1 c2 c3
   generalize hxx : opV oo (valsP S h vals kids) = x at *
   have HXX := hide hxx
   clear hxx
   go_wp2_with fail
   refine (uh HCO).mono ?_
   rintro e w1 ⟨rfl, hk1⟩
   obtain ⟨z0, z1, z2, y0, y1, y2, s0, s1, s2⟩ := res_facts (uh HG2) hk1 x
   have HKF := hide (((uh HKw).trans hk1).fresh (by omega) (keeps_set3 w1 (w.heap.size + 1 + 1 + 1) (.int .i64 x.kind) (.int .i64 x.n) (str x.s)))
   unfold ValA.v
   clear hk1
   go_wp2_with fail
   refine bodyPost_ret (v := .agg #[.int .i64 x.kind, .int .i64 x.n, str x.s]) (by simp [results, go_sem, s0, s1, s2]) rfl ?_
   exact ⟨by rw [uh HXX]; rfl, uh HKF⟩
theorem rworth_v (S : List FieldA) (hS : schemaB S = true) (h : Bool) (vals : List ValA) (hrow : rowE S h vals = 0) (so uo : Option Addr) (sc uc : Nat) : ∀ N, WorthAt S h vals (.slice so S.length sc) (.slice uo vals.length uc) N
 | 0 => fun kids hsz => by omega
 | N + 1 => fun kids hsz op n s Z up xv w hb hw hk hfl hva hx => by
  have ih := rworth_v S hS h vals hrow so uo sc uc N
  obtain ⟨xo, xc, rfl, _⟩ := hx.head
  have hop : 1 ≤ op ∧ op ≤ 25 := by
   unfold rootB kidsB at hb
   simp only [Bool.and_eq_true, decide_eq_true_eq] at hb
   have := hb.1
   repeat' split at this
   all_goals omega
  by_cases h6 : op ≤ 6
  ·have hrw := rowE_rw hrow
   have hn : nodeV S op n s kids h vals = leafV S h vals op n s := by unfold nodeV; rw [if_pos h6]
   rw [hn]
   have hru := (kind_rule hk).2
   rcases (show op = 1 ∨ op = 2 ∨ op = 3 ∨ op = 4 ∨ op = 5 ∨ op = 6 by omega) with rfl | rfl | rfl | rfl | rfl | rfl
   ·exact rworth1_v S h vals n s kids so uo xo sc uc xc w
   ·exact rworth2_v S h vals n s kids so uo xo sc uc xc w
   ·exact rworth3_v S h vals n s kids so uo xo sc uc xc w
   ·have h0 : (namedK S s).2 = 0 := by have := hk; rw [hru] at this; exact this
    obtain ⟨fd, hfd, _⟩ := named_some h0
    exact rworth4_v S h vals n s kids so uo xo sc uc xc w hS fd hfd hrw hfl hva
   ·have h0 : (hasK S s).2 = 0 := by have := hk; rw [hru] at this; exact this
    obtain ⟨h1, h2⟩ := orI_zero h0
    obtain ⟨fd, hfd, hnk⟩ := named_some h1
    have hopt : fd.opt = true := by
     rw [hnk] at h2
     unfold optI at h2
     cases e : fd.opt with
     | true => rfl
     | false => simp [e] at h2
    have e : leafV S h vals 5 n s = truV (h && !decide ((fieldV S h vals s).kind = 0)) := by
     show truV (!decide ((fieldV S h vals s).kind = 0)) = _
     cases h with
     | true => rfl
     | false =>
      have : fieldV S false vals s = zeroV fd := by unfold fieldV; simp [zeros_at (find_idx hfd)]
      rw [this]
      simp [zeroV, hopt]
    rw [e]
    exact rworth5_v S h vals n s kids so uo xo sc uc xc w hS fd hfd hrw hfl hva
   ·exact rworth6_v S h vals n s kids so uo xo sc uc xc w
  ·have hn : nodeV S op n s kids h vals = opV op (valsP S h vals kids) := by unfold nodeV; rw [if_neg h6]
   rw [hn]
   obtain ⟨o, rfl⟩ : ∃ o : Nat, op = o := ⟨op.toNat, by omega⟩
   exact rworthN_v S hS h vals hrow so uo sc uc N ih kids hsz o (by omega) (by omega) n s Z up _ w hb hw hk hfl hva hx
end Go.Proofs.YtiinohibmcefkaaGreatDoor
namespace Go.Proofs.YtiinohibmcefkaaGreatDoor
open Go.RowKit Go.Maps
set_option maxRecDepth 100000
set_option maxHeartbeats 4000000
theorem flatC_get {α : Type} (f : α → List Value) (sz : Nat) (hf : ∀ x, (f x).length = sz) : ∀ (C : List α) (i j : Nat) (c : α) (v : Value), C[i]? = some c → (f c)[j]? = some v → (C.flatMap f)[i * sz + j]? = some v
 | [], i, j, c, v, h, _ => by simp at h
 | x :: r, 0, j, c, v, h, hv => by
  simp at h
  subst h
  rw [List.flatMap_cons, Nat.zero_mul, Nat.zero_add, List.getElem?_append_left (List.getElem?_eq_some_iff.1 hv).1]
  exact hv
 | x :: r, i + 1, j, c, v, h, hv => by
  have ih := flatC_get f sz hf r i j c v (by simpa using h) hv
  rw [List.flatMap_cons, List.getElem?_append_right (by rw [hf]; have : (i + 1) * sz = i * sz + sz := Nat.succ_mul i sz; omega), hf, show (i + 1) * sz + j - sz = i * sz + j by have : (i + 1) * sz = i * sz + sz := Nat.succ_mul i sz; omega]
  exact ih
def spareT : Txt := [115, 112, 97, 114, 101]
def markV (i : Nat) : List Value := [.int .i64 (-77), .int .i64 (i : Int), str spareT]
def markF (i : Nat) : List Value := [str spareT, .int .i64 (-77 - (i : Int)), .bool false]
def marksW (f : Nat → List Value) (n : Nat) : List Value := (List.range n).flatMap f
theorem marks_snoc (f : Nat → List Value) (n : Nat) : marksW f (n + 1) = marksW f n ++ f n := by simp [marksW, List.range_succ]
def Wide (w : World) (v : Value) (sz n : Nat) (xs : List Value) (f : Nat → List Value) : Prop :=
 ∃ (g cap : Nat) (cur : Array Value) (e : TypeId), v = .slice (some ⟨g, 0, none⟩) n cap ∧ n + 16 ≤ cap ∧ cap ≤ maxLen ∧ w.heap[g]? = some (.cells cur e (0, 0)) ∧ xs.length = n * sz ∧ cur.toList.take ((n + 16) * sz) = xs ++ marksW f 16
theorem Wide.keepF {w w' : World} {v : Value} {sz n : Nat} {xs : List Value} {f : Nat → List Value} (h : Wide w v sz n xs f) (hk : Keeps (fun _ => False) w w') : Wide w' v sz n xs f := by
 obtain ⟨g, cap, cur, e, h1, h2, h3, h4, h5, h6⟩ := h
 exact ⟨g, cap, cur, e, h1, h2, h3, blk_keep h4 hk, h5, h6⟩
theorem Wide.keep {w w' : World} {g cap sz n b : Nat} {xs : List Value} {f : Nat → List Value} (h : Wide w (.slice (some ⟨g, 0, none⟩) n cap) sz n xs f) (hk : Keeps (fun q => q = b) w w') (hb : g ≠ b) : Wide w' (.slice (some ⟨g, 0, none⟩) n cap) sz n xs f := by
 obtain ⟨g', cap', cur, e, h1, h2, h3, h4, h5, h6⟩ := h
 simp only [Value.slice.injEq, Option.some.injEq, Addr.mk.injEq, and_true, true_and] at h1
 obtain ⟨rfl, rfl⟩ := h1
 exact ⟨g, cap, cur, e, rfl, h2, h3, (hk.block _ (lt_of_block h4) hb).trans h4, h5, h6⟩
theorem set1c {w : World} {b : Nat} {c0 : Value} {t : TypeId} (h : w.heap[b]? = some (.cells #[c0] t (0, 0))) (x : Value) : (w.setCell ⟨b, 0, none⟩ x).cell? ⟨b, 0, none⟩ = some x := by
 have h1 := heap_setCell_at (o := 0) h x
 rw [cB h1]; rfl
theorem Wide.cell {w : World} {g n sz : Nat} {xs : List Value} {f : Nat → List Value} {cur : Array Value} {e : TypeId} (h4 : w.heap[g]? = some (.cells cur e (0, 0))) (h6 : cur.toList.take ((n + 16) * sz) = xs ++ marksW f 16) {j : Nat} {x : Value} (hx : (xs ++ marksW f 16)[j]? = some x) : w.cell? ⟨g, j, none⟩ = some x := by
 rw [cB h4]
 rw [← h6, List.getElem?_take] at hx
 split at hx
 ·rw [← Array.getElem?_toList]; exact hx
 ·cases hx
theorem Wide.row {w : World} {v : Value} {sz n : Nat} {xs : List Value} {f : Nat → List Value} (h : Wide w v sz n xs f) : RowAt w v n xs := by
 obtain ⟨g, cap, cur, e, rfl, h2, h3, h4, h5, h6⟩ := h
 have ho : RowAt w (.slice (some ⟨g, 0, none⟩) n cap) n xs := by
  refine ⟨⟨_, _, rfl⟩, fun h0 => ⟨g, 0, cap, rfl, lt_of_block h4, fun j x hx => ?_⟩, fun ao m c e => by simp at e; omega⟩
  rw [Nat.zero_add]
  exact Wide.cell h4 h6 (by rw [List.getElem?_append_left (List.getElem?_eq_some_iff.1 hx).1]; exact hx)
 exact ho
theorem marks_get {f : Nat → List Value} {sz : Nat} (hf : ∀ i, (f i).length = sz) {i j : Nat} {x : Value} (hi : i < 16) (hx : (f i)[j]? = some x) : (marksW f 16)[i * sz + j]? = some x :=
 flatC_get f sz hf (List.range 16) i j i x (by rw [List.getElem?_range hi]) hx
theorem Wide.mark {w : World} {g n sz : Nat} {xs : List Value} {f : Nat → List Value} {cur : Array Value} {e : TypeId} (h4 : w.heap[g]? = some (.cells cur e (0, 0))) (h5 : xs.length = n * sz) (h6 : cur.toList.take ((n + 16) * sz) = xs ++ marksW f 16) (hf : ∀ i, (f i).length = sz) {i j : Nat} {x : Value} (hi : i < 16) (hx : (f i)[j]? = some x) : w.cell? ⟨g, (n + i) * sz + j, none⟩ = some x := by
 refine Wide.cell h4 h6 ?_
 have e1 : (n + i) * sz + j = xs.length + (i * sz + j) := by rw [h5, Nat.add_mul]; omega
 rw [e1, List.getElem?_append_right (by omega), Nat.add_sub_cancel_left]
 exact marks_get hf hi hx
theorem wide_of {w : World} {B el sz n cap g : Nat} {xs : List Value} {f : Nat → List Value} (hxs : xs.length = n * sz) (h : w.ownsRow B el sz (.slice (some ⟨g, 0, none⟩) (n + 16) cap) (n + 16) (xs ++ marksW f 16)) : Wide w (.slice (some ⟨g, 0, none⟩) n cap) sz n xs f := by
 rcases h.2 with ⟨e, _⟩ | ⟨g', cap', cur, e, _, hb, hc, hm, hs, ht⟩
 ·cases e
 ·simp only [Value.slice.injEq, Option.some.injEq, Addr.mk.injEq, and_true, true_and] at e
  obtain ⟨rfl, rfl⟩ := e
  exact ⟨g, cap, cur, el, rfl, hc, hm, hb, hxs, ht⟩
theorem markV_v (i : Nat) (w : World) : Calls Tryz.prog 96 #[.int .i64 (i : Int)] w fun e w' => e = .returned (.agg #[.int .i64 (-77), .int .i64 (i : Int), .string ⟨#[115, 112, 97, 114, 101]⟩]) ∧ Keeps (fun _ => False) w w' := by
 go_enter Tryz.func96, Tryz.ntmps96
 go_wp2_with fail
 go_returns
 exact ⟨rfl, kAlloc _ _⟩
theorem wideVals_v (w : World) (v : Value) (l : List ValA) (h : ValsAt w v l) (hl : l.length ≤ 1048576) :
  Calls Tryz.prog 85 #[v] w fun e w' => ∃ g cap, e = .returned (.slice (some ⟨g, 0, none⟩) l.length cap) ∧ w.heap.size ≤ g ∧ Wide w' (.slice (some ⟨g, 0, none⟩) l.length cap) 3 l.length (vcs l) markV ∧ Keeps (fun _ => False) w w' := by
 obtain ⟨i0, hi, hz0, hz1, hz2⟩ := info_parts Tryz.info41
 obtain ⟨ao, ac, rfl⟩ := RowAt.form h
 have HC := hide (copyVals_any w _ l h (by omega))
 have HLN : Hid ((vcs l).length = l.length * 3) := by show _ = _; simp [vcs_length]
 generalize hfl : vcs l = FL at *
 clear h hfl
 go_enter Tryz.func85, Tryz.ntmps85
 go_wp2_with fail
 refine (uh HC).mono ?_
 rintro e w1 ⟨v1, rfl, hown, hk1⟩
 obtain ⟨bo, bc, rfl⟩ := RowAt.form (rowAt_own hown)
 have HO1 := hide hown
 have HK1 := hide hk1
 clear hown hk1 HC
 go_wp2_with fail
 go_loopw [3, 4] (fun o i wr => ∃ k : Nat, k ≤ 16 ∧ i = .int .i64 (k : Int) ∧ Hid (wr.ownsRow w.heap.size 41 3 o (l.length + k) (FL ++ marksW markV k)) ∧ Hid (Keeps (fun _ => False) w wr)) (fun _ i _ => 16 - (intOf i).toNat)
 case atStart => exact ⟨0, by omega, rfl, by simpa [Hid, marksW] using uh HO1, uh HK1⟩
 case round =>
  obtain ⟨k, hk, rfl, HO, HK⟩ := hrel
  by_cases hlt : k < 16
  ·have i1 : (k : Int) < 16 := by omega
   have i0' : (0 : Int) ≤ (k : Int) := by omega
   have HM := hide (markV_v k wr)
   go_wp2_with fail
   refine (uh HM).mono ?_
   rintro e w2 ⟨rfl, hk2⟩
   have HO2 := hide (ownsRow_kept (uh HO) hk2 (fun _ _ => id))
   have HK2 := hide ((uh HK).trans hk2)
   clear hk2 HM HO HK
   have HO := HO2
   have HK := HK2
   go_wp2_with (at_builtin; refine wpList_append_lies _ rfl _ _ _ rfl w.heap.size 41 i0 _ 3 32 Tryz.underlying29 hi hz0 hz1 hz2 rfl (by omega) u3 (l.length + k) (FL ++ marksW markV k) rfl ((uh HO).alloc _) ⟨w2.heap.size, 0, none⟩ 1 1 (markV k) rfl rfl (World.news_of_block (cs := #[.int .i64 (-77), .int .i64 (k : Int), .string ⟨#[115, 112, 97, 114, 101]⟩]) (t := 41) (fr := (0, 0)) (heap_alloc_new w2 _)) (by simp [Value.oneCell', markV]) (by omega) (by unfold maxLen; omega) (by omega) (by have := (uh HK).size; simp; omega) (w2.heap.size + 1) (by simp) ?_; intro g cap w5 hown5 hgr5 hat5 hlt5)
   go_roundw
   case rel =>
    refine ⟨k + 1, by omega, by go_num, ?_, ((uh HK).alloc _).grown hgr5 (fun q e hq => by have := ((uh HO).lt q e).1; omega)⟩
    rw [marks_snoc, ← List.append_assoc, ← Nat.add_assoc]
    exact hown5
   case measure => simp [intOf]; omega
  ·obtain rfl : k = 16 := by omega
   obtain ⟨g, cap, cur, e, hgl, hgb, hc⟩ : ∃ g cap cur, u3 = .slice (some ⟨g, 0, none⟩) (l.length + 16) cap ∧ w.heap.size ≤ g ∧ wr.heap[g]? = some (.cells cur 41 (0, 0)) ∧ l.length + 16 ≤ cap := by
    rcases (uh HO).2 with ⟨_, h0⟩ | ⟨g, cap, cur, a1, a2, a3, a4, _⟩
    ·omega
    ·exact ⟨g, cap, cur, a1, a2, a3, a4⟩
   subst e
   have HW := hide (wide_of (uh HLN) (uh HO))
   have c1 : (l.length : Int) ≤ (cap : Int) := by omega
   have c2 : l.length ≤ cap := by omega
   have c0 : (0 : Int) ≤ (l.length : Int) := by omega
   clear hgb HO
   go_wp2_with fail
   go_ret
   exact ⟨_, _, rfl, hgl, uh HW, uh HK⟩
theorem copySchema_v (w : World) (v : Value) (l : List FieldA) (h : FldsAt w v l) (hl : l.length ≤ 4398046511104) :
  Calls Tryz.prog 33 #[.agg #[v]] w fun e w' => ∃ v', e = .returned (.agg #[v']) ∧ w'.ownsRow w.heap.size 47 3 v' l.length (fcs l) ∧ Keeps (fun _ => False) w w' := by
 obtain ⟨i0, hi, hz0, hz1, hz2⟩ := info_parts Tryz.info47
 obtain ⟨ao, cap, rfl⟩ := RowAt.form h
 obtain ⟨w3, hw3⟩ : ∃ w3, w3 = ((w.alloc (.cells #[.slice ao l.length cap] 24)).alloc (.cells #[.slice none 0 0] 24)).alloc (.cells #[.slice none 0 0] 24) := ⟨_, rfl⟩
 have hK : Keeps (fun _ => False) w w3 := by rw [hw3]; exact (((Keeps.refl _ _).alloc _).alloc _).alloc _
 have hs3 : w3.heap.size = w.heap.size + 3 := by rw [hw3]; simp
 have b0 : w3.heap[w.heap.size]? = some (.cells #[.slice ao l.length cap] 24 (0, 0)) := by
  rw [hw3, Below.heap_alloc _ _ _ (by simp; omega), Below.heap_alloc _ _ _ (by simp)]
  exact heap_alloc_new w _
 have b1 : w3.heap[w.heap.size + 1]? = some (.cells #[.slice none 0 0] 24 (0, 0)) := by
  rw [hw3, Below.heap_alloc _ _ _ (by simp)]
  have := heap_alloc_new (w.alloc (.cells #[.slice ao l.length cap] 24)) (.cells #[.slice none 0 0] 24)
  simpa using this
 have b2 : w3.heap[w.heap.size + 1 + 1]? = some (.cells #[.slice none 0 0] 24 (0, 0)) := by
  rw [hw3]
  have := heap_alloc_new ((w.alloc (.cells #[.slice ao l.length cap] 24)).alloc (.cells #[.slice none 0 0] 24)) (.cells #[.slice none 0 0] 24)
  simpa using this
 have HF := hide (h.keepF hK)
 have HW := hide hw3
 have HK := hide hK
 have HL := hide hl
 have B0 := hide b0
 have B1 := hide b1
 have B2 := hide b2
 have HS := hide hs3
 clear h hw3 hK b0 b1 b2 hs3 hl
 have hl' : l.length ≤ 9223372036854775807 := by have := uh HL; omega
 go_enter Tryz.func33, Tryz.ntmps33
 go_wp2
 rw [← uh HW]
 go_loopw [4] (fun i wr => ∃ (k : Nat) (o : Value), k ≤ l.length ∧ i = .int .i64 k ∧ wr.heap[w.heap.size + 1 + 1]? = some (.cells #[o] 24 (0, 0)) ∧ wr.ownsRow w3.heap.size 47 3 o k (fcs (l.take k)) ∧ Keeps (fun q => q = w.heap.size + 1 + 1) w3 wr) (fun i _ => l.length - (intOf i).toNat)
 case atStart => exact ⟨0, _, Nat.zero_le _, rfl, uh B2, by simpa [fcs] using World.ownsRow_nil w3 w3.heap.size 47 3, Keeps.refl _ _⟩
 case round =>
  obtain ⟨k, o, hk, rfl, hbo, hown, hkp⟩ := hrel
  obtain ⟨oo, oc, rfl⟩ := (rowAt_own hown).form
  have HBo := hide hbo
  have HO := hide hown
  have HP := hide hkp
  have p0 : wr.cell? ⟨w.heap.size, 0, none⟩ = some (.slice ao l.length cap) := (hkp.cell (lt_of_block (uh B0)) (by show ¬ _ = _; omega)).trans (by rw [cB (uh B0)]; rfl)
  have p2 : wr.cell? ⟨w.heap.size + 1 + 1, 0, none⟩ = some (.slice oo k oc) := by rw [cB hbo]; rfl
  have f2 := fB hbo 0
  have z2 := lt_of_block hbo
  have z0 : w.heap.size < wr.heap.size := by omega
  by_cases hlt : k < l.length
  ·obtain ⟨b, off, c1, e1, hbl, hc⟩ := (uh HF).cells (by omega)
   simp at e1
   obtain ⟨rfl, rfl⟩ := e1
   obtain ⟨f, hf⟩ : ∃ f, l[k]? = some f := ⟨_, List.getElem?_eq_getElem hlt⟩
   have hbne : b ≠ w.heap.size + 1 + 1 := by
    rintro rfl
    have h1 := (hc k f hf).2.1
    have h2 := (hc k f hf).2.2
    rw [cB (uh B2)] at h1 h2
    rw [Array.getElem?_eq_none (by simp)] at h2
    cases h2
   have c0 := (hkp.cell hbl (by show ¬ _ = _; omega)).trans (hc k f hf).1
   have c1 := (hkp.cell hbl (by show ¬ _ = _; omega)).trans (hc k f hf).2.1
   have c2 := (hkp.cell hbl (by show ¬ _ = _; omega)).trans (hc k f hf).2.2
   have z1 : b < wr.heap.size := Nat.lt_of_lt_of_le hbl hkp.size
   have HX := hide hf
   have HN := hide (ownsRow_ne hown hbo (by decide))
   have i1 : (k : Int) < (l.length : Int) := by omega
   have i0' : (0 : Int) ≤ (k : Int) := by omega
   clear hc hf hbo hown hkp
   go_wp2_with fail
   go_region_law (first
    | (refine step_append_lies _ (by rfl) _ _ _ (by rfl) w3.heap.size 47 i0 _ 3 32 Tryz.underlying22 hi hz0 hz1 hz2 rfl (by omega) (.slice oo k oc) k (fcs (l.take k)) (by rfl) (((uh HO).alloc _).drew)
        ⟨wr.heap.size, 0, none⟩ 1 1 f.cs (by rfl) (by rfl) (World.news_of_block (cs := #[str f.name, .int .i64 f.type, .bool f.opt]) (t := 47) (fr := (0, 0)) (by exact heap_alloc_new wr _)) (by simp [Value.oneCell', FieldA.cs])
        (by omega) (by unfold maxLen; omega) (by have := uh HL; omega) (by have := (uh HP).size; simp; omega) (wr.heap.size + 1) (by simp) ?_; intro g cap' w5 hown2 hgrow hat hlt2
       have f2' : w5.frozen? ⟨w.heap.size + 1 + 1, 0, none⟩ = false := by (rw [hgrow.frozen_far _ (by simp; omega) (Ne.symm (uh HN))]; simpa [World.frozen?_alloc_past, z2] using f2)
       have p2' : w5.cell? ⟨w.heap.size + 1 + 1, 0, none⟩ = some (.slice oo k oc) := by (rw [hgrow.cell_far _ (by simp; omega) (Ne.symm (uh HN))]; simpa [World.cell?_alloc_past, z2] using p2)))
   all_goals
    have hb5 : w5.heap[w.heap.size + 1 + 1]? = some (.cells #[.slice oo k oc] 24 (0, 0)) := by
     rw [hgrow.block (w.heap.size + 1 + 1) (by simp; omega) (Ne.symm (uh HN))]
     show (wr.alloc _).heap[w.heap.size + 1 + 1]? = _
     rw [Below.heap_alloc _ _ _ z2]
     exact uh HBo
    have H5 := hide hb5
    have HO2 := hide hown2
    have HG2 := hide hgrow
    clear hb5 hown2 hgrow
    go_wp2
    go_roundw
    case rel =>
     refine ⟨k + 1, .slice (some ⟨g, 0, none⟩) (k + 1) cap', by omega, by go_num, ?_, ?_, ?_⟩
     ·rw [heap_setCell_at (uh H5)]; rfl
     ·rw [take_snoc _ _ _ (uh HX)]
      have h1 : w5.ownsRow w3.heap.size 47 3 (.slice (some ⟨g, 0, none⟩) (k + 1) cap') (k + 1) (fcs (l.take k ++ [f])) := by simpa [fcs] using uh HO2
      exact ownsRow_kept (F := fun q => q = w.heap.size + 1 + 1) h1 (keeps_set w5 _ 0 _) (fun q e e2 => by subst e2; exact ownsRow_ne h1 (uh H5) (by decide) e)
     ·exact ((((uh HP).alloc _).drew).grown (uh HG2) (fun q e hq => by have := ((uh HO).lt q e).1; omega)).setCell (fun _ => rfl) _
    case measure => simp [intOf]; omega
  ·obtain rfl : k = l.length := by omega
   have hb1 : wr.heap[w.heap.size + 1]? = some (.cells #[.slice none 0 0] 24 (0, 0)) := by rw [hkp.block _ (lt_of_block (uh B1)) (by show ¬ _ = _; omega)]; exact uh B1
   have p1 : wr.cell? ⟨w.heap.size + 1, 0, none⟩ = some (.slice none 0 0) := by rw [cB hb1]; rfl
   have f1 := fB hb1 0
   have H1 := hide hb1
   have HN1 := hide (ownsRow_ne hown hb1 (by decide))
   clear hb1 hown hkp hbo
   go_wp2
   have hq : (wr.setCell ⟨w.heap.size + 1, 0, none⟩ (.slice oo l.length oc)).cell? ⟨w.heap.size + 1, 0, none⟩ = some (.slice oo l.length oc) := by rw [cB (heap_setCell_at (uh H1) _)]; rfl
   refine bodyPost_ret (v := .agg #[.slice oo l.length oc]) (by simp [results, go_sem, hq]) rfl ?_
   refine ⟨.slice oo l.length oc, rfl, ?_, ?_⟩
   ·have h1 := uh HO
    rw [List.take_length] at h1
    exact ownsRow_lower (ownsRow_kept (F := fun q => q = w.heap.size + 1) h1 (keeps_set wr _ 0 _) (fun q e e2 => uh HN1 (by rw [← e2]; exact e))) (uh HK).size
   ·exact (uh HK).narrow (F := fun q => q = w.heap.size + 1 + 1 ∨ q = w.heap.size + 1) (((uh HP).mono (fun q _ h => Or.inl h)).then (keeps_set wr (w.heap.size + 1) 0 _) (fun q _ h => Or.inr h)) (fun q h => by omega)
theorem run_field24 (ao : Option Addr) (n c : Nat) (W : World) : (Instr.field 24 (.agg #[.slice ao n c]) 0).run Tryz.prog W = .ok (.slice ao n c) W := by
 kernel_rfl
theorem wideSchema_v (w : World) (v : Value) (l : List FieldA) (h : FldsAt w v l) (hl : l.length ≤ 1048576) :
  Calls Tryz.prog 49 #[.agg #[v]] w fun e w' => ∃ g cap, e = .returned (.agg #[.slice (some ⟨g, 0, none⟩) l.length cap]) ∧ w.heap.size ≤ g ∧ Wide w' (.slice (some ⟨g, 0, none⟩) l.length cap) 3 l.length (fcs l) markF ∧ Keeps (fun _ => False) w w' := by
 obtain ⟨i0, hi, hz0, hz1, hz2⟩ := info_parts Tryz.info47
 obtain ⟨ao, ac, rfl⟩ := RowAt.form h
 obtain ⟨W, hW, hkW, g0, g1⟩ := boxA2 w #[.slice ao l.length ac] #[.slice none 0 0] 24 24
 have hsz : w.heap.size + 2 ≤ W.heap.size := lt_of_block g1
 have HC := hide (copySchema_v W _ l (h.keepF hkW) (by omega))
 have HLN : Hid ((fcs l).length = l.length * 3) := by show _ = _; simp [fcs_length]
 generalize hfl : fcs l = FL at *
 have cc0 := cl1 g0
 have B0 := hide g0
 have B1 := hide g1
 have HWX := hide hkW
 clear h hfl g0 g1 hkW
 go_enter Tryz.func49, Tryz.ntmps49
 go_wp2_with fail
 refine (uh HC).mono ?_
 rintro e w1 ⟨v1, rfl, hown, hk1⟩
 obtain ⟨bo, bc, rfl⟩ := RowAt.form (rowAt_own hown)
 have HO1 := hide hown
 have HK1 := hide hk1
 clear hown hk1 HC cc0
 have hfl := run_field24 bo l.length bc
 go_wp2_with fail
 go_loopw [3, 4] (fun o i wr => ∃ k : Nat, k ≤ 16 ∧ i = .int .i64 (k : Int) ∧ Hid (wr.ownsRow W.heap.size 47 3 o (l.length + k) (FL ++ marksW markF k)) ∧ Hid (Keeps (fun _ => False) W wr)) (fun _ i _ => 16 - (intOf i).toNat)
 case atStart => exact ⟨0, by omega, rfl, by simpa [Hid, marksW] using uh HO1, uh HK1⟩
 case round =>
  obtain ⟨k, hk, rfl, HO, HK⟩ := hrel
  by_cases hlt : k < 16
  ·have i1 : (k : Int) < 16 := by omega
   have i0' : (0 : Int) ≤ (k : Int) := by omega
   go_wp2_with (at_builtin; refine wpList_append_lies _ rfl _ _ _ rfl W.heap.size 47 i0 _ 3 32 Tryz.underlying22 hi hz0 hz1 hz2 rfl (by omega) u3 (l.length + k) (FL ++ marksW markF k) rfl ((uh HO).alloc _) ⟨wr.heap.size, 0, none⟩ 1 1 (markF k) rfl rfl (World.news_of_block (cs := #[.string ⟨#[115, 112, 97, 114, 101]⟩, .int .i64 (-77 - (k : Int)), .bool false]) (t := 47) (fr := (0, 0)) (heap_alloc_new wr _)) (by simp [Value.oneCell', markF, str, spareT]) (by omega) (by unfold maxLen; omega) (by omega) (by have := (uh HK).size; simp; omega) (wr.heap.size + 1) (by simp) ?_; intro g cap w5 hown5 hgr5 hat5 hlt5)
   go_roundw
   case rel =>
    refine ⟨k + 1, by omega, by go_num, ?_, ((uh HK).alloc _).grown hgr5 (fun q e hq => by have := ((uh HO).lt q e).1; omega)⟩
    rw [marks_snoc, ← List.append_assoc, ← Nat.add_assoc]
    exact hown5
   case measure => simp [intOf]; omega
  ·obtain rfl : k = 16 := by omega
   obtain ⟨g, cap, cur, e, hgl, hgb, hc⟩ : ∃ g cap cur, u3 = .slice (some ⟨g, 0, none⟩) (l.length + 16) cap ∧ W.heap.size ≤ g ∧ wr.heap[g]? = some (.cells cur 47 (0, 0)) ∧ l.length + 16 ≤ cap := by
    rcases (uh HO).2 with ⟨_, h0⟩ | ⟨g, cap, cur, a1, a2, a3, a4, _⟩
    ·omega
    ·exact ⟨g, cap, cur, a1, a2, a3, a4⟩
   subst e
   have HWD := hide (wide_of (uh HLN) (uh HO))
   have c1 : (l.length : Int) ≤ (cap : Int) := by omega
   have c2 : l.length ≤ cap := by omega
   have c0 : (0 : Int) ≤ (l.length : Int) := by omega
   have hb0 := blk_keep (uh B0) (uh HK)
   have hb1 := blk_keep (uh B1) (uh HK)
   have cc0 := cl1 hb0
   have m0 := cl1 hb1
   have z0 := fB hb1 0
   have HB1 := hide hb1
   have HGL := hide hgl
   clear hgb HO hb0 hb1 hgl
   go_wp2_with fail
   have s0 := set1c (uh HB1) (.slice (some ⟨g, 0, none⟩) l.length cap)
   refine bodyPost_ret (v := .agg #[.slice (some ⟨g, 0, none⟩) l.length cap]) (by simp [results, go_sem, s0]) rfl ?_
   have k2 := keeps_set wr (w.heap.size + 1) 0 (.slice (some ⟨g, 0, none⟩) l.length cap)
   exact ⟨_, _, rfl, by have := uh HGL; omega, (uh HWD).keep k2 (by have := uh HGL; omega), ((uh HWX).trans (uh HK)).fresh (by omega) k2⟩
theorem wideRow_v (w : World) (hh : Bool) (u : Value) (l : List ValA) (h : ValsAt w u l) (hl : l.length ≤ 1048576) :
  Calls Tryz.prog 51 #[.agg #[.bool hh, u]] w fun e w' => ∃ g cap, e = .returned (.agg #[.bool hh, .slice (some ⟨g, 0, none⟩) l.length cap]) ∧ w.heap.size ≤ g ∧ Wide w' (.slice (some ⟨g, 0, none⟩) l.length cap) 3 l.length (vcs l) markV ∧ Keeps (fun _ => False) w w' := by
 obtain ⟨uo, uc, rfl⟩ := RowAt.form h
 obtain ⟨W, hW, hkW, g0, g1⟩ := boxA2 w #[.bool hh, .slice uo l.length uc] #[.bool false, .slice none 0 0] 31 31
 have hsz : w.heap.size + 2 ≤ W.heap.size := lt_of_block g1
 have HCV := hide (fun (W2 : World) (hx : Keeps (fun _ => False) W W2) => wideVals_v W2 _ l ((h.keepF hkW).keepF hx) hl)
 have HSK : Hid (∀ w', Keeps (fun q => q = w.heap.size + 1) W w' → w'.cell? ⟨w.heap.size, 0, none⟩ = some (.bool hh) ∧ w'.cell? ⟨w.heap.size, 1, none⟩ = some (.slice uo l.length uc)) := fun w' hk => by
  have x1 := (hk.block _ (lt_of_block g0) (by omega)).trans g0
  exact ⟨(cB x1 _).trans rfl, (cB x1 _).trans rfl⟩
 have HKX := hide (Keeps.refl (fun _ => False) W)
 have HWX := hide hkW
 have H2 := hide g1
 obtain ⟨a0, a1⟩ := uh HSK W (Keeps.refl _ _)
 clear g0 g1 hkW h
 go_enter Tryz.func51, Tryz.ntmps51
 go_wp2_with fail
 go_region_held3 (fun w' => w'.cell? ⟨w.heap.size, 0, none⟩ = some (.bool hh) ∧ w'.cell? ⟨w.heap.size, 1, none⟩ = some (.slice uo l.length uc))
  (first | with_reducible exact uh HSK _ (uh HKX).any | with_reducible exact uh HSK _ (uh HKX).drew.any | with_reducible exact uh HSK _ ((uh HKX).any.trans (keeps_set2 _ _ _ _)))
  ((first
  | (go_at_call 85; (with_reducible refine (uh HCV _ (uh HKX).drew).mono ?_); rintro e w3 ⟨g, c, rfl, hgl, hown, hk⟩; have HGL : Hid (w.heap.size + 2 ≤ g) := Nat.le_trans hsz hgl; have HOW := hide hown; clear hgl; have HKX := hide ((uh HKX).drew.trans hk); have hb5 := blk_keep (uh H2) (uh HKX); have m0 := (cB hb5 0).trans rfl; have m1 := (cB hb5 1).trans rfl; have z0 := fB hb5 0; have z1 := fB hb5 1; have HB5 := hide hb5; clear hb5 hk hown)))
 all_goals go_wp2_with fail
 all_goals
  obtain ⟨s0, s1⟩ := set2c (uh HB5) (.bool hh) (.slice (some ⟨g, 0, none⟩) l.length c)
  refine bodyPost_ret (v := .agg #[.bool hh, .slice (some ⟨g, 0, none⟩) l.length c]) (by simp [results, go_sem, s0, s1]) rfl ?_
  have k2 := keeps_set2 w3 (w.heap.size + 1) (.bool hh) (.slice (some ⟨g, 0, none⟩) l.length c)
  exact ⟨_, _, rfl, by have := uh HGL; omega, (uh HOW).keep k2 (by have := uh HGL; omega), ((uh HWX).trans (uh HKX)).fresh (by omega) k2⟩
theorem spareVals_v (w : World) (g n cap : Nat) (xs : List Value) (h : Wide w (.slice (some ⟨g, 0, none⟩) n cap) 3 n xs markV) (hn : n ≤ 1048576) :
  Calls Tryz.prog 61 #[.slice (some ⟨g, 0, none⟩) n cap] w fun e w' => e = .returned (.bool true) ∧ Keeps (fun _ => False) w w' := by
 obtain ⟨g', cap', cur, e, h1, h2, h3, h4, h5, h6⟩ := h
 simp only [Value.slice.injEq, Option.some.injEq, Addr.mk.injEq, and_true, true_and] at h1
 obtain ⟨rfl, rfl⟩ := h1
 have HM : Hid (∀ i, i < 16 → ∀ j x, (markV i)[j]? = some x → w.cell? ⟨g, (n + i) * 3 + j, none⟩ = some x) := fun i hi j x hx => Wide.mark h4 h5 h6 (fun _ => rfl) hi hx
 have hg0 := lt_of_block h4
 have b1 : (n : Int) + 16 ≤ (cap : Int) := by omega
 have b2 : n + 16 ≤ cap := h2
 have b0 : (0 : Int) ≤ (n : Int) := by omega
 clear h4 h5 h6 h2 h3
 go_enter Tryz.func61, Tryz.ntmps61
 go_wp2_with fail
 go_loopw [4] (fun i wr => ∃ k : Nat, k ≤ 16 ∧ i = .int .i64 (k : Int) ∧ Hid (Keeps (fun _ => False) w wr)) (fun i _ => 16 - (intOf i).toNat)
 case atStart => exact ⟨0, by omega, rfl, Keeps.refl _ _⟩
 case round =>
  obtain ⟨k, hk, rfl, HK⟩ := hrel
  by_cases hlt : k < 16
  ·have i1 : (k : Int) < 16 := by omega
   have i0' : (0 : Int) ≤ (k : Int) := by omega
   have q1 : (n : Int) + (k : Int) < (n : Int) + 16 := by omega
   have q0 : (0 : Int) ≤ (n : Int) + (k : Int) := by omega
   have qn : ((n : Int) + (k : Int)).toNat = n + k := by omega
   have p0 : wr.cell? ⟨g, (n + k) * 3, none⟩ = some (.int .i64 (-77)) := by have := ((uh HK).cell hg0 id).trans (uh HM k hlt 0 (.int .i64 (-77)) rfl); simpa using this
   have p1 : wr.cell? ⟨g, (n + k) * 3 + 1, none⟩ = some (.int .i64 (k : Int)) := by have := ((uh HK).cell hg0 id).trans (uh HM k hlt 1 (.int .i64 (k : Int)) rfl); simpa using this
   have p2 : wr.cell? ⟨g, (n + k) * 3 + 2, none⟩ = some (.string ⟨#[115, 112, 97, 114, 101]⟩) := by have := ((uh HK).cell hg0 id).trans (uh HM k hlt 2 (.string ⟨#[115, 112, 97, 114, 101]⟩) rfl); simpa using this
   have HQ : Hid (∀ m : KW wr, Calls Tryz.prog 96 #[.int .i64 (k : Int)] m.wd fun e w' => e = .returned (.agg #[.int .i64 (-77), .int .i64 (k : Int), .string ⟨#[115, 112, 97, 114, 101]⟩]) ∧ ∃ m2 : KW wr, w' = m2.wd) := fun m => kw_of m (markV_v k m.wd)
   have r0 : ∀ m : KW wr, m.wd.cell? ⟨g, (n + k) * 3, none⟩ = some (.int .i64 (-77)) := fun m => (m.kept.cell (Nat.lt_of_lt_of_le hg0 (uh HK).size) id).trans p0
   have r1 : ∀ m : KW wr, m.wd.cell? ⟨g, (n + k) * 3 + 1, none⟩ = some (.int .i64 (k : Int)) := fun m => (m.kept.cell (Nat.lt_of_lt_of_le hg0 (uh HK).size) id).trans p1
   have r2 : ∀ m : KW wr, m.wd.cell? ⟨g, (n + k) * 3 + 2, none⟩ = some (.string ⟨#[115, 112, 97, 114, 101]⟩) := fun m => (m.kept.cell (Nat.lt_of_lt_of_le hg0 (uh HK).size) id).trans p2
   go_wp2_with fail
   refine region_kept (by kernel_rfl) (by kernel_rfl) ?_
   repeat (go_big_quiet_step ((go_at_call 96; exact uh HQ _)))
   refine wpQuiet_nil ?_
   rintro _ ⟨nq, rfl⟩
   go_wp2_with fail
   go_roundw
   case rel => exact ⟨k + 1, by omega, by go_num, (uh HK).trans nq.kept⟩
   case measure => simp [intOf]; omega
  ·obtain rfl : k = 16 := by omega
   go_wp2_with fail
   go_ret
   exact ⟨rfl, uh HK⟩
theorem spareSchema_v (w : World) (g n cap : Nat) (xs : List Value) (h : Wide w (.slice (some ⟨g, 0, none⟩) n cap) 3 n xs markF) (hn : n ≤ 1048576) :
  Calls Tryz.prog 59 #[.agg #[.slice (some ⟨g, 0, none⟩) n cap]] w fun e w' => e = .returned (.bool true) ∧ Keeps (fun _ => False) w w' := by
 have hkW := kAlloc w (.cells #[.slice (some ⟨g, 0, none⟩) n cap] 24)
 have g0 := heap_alloc_new w (.cells #[.slice (some ⟨g, 0, none⟩) n cap] 24)
 generalize hW : w.alloc (.cells #[.slice (some ⟨g, 0, none⟩) n cap] 24) = W at *
 have cc0 := cl1 g0
 have HWX := hide hkW
 have hs0 := lt_of_block g0
 replace h := h.keepF hkW
 clear g0 hkW
 obtain ⟨g', cap', cur, e, h1, h2, h3, h4, h5, h6⟩ := h
 simp only [Value.slice.injEq, Option.some.injEq, Addr.mk.injEq, and_true, true_and] at h1
 obtain ⟨rfl, rfl⟩ := h1
 have HM : Hid (∀ i, i < 16 → ∀ j x, (markF i)[j]? = some x → W.cell? ⟨g, (n + i) * 3 + j, none⟩ = some x) := fun i hi j x hx => Wide.mark h4 h5 h6 (fun _ => rfl) hi hx
 have hg0 := lt_of_block h4
 have b1 : (n : Int) + 16 ≤ (cap : Int) := by omega
 have b2 : n + 16 ≤ cap := h2
 have b0 : (0 : Int) ≤ (n : Int) := by omega
 clear h4 h5 h6 h2 h3
 go_enter Tryz.func59, Tryz.ntmps59
 go_wp2_with fail
 go_loopw [5] (fun i wr => ∃ k : Nat, k ≤ 16 ∧ i = .int .i64 (k : Int) ∧ Hid (Keeps (fun _ => False) W wr)) (fun i _ => 16 - (intOf i).toNat)
 case atStart => exact ⟨0, by omega, rfl, Keeps.refl _ _⟩
 case round =>
  obtain ⟨k, hk, rfl, HK⟩ := hrel
  by_cases hlt : k < 16
  ·have i1 : (k : Int) < 16 := by omega
   have i0' : (0 : Int) ≤ (k : Int) := by omega
   have q1 : (n : Int) + (k : Int) < (n : Int) + 16 := by omega
   have q0 : (0 : Int) ≤ (n : Int) + (k : Int) := by omega
   have qn : ((n : Int) + (k : Int)).toNat = n + k := by omega
   have p0 : wr.cell? ⟨g, (n + k) * 3, none⟩ = some (.string ⟨#[115, 112, 97, 114, 101]⟩) := by have := ((uh HK).cell hg0 id).trans (uh HM k hlt 0 (.string ⟨#[115, 112, 97, 114, 101]⟩) rfl); simpa using this
   have p1 : wr.cell? ⟨g, (n + k) * 3 + 1, none⟩ = some (.int .i64 (-77 - (k : Int))) := by have := ((uh HK).cell hg0 id).trans (uh HM k hlt 1 (.int .i64 (-77 - (k : Int))) rfl); simpa using this
   have p2 : wr.cell? ⟨g, (n + k) * 3 + 2, none⟩ = some (.bool false) := by have := ((uh HK).cell hg0 id).trans (uh HM k hlt 2 (.bool false) rfl); simpa using this
   have pc := ((uh HK).cell hs0 id).trans cc0
   go_wp2_with fail
   go_roundw
   case rel => exact ⟨k + 1, by omega, by go_num, uh HK⟩
   case measure => simp [intOf]; omega
  ·obtain rfl : k = 16 := by omega
   go_wp2_with fail
   go_ret
   exact ⟨rfl, (uh HWX).trans (uh HK)⟩
end Go.Proofs.YtiinohibmcefkaaGreatDoor
namespace Go.Proofs.YtiinohibmcefkaaGreatDoor
open Go.RowKit Go.Maps
def markE (i : Nat) : List Value := [.int .i64 (-77 - (i : Int)), .int .i64 0, str spareT, .slice none 0 0]
def MarksE (w : World) (g o : Nat) : Prop := ∀ j x, (marksW markE 16)[j]? = some x → w.cell? ⟨g, o + j, none⟩ = some x
def WdIn (A : Nat → Prop) (w : World) : EL → Nat → Nat → Prop
 | .nil, _, _ => True
 | .cons op n s kids rest, b, o =>
  b < w.heap.size ∧ A b ∧ w.cell? ⟨b, o, none⟩ = some (.int .i64 op) ∧ w.cell? ⟨b, o + 1, none⟩ = some (.int .i64 n) ∧ w.cell? ⟨b, o + 2, none⟩ = some (str s) ∧
   (∃ g cap, w.cell? ⟨b, o + 3, none⟩ = some (.slice (some ⟨g, 0, none⟩) kids.len cap) ∧ kids.len + 16 ≤ cap ∧ g < w.heap.size ∧ A g ∧ MarksE w g (kids.len * 4) ∧ WdIn A w kids g 0) ∧ WdIn A w rest b (o + 4)
def WdSl (A : Nat → Prop) (w : World) (v : Value) (l : EL) : Prop := ∃ g cap, v = .slice (some ⟨g, 0, none⟩) l.len cap ∧ l.len + 16 ≤ cap ∧ g < w.heap.size ∧ A g ∧ MarksE w g (l.len * 4) ∧ WdIn A w l g 0
section
variable {A B F : Nat → Prop} {w w' : World}
theorem MarksE.keep {g o : Nat} (h : MarksE w g o) (hk : Keeps F w w') (hg : g < w.heap.size) (hF : ¬ F g) : MarksE w' g o := fun j x hx => (hk.cell hg hF).trans (h j x hx)
theorem WdIn.keep (hk : Keeps F w w') (hF : ∀ k, k < w.heap.size → A k → ¬ F k) : ∀ {l : EL} {b o : Nat}, WdIn A w l b o → WdIn A w' l b o
 | .nil, _, _, _ => trivial
 | .cons _ _ _ _ _, _, _, ⟨h1, h2, h3, h4, h5, ⟨g, cap, h6, h7, h8, h9, h10, h11⟩, h12⟩ => by
  have hf := hF _ h1 h2
  exact ⟨Nat.lt_of_lt_of_le h1 hk.size, h2, (hk.cell h1 hf).trans h3, (hk.cell h1 hf).trans h4, (hk.cell h1 hf).trans h5, ⟨g, cap, (hk.cell h1 hf).trans h6, h7, Nat.lt_of_lt_of_le h8 hk.size, h9, h10.keep hk h8 (hF _ h8 h9), h11.keep hk hF⟩, h12.keep hk hF⟩
theorem WdIn.mono (hAB : ∀ k, k < w.heap.size → A k → B k) : ∀ {l : EL} {b o : Nat}, WdIn A w l b o → WdIn B w l b o
 | .nil, _, _, _ => trivial
 | .cons _ _ _ _ _, _, _, ⟨h1, h2, h3, h4, h5, ⟨g, cap, h6, h7, h8, h9, h10, h11⟩, h12⟩ => ⟨h1, hAB _ h1 h2, h3, h4, h5, ⟨g, cap, h6, h7, h8, hAB _ h8 h9, h10, h11.mono hAB⟩, h12.mono hAB⟩
theorem WdSl.keep {v : Value} {l : EL} (h : WdSl A w v l) (hk : Keeps F w w') (hF : ∀ k, k < w.heap.size → A k → ¬ F k) : WdSl A w' v l := by
 obtain ⟨g, cap, e, h1, h2, h3, h4, h5⟩ := h
 exact ⟨g, cap, e, h1, Nat.lt_of_lt_of_le h2 hk.size, h3, h4.keep hk h2 (hF _ h2 h3), h5.keep hk hF⟩
theorem WdSl.keepF {v : Value} {l : EL} (h : WdSl A w v l) (hk : Keeps (fun _ => False) w w') : WdSl A w' v l := h.keep hk (fun _ _ _ => id)
theorem WdSl.mono {v : Value} {l : EL} (h : WdSl A w v l) (hAB : ∀ k, k < w.heap.size → A k → B k) : WdSl B w v l := by
 obtain ⟨g, cap, e, h1, h2, h3, h4, h5⟩ := h
 exact ⟨g, cap, e, h1, h2, hAB _ h2 h3, h4, h5.mono hAB⟩
theorem WdIn.exIn : ∀ {l : EL} {b o : Nat}, WdIn A w l b o → ExIn (inZ A) w l b o
 | .nil, _, _, _ => trivial
 | .cons _ _ _ _ _, _, _, ⟨h1, h2, h3, h4, h5, ⟨g, cap, h6, h7, h8, h9, h10, h11⟩, h12⟩ => ⟨h1, h2, h3, h4, h5, ⟨some ⟨g, 0, none⟩, cap, h6, by omega, fun _ => ⟨g, 0, rfl, trivial, h11.exIn⟩⟩, h12.exIn⟩
theorem WdSl.slE {v : Value} {l : EL} (h : WdSl A w v l) (up : Nat) : SlE (inZ A) w up v l := by
 obtain ⟨g, cap, e, h1, _, _, _, h5⟩ := h
 exact ⟨some ⟨g, 0, none⟩, cap, e, by omega, fun _ => ⟨g, 0, rfl, trivial, h5.exIn⟩⟩
end
def WsIn (A : Nat → Prop) (w : World) : EL → List Value → Prop
 | .nil, xs => xs = []
 | .cons op n s kids rest, xs => ∃ kv xs', xs = .int .i64 op :: .int .i64 n :: str s :: kv :: xs' ∧ WdSl A w kv kids ∧ WsIn A w rest xs'
theorem WsIn.keep {A F : Nat → Prop} {w w' : World} (hk : Keeps F w w') (hF : ∀ k, k < w.heap.size → A k → ¬ F k) : ∀ {l : EL} {xs : List Value}, WsIn A w l xs → WsIn A w' l xs
 | .nil, _, h => h
 | .cons _ _ _ _ _, _, ⟨kv, xs', e, h1, h2⟩ => ⟨kv, xs', e, h1.keep hk hF, h2.keep hk hF⟩
theorem WsIn.mono {A B : Nat → Prop} {w : World} (hAB : ∀ k, k < w.heap.size → A k → B k) : ∀ {l : EL} {xs : List Value}, WsIn A w l xs → WsIn B w l xs
 | .nil, _, h => h
 | .cons _ _ _ _ _, _, ⟨kv, xs', e, h1, h2⟩ => ⟨kv, xs', e, h1.mono hAB, h2.mono hAB⟩
theorem WsIn.snoc {A : Nat → Prop} {w : World} {op n : Int} {s : Txt} {kids : EL} {kv : Value} (hk : WdSl A w kv kids) : ∀ {l : EL} {xs : List Value}, WsIn A w l xs → WsIn A w (l.app (.cons op n s kids .nil)) (xs ++ [.int .i64 op, .int .i64 n, str s, kv])
 | .nil, _, h => by
  have h' : _ = _ := h
  subst h'
  exact ⟨kv, [], rfl, hk, rfl⟩
 | .cons _ _ _ _ _, _, ⟨kv', xs', e, h1, h2⟩ => ⟨kv', xs' ++ [.int .i64 op, .int .i64 n, str s, kv], by rw [e]; rfl, h1, h2.snoc hk⟩
theorem WsIn.length {A : Nat → Prop} {w : World} : ∀ {l : EL} {xs : List Value}, WsIn A w l xs → xs.length = l.len * 4
 | .nil, _, h => by have h' : _ = _ := h; subst h'; rfl
 | .cons _ _ _ _ r, _, ⟨kv, xs', e, _, h⟩ => by have := WsIn.length h; subst e; simp [EL.len, this]; omega
theorem WsIn.wdIn {A B : Nat → Prop} {w : World} {b : Nat} (hb : b < w.heap.size) (hB : B b) (hAB : ∀ k, k < w.heap.size → A k → B k) : ∀ {l : EL} {xs : List Value} {o : Nat}, WsIn A w l xs → (∀ j x, xs[j]? = some x → w.cell? ⟨b, o + j, none⟩ = some x) → WdIn B w l b o
 | .nil, _, _, _, _ => trivial
 | .cons _ _ _ _ _, _, o, ⟨kv, xs', e, h1, h2⟩, hc => by
  subst e
  obtain ⟨g, cap, ek, hcap, hg, hA, hm, hi⟩ := h1.mono hAB
  refine ⟨hb, hB, hc 0 _ rfl, hc 1 _ rfl, hc 2 _ rfl, ⟨g, cap, by rw [← ek]; exact hc 3 _ rfl, hcap, hg, hA, hm, hi⟩, WsIn.wdIn hb hB hAB h2 (fun j x hx => ?_)⟩
  rw [show o + 4 + j = o + (j + 4) by omega]
  exact hc (j + 4) x (by simpa using hx)
end Go.Proofs.YtiinohibmcefkaaGreatDoor
