import Derived.Test.YtiinohibmcefkaaGreatDoorJzah
import Derived.Test.YtiinohibmcefkaaGreatDoorJzag
import Derived.Deep.AppendLies
import Derived.Deep.DeepCutAuto
namespace Go.Proofs.YtiinohibmcefkaaGreatDoor
open Go.RowKit Go.Maps

theorem valsP_app (S : List FieldA) (h : Bool) (vals : List ValA) : ∀ l m : EL, valsP S h vals (l.app m) = valsP S h vals l ++ valsP S h vals m
  | .nil, _ => rfl
  | .cons op n s k r, m => by rw [EL.app, valsP_cons, valsP_cons, valsP_app S h vals r m]; rfl
theorem vcs_app (l m : List ValA) : vcs (l ++ m) = vcs l ++ vcs m := by simp [vcs]
/-- What Worth is to give. -/
def WorthAt (S : List FieldA) (h : Bool) (vals : List ValA) (sv u : Value) (N : Nat) : Prop := ∀ (kids : EL), kids.size < N → ∀ (op n : Int) (s : Txt) (Z : Zone) (up : Nat) (xv : Value) (w : World), rootB op n s kids.len = true → wellE kids = true → (kindP S op s kids).2 = 0 → FldsAt w sv S → ValsAt w u vals → SlE Z w up xv kids →
  Calls Tryz.prog 54 #[.agg #[sv], exV op n s xv, .agg #[.bool h, u]] w fun e w' => e = .returned (nodeV S op n s kids h vals).v ∧ Keeps (fun _ => False) w w'
theorem kinds_cons {S : List FieldA} {op n : Int} {s : Txt} {kids rest : EL} (h : (kindsP S (.cons op n s kids rest)).2 = 0) : (kindP S op s kids).2 = 0 ∧ (kindsP S rest).2 = 0 := by
  have := kinds_el (e := ⟨op, n, s, kids⟩) (r := rest) h
  exact ⟨this.1, this.2.1⟩
set_option maxRecDepth 100000 in
set_option maxHeartbeats 8000000 in
theorem rworthN_v (S : List FieldA) (hS : schemaB S = true) (h : Bool) (vals : List ValA) (hrow : rowE S h vals = 0) (so uo : Option Addr) (sc uc : Nat) (N : Nat) (ih : WorthAt S h vals (.slice so S.length sc) (.slice uo vals.length uc) N) (kids : EL) (hsz : kids.size < N + 1) (o : Nat) (h7 : 7 ≤ o) (h25 : o ≤ 25) (n : Int) (s : Txt) (Z : Zone) (up : Nat) (xv : Value) (w : World) (hb : rootB o n s kids.len = true) (hw : wellE kids = true) (hk0 : (kindP S o s kids).2 = 0) (hfl : FldsAt w (.slice so S.length sc) S) (hva : ValsAt w (.slice uo vals.length uc) vals) (hx : SlE Z w up xv kids) :
    Calls Tryz.prog 54 #[.agg #[(.slice so S.length sc)], exV o n s xv, .agg #[.bool h, (.slice uo vals.length uc)]] w fun e w' => e = .returned (opV o (valsP S h vals kids)).v ∧ Keeps (fun _ => False) w w' := by
  obtain ⟨hks, hkr⟩ := kind_rule hk0
  have hrule : (ruleP S o s (kindsP S kids).1).2 = 0 := by rw [← hkr]; exact hk0
  have hlen : (kids.len : Int) = kidsB o := by
    unfold rootB at hb
    simp only [Bool.and_eq_true, decide_eq_true_eq] at hb
    exact hb.2.1
  have hl3 : kids.len ≤ 3 := by
    have : kidsB (o : Int) ≤ 3 := by
      unfold kidsB
      repeat' split
      all_goals omega
    omega
  have hfit := vals_fit hS (rowE_fit hrow) kids hw hks
  have hshort := valsP_short (rowE_rw hrow) kids hw
  have HOF := hide (fun (W' : World) (kv : Value) (q : ValsAt W' kv (valsP S h vals kids)) => of_v S o s h7 h25 hfit ((by rw [hfit.len, valsP_len]; exact hlen)) hrule hshort kv W' q)
  obtain ⟨xo, xc, pb, poff, rfl, hxc, hpa, hpx⟩ := hx.open
  obtain ⟨i0, hi, hz0, hz1, hz2⟩ := info_parts Tryz.info41
  obtain ⟨W, hW, hkW, g0, g1, g2, g3⟩ := boxA4 w #[(.slice so S.length sc)] #[.int .i64 o, .int .i64 n, str s, .slice xo kids.len xc] #[.bool h, (.slice uo vals.length uc)] #[.int .i64 0, .int .i64 0, .string ⟨#[]⟩] 24 27 31 41
  have HKW := hide hkW
  have HG := hide g3
  obtain ⟨c0, c1, c2, c3⟩ := cl4 g1
  have H0 := hide (fun (W' : World) (hk : Keeps (fun _ => False) W W') => (hk.block _ (lt_of_block g0) id).trans g0)
  have H1 := hide (fun (W' : World) (hk : Keeps (fun _ => False) W W') => (hk.block _ (lt_of_block g1) id).trans g1)
  have H2 := hide (fun (W' : World) (hk : Keeps (fun _ => False) W W') => (hk.block _ (lt_of_block g2) id).trans g2)
  have H3 := hide (fun (W' : World) (hk : Keeps (fun _ => False) W W') => (hk.block _ (lt_of_block g3) id).trans g3)
  have HKX := hide (Keeps.refl (fun _ => False) W)
  have HFL := hide hfl
  have HVA := hide hva
  have HPX := hide hpx
  have HPA := hide hpa
  have HIH0 := hide ih
  have HWL := hide hw
  have HKS := hide hks
  have HSZ := hide hsz
  have n1 : ((o : Int) == 1) = false := by simp; omega
  have n2 : ((o : Int) == 2) = false := by simp; omega
  have n3 : ((o : Int) == 3) = false := by simp; omega
  have n4 : ((o : Int) == 4) = false := by simp; omega
  have n5 : ((o : Int) == 5) = false := by simp; omega
  have n6 : ((o : Int) == 6) = false := by simp; omega
  clear g0 g1 g2 g3 hkW hfl hva hpx hpa ih hw hks hk0 hb hrow hS hkr hrule hfit hshort hsz hx hlen HKX h7 h25
  generalize hoo : (o : Int) = oo at *
  clear hoo
  go_enter Tryz.func54, Tryz.ntmps54
  go_wp2_with fail
  go_loopw [8, 9] (fun ov i wr => ∃ (pre rest : EL) (k : Nat), i = .int .i64 k ∧ kids = pre.app rest ∧ k = pre.len ∧ wr.ownsRow W.heap.size 41 3 ov k (vcs (valsP S h vals pre)) ∧ Keeps (fun _ => False) W wr ∧ ExIn Z w rest pb (poff + k * 4) ∧ wellE rest = true ∧ (kindsP S rest).2 = 0 ∧ rest.size < N + 1) (fun _ i _ => kids.len - (intOf i).toNat)
  case atStart => exact ⟨.nil, kids, 0, rfl, rfl, rfl, by simpa [vcs, valsP] using World.ownsRow_nil W W.heap.size 41 3, Keeps.refl _ _, by simpa using unhide HPX, unhide HWL, unhide HKS, unhide HSZ⟩
  case round =>
    obtain ⟨pre, rest, k, rfl, happ, hkp, hown, hkeep, hr, hwr, hkk, hrs⟩ := hrel
    obtain ⟨oo2, oc, rfl⟩ := (rowAt_own hown).form
    have hll := congrArg EL.len happ
    rw [EL.lenApp] at hll
    have HO := hide hown
    have HK := hide hkeep
    have HKw := hide ((unhide HKW).trans hkeep)
    cases rest with
    | cons op2 n2' s2 kids2 rest =>
      obtain ⟨h1, h2, h3, h4, h5, ⟨xao, xcap, h6, h7', h8⟩, h9⟩ := hr
      simp only [EL.len] at hll
      obtain ⟨rfl, hp'⟩ := (unhide HPA) (by omega)
      simp only [wellE, Bool.and_eq_true] at hwr
      obtain ⟨kk1, kk2⟩ := kinds_cons hkk
      have HC := hide (fun (W' : World) (hk : Keeps (fun _ => False) wr W') => (⟨((((unhide HKw).trans hk).cell h1 id).trans h3), ((((unhide HKw).trans hk).cell h1 id).trans h4), ((((unhide HKw).trans hk).cell h1 id).trans h5), ((((unhide HKw).trans hk).cell h1 id).trans h6)⟩ : W'.cell? ⟨pb, poff + k * 4, none⟩ = some (.int .i64 op2) ∧ W'.cell? ⟨pb, poff + k * 4 + 1, none⟩ = some (.int .i64 n2') ∧ W'.cell? ⟨pb, poff + k * 4 + 2, none⟩ = some (str s2) ∧ W'.cell? ⟨pb, poff + k * 4 + 3, none⟩ = some (.slice xao kids2.len xcap)))
      have hsl : SlE Z w pb (.slice xao kids2.len xcap) kids2 := ⟨xao, xcap, rfl, h7', h8⟩
      have HIH := hide (fun (W' : World) (hk : Keeps (fun _ => False) wr W') => unhide HIH0 kids2 (by simp only [EL.size] at hrs; omega) op2 n2' s2 Z pb (.slice xao kids2.len xcap) W' hwr.1 hwr.2.1 kk1 ((unhide HFL).keepF ((unhide HKw).trans hk)) ((unhide HVA).keepF ((unhide HKw).trans hk)) (hsl.keepF ((unhide HKw).trans hk)))
      have HLT : Hid (k < kids.len) := hide (by omega)
      have HREST := hide h9
      have HW2 := hide hwr.2.2
      have HK2 := hide kk2
      have HRS : Hid (rest.size < N + 1) := hide (by simp only [EL.size] at hrs; omega)
      have HAPP := hide happ
      have HKP := hide hkp
      have HKX := hide (Keeps.refl (fun _ => False) wr)
      have i1 : (k : Int) < (kids.len : Int) := by omega
      have c3' := (cell_of_blk (unhide H1 wr hkeep) 3).trans rfl
      have hkb : k ≤ 1000 := by omega
      clear hown hkeep h1 h2 h3 h4 h5 h6 h8 h9 hsl hwr hkk kk1 kk2 hrs happ hkp hp'
      go_upto_region 19 with fail
      rename_i Q0 K0 hc0
      refine wp_region_last (X := wr) (by kernel_rfl) 9 rfl _ rfl rfl (by decide) (by kernel_rfl) [67, 68, 69, 70, 71, 72, 73, 74, 10] (by decide) rfl (by first | rfl | kernel_rfl | simp [opsB]) (unhide HKX) (fun i v W1 => match i with | 0 => v = .agg #[(.slice so S.length sc)] | 1 => v = .pointer (some ⟨w.heap.size + 1, 0 + 3, none⟩) | 2 => v = .slice (some ⟨pb, poff, none⟩) kids.len xc | 3 => v = .int .i64 (k : Int) | 4 => v = .pointer (some ⟨pb, poff + k * 4, none⟩) | 5 => v = .agg #[.int .i64 op2, .int .i64 n2', str s2, .slice xao kids2.len xcap] | 6 => v = .agg #[.bool h, (.slice uo vals.length uc)] | 7 => v = (nodeV S op2 n2' s2 kids2 h vals).v | 8 => isB41 wr.heap.size W1 v | _ => True) ?_ ?_ ?_
      · intro i v w1 w2 hq hk
        rcases i with _ | _ | _ | _ | _ | _ | _ | _ | _ | i
        all_goals first | exact hq | exact isB41.keep hq hk
      · intro i o A W1 him ho hs hk hd K' hK
        rcases i with _ | _ | _ | _ | _ | _ | _ | _ | _ | i
        · obtain rfl := Option.some.inj ho
          exact step_load24 rfl ((hs.at rfl 3 (by decide)).trans rfl) (unhide H0 W1 ((unhide HK).trans hk)) (hK _ _ rfl (Keeps.refl _ _))
        · obtain rfl := Option.some.inj ho
          exact step_fieldE3 rfl ((hs.at rfl 4 (by decide)).trans rfl) (hK _ _ rfl (Keeps.refl _ _))
        · obtain rfl := Option.some.inj ho
          exact step_load25 rfl (hd ⟨1, .data⟩ (by simp) rfl) ((cell_of_blk (unhide H1 W1 ((unhide HK).trans hk)) _).trans rfl) (hK _ _ rfl (Keeps.refl _ _))
        · obtain rfl := Option.some.inj ho
          exact step_move rfl ((hs.at rfl 9 (by decide)).trans rfl) (hK _ _ rfl (Keeps.refl _ _))
        · obtain rfl := Option.some.inj ho
          exact step_indexE rfl (hd ⟨2, .data⟩ (by simp) rfl) (hd ⟨3, .data⟩ (by simp) rfl) (unhide HLT) (hK _ _ rfl (Keeps.refl _ _))
        · obtain rfl := Option.some.inj ho
          exact step_loadE rfl (hd ⟨4, .data⟩ (by simp) rfl) ((unhide HC W1 hk).1) ((unhide HC W1 hk).2.1) ((unhide HC W1 hk).2.2.1) ((unhide HC W1 hk).2.2.2) (hK _ _ rfl (Keeps.refl _ _))
        · obtain rfl := Option.some.inj ho
          exact step_load31 rfl ((hs.at rfl 5 (by decide)).trans rfl) (unhide H2 W1 ((unhide HK).trans hk)) (hK _ _ rfl (Keeps.refl _ _))
        · obtain rfl := Option.some.inj ho
          exact step_c54 rfl (hd ⟨0, .data⟩ (by simp) rfl) (hd ⟨5, .data⟩ (by simp) rfl) (hd ⟨6, .data⟩ (by simp) rfl) (unhide HIH W1 hk) (fun _ q => hK _ _ rfl q)
        · obtain rfl := Option.some.inj ho
          exact step_alloc41 rfl hk.size (fun v' w' h1 h2 => hK v' w' h1 h2)
        · omega
      · intro A V hs hk hall K' hK
        have hl : A.tmps.getD 74 undef = (nodeV S op2 n2' s2 kids2 h vals).v := hall 7 (by decide)
        have hbx : isB41 wr.heap.size V (A.tmps.getD 10 undef) := hall 8 (by decide)
        refine step_store41 (X := wr) (x := nodeV S op2 n2' s2 kids2 h vals) rfl rfl rfl hl hbx rfl hk ?_
        intro gg V2 hp hg hgb hkV
        refine hK _ _ (hc0 _ _ ?_)
        have v0 : A.tmps.getD 67 undef = .agg #[(.slice so S.length sc)] := hall 0 (by decide)
        have v1 : A.tmps.getD 68 undef = .pointer (some ⟨w.heap.size + 1, 0 + 3, none⟩) := hall 1 (by decide)
        have v2 : A.tmps.getD 69 undef = .slice (some ⟨pb, poff, none⟩) kids.len xc := hall 2 (by decide)
        have v3 : A.tmps.getD 70 undef = .int .i64 (k : Int) := hall 3 (by decide)
        have v4 : A.tmps.getD 71 undef = .pointer (some ⟨pb, poff + k * 4, none⟩) := hall 4 (by decide)
        have v5 : A.tmps.getD 72 undef = .agg #[.int .i64 op2, .int .i64 n2', str s2, .slice xao kids2.len xcap] := hall 5 (by decide)
        have v6 : A.tmps.getD 73 undef = .agg #[.bool h, (.slice uo vals.length uc)] := hall 6 (by decide)
        have hA := same_fold hs rfl
        simp only [List.foldl_cons, List.foldl_nil, v0, v1, v2, v3, v4, v5, v6, hl, hp] at hA
        simp only [Act.put, List.setIfInBounds_toArray, List.set_cons_zero, List.set_cons_succ] at hA
        rw [hA]
        obtain ⟨b0, b1, b2⟩ := cl3 hgb
        have HKV := hide hkV
        have HOV := hide (ownsRow_kept (unhide HO) hkV (fun _ _ => id))
        generalize hxx : nodeV S op2 n2' s2 kids2 h vals = x at *
        have HXX := hide hxx
        clear hs hk hall hl hbx hK hp hg hgb hkV v0 v1 v2 v3 v4 v5 v6 hA hxx c0 c1 c2 c3 c3'
        go_wp2_with (at_builtin; refine wpList_append_lies _ rfl _ _ _ rfl W.heap.size 41 i0 _ 3 32 Tryz.underlying29 hi hz0 hz1 hz2 rfl (by omega) (.slice oo2 k oc) k (vcs (valsP S h vals pre)) rfl ((unhide HOV).alloc _) ⟨V2.heap.size, 0, none⟩ 1 1 x.cs rfl rfl (World.news_of_block (cs := #[.int .i64 x.kind, .int .i64 x.n, str x.s]) (t := 41) (fr := (0, 0)) (heap_alloc_new V2 _)) (by simp [Value.oneCell', ValA.cs]) (by omega) (by unfold maxLen; omega) (by omega) (by have := ((unhide HK).trans (unhide HKV)).size; simp; omega) (V2.heap.size + 1) (by simp) ?_; intro gq capq w1 hown1 hgrow hat hlt1)
        go_roundw
        case rel =>
          refine ⟨pre.app (.cons op2 n2' s2 kids2 .nil), rest, k + 1, by go_num, by rw [app_oneX]; exact unhide HAPP, by rw [EL.lenApp, unhide HKP]; rfl, ?_, (((unhide HK).trans (unhide HKV)).alloc _).grown hgrow (fun q e hq => by have := ((unhide HOV).lt q e).1; omega), ?_, unhide HW2, unhide HK2, unhide HRS⟩
          · rw [valsP_app, valsP_cons, unhide HXX, vcs_app]
            simpa [vcs, valsP] using hown1
          · rw [show poff + (k + 1) * 4 = poff + k * 4 + 4 by omega]
            exact unhide HREST
        case measure => simp [intOf]; omega
    | nil =>
      rw [EL.appNil] at happ
      subst happ
      simp only [EL.len, Nat.add_zero] at hll
      have i1 : ¬ (k : Int) < (kids.len : Int) := by omega
      have hv : ValsAt wr (.slice oo2 k oc) (valsP S h vals kids) := by
        have e : (valsP S h vals kids).length = k := by rw [valsP_len]; omega
        unfold ValsAt
        rw [e]
        exact rowAt_own hown
      have HCO := hide (unhide HOF wr _ hv)
      have c0' := (cell_of_blk (unhide H1 wr hkeep) 0).trans rfl
      have c3' := (cell_of_blk (unhide H1 wr hkeep) 3).trans rfl
      have HG2 := hide (unhide H3 wr hkeep)
      clear hown hkeep hr hwr hkk hrs hkp hv hll HOF c0 c1 c2 c3
      generalize hxx : opV oo (valsP S h vals kids) = x at *
      have HXX := hide hxx
      clear hxx
      go_wp2_with fail
      refine (unhide HCO).mono ?_
      rintro e w1 ⟨rfl, hk1⟩
      obtain ⟨z0, z1, z2, y0, y1, y2, s0, s1, s2⟩ := res_facts (unhide HG2) hk1 x
      have HKF := hide (((unhide HKw).trans hk1).fresh (by omega) (keeps_set3 w1 (w.heap.size + 1 + 1 + 1) (.int .i64 x.kind) (.int .i64 x.n) (str x.s)))
      unfold ValA.v
      clear hk1
      go_wp2_with fail
      refine bodyPost_ret (v := .agg #[.int .i64 x.kind, .int .i64 x.n, str x.s]) (by simp [results, go_sem, s0, s1, s2]) rfl ?_
      exact ⟨by rw [unhide HXX]; rfl, unhide HKF⟩
/-- The document's worth of an expression that fits, on a row that fits. -/
theorem rworth_v (S : List FieldA) (hS : schemaB S = true) (h : Bool) (vals : List ValA) (hrow : rowE S h vals = 0) (so uo : Option Addr) (sc uc : Nat) : ∀ N, WorthAt S h vals (.slice so S.length sc) (.slice uo vals.length uc) N
  | 0 => fun kids hsz => by omega
  | N + 1 => fun kids hsz op n s Z up xv w hb hw hk hfl hva hx => by
    have ih := rworth_v S hS h vals hrow so uo sc uc N
    obtain ⟨xo, xc, rfl, _⟩ := hx.head
    have hop : 1 ≤ op ∧ op ≤ 25 := by
      unfold rootB kidsB at hb
      simp only [Bool.and_eq_true, decide_eq_true_eq] at hb
      have := hb.1
      repeat' split at this
      all_goals omega
    by_cases h6 : op ≤ 6
    · have hrw := rowE_rw hrow
      have hn : nodeV S op n s kids h vals = leafV S h vals op n s := by unfold nodeV; rw [if_pos h6]
      rw [hn]
      have hru := (kind_rule hk).2
      rcases (show op = 1 ∨ op = 2 ∨ op = 3 ∨ op = 4 ∨ op = 5 ∨ op = 6 by omega) with rfl | rfl | rfl | rfl | rfl | rfl
      · exact rworth1_v S h vals n s kids so uo xo sc uc xc w
      · exact rworth2_v S h vals n s kids so uo xo sc uc xc w
      · exact rworth3_v S h vals n s kids so uo xo sc uc xc w
      · have h0 : (namedK S s).2 = 0 := by have := hk; rw [hru] at this; exact this
        obtain ⟨fd, hfd, _⟩ := named_some h0
        exact rworth4_v S h vals n s kids so uo xo sc uc xc w hS fd hfd hrw hfl hva
      · have h0 : (hasK S s).2 = 0 := by have := hk; rw [hru] at this; exact this
        obtain ⟨h1, h2⟩ := orI_zero h0
        obtain ⟨fd, hfd, hnk⟩ := named_some h1
        have hopt : fd.opt = true := by
          rw [hnk] at h2
          unfold optI at h2
          cases e : fd.opt with
          | true => rfl
          | false => simp [e] at h2
        have e : leafV S h vals 5 n s = truV (h && !decide ((fieldV S h vals s).kind = 0)) := by
          show truV (!decide ((fieldV S h vals s).kind = 0)) = _
          cases h with
          | true => rfl
          | false =>
            have : fieldV S false vals s = zeroV fd := by unfold fieldV; simp [zeros_at (find_idx hfd)]
            rw [this]
            simp [zeroV, hopt]
        rw [e]
        exact rworth5_v S h vals n s kids so uo xo sc uc xc w hS fd hfd hrw hfl hva
      · exact rworth6_v S h vals n s kids so uo xo sc uc xc w
    · have hn : nodeV S op n s kids h vals = opV op (valsP S h vals kids) := by unfold nodeV; rw [if_neg h6]
      rw [hn]
      obtain ⟨o, rfl⟩ : ∃ o : Nat, op = o := ⟨op.toNat, by omega⟩
      exact rworthN_v S hS h vals hrow so uo sc uc N ih kids hsz o (by omega) (by omega) n s Z up _ w hb hw hk hfl hva hx

end Go.Proofs.YtiinohibmcefkaaGreatDoor
