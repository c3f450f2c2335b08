import Derived.Test.YtiinohibmcefkaaGreatDoorJal
import Derived.Test.YtiinohibmcefkaaGreatDoorJaj
namespace Go.Proofs.YtiinohibmcefkaaGreatDoor
open Go.RowKit Go.Maps

theorem app_oneS (pre : SL) (op : Int) (f : Txt) (x : EL) (t e rest : SL) : (pre.app (.cons op f x t e .nil)).app rest = pre.app (.cons op f x t e rest) := by rw [SL.app_assoc]; rfl
theorem flat_snoc (pre : SL) (op : Int) (f : Txt) (x : EL) (t e : SL) : flatS (pre.app (.cons op f x t e .nil)) = (((flatS pre).app (.cons op f x t e .nil)).app (flatS t)).app (flatS e) := by
  rw [flatS_app]
  simp only [flatS, SL.app_nil, SL.app_assoc, SL.app]
/-- What the list of a program's statements is. -/
def NPost (B : Nat) (l : SL) (w : World) (e : Ending) (w' : World) : Prop := ∃ (ao : Option Addr) (c n : Nat) (xs : List Value), e = .returned (.slice ao n c) ∧ n = (flatS l).len ∧ w'.ownsRow w.heap.size 39 5 (.slice ao n c) n xs ∧ SsIn (argZ B) w' (flatS l) xs ∧ Keeps (fun _ => False) w w'

set_option maxRecDepth 100000 in
set_option maxHeartbeats 8000000 in
theorem numbered_v (B : Nat) (N : Nat) : ∀ (l : SL), l.size < N → l.size ≤ 4294967294 → ∀ (w : World) (up : Nat) (v : Value), B ≤ w.heap.size → SlS (argZ B) w up v l → Calls Tryz.prog 45 #[v] w (NPost B l w) := by
  induction N with
  | zero => intro l h; omega
  | succ N ih =>
    intro l hsz hlen' w up v hB hS
    have hlen : l.len ≤ 4294967294 := by have := SL.len_le l; omega
    obtain ⟨ao, cap, b, off, rfl, hcap, ha, hx⟩ := hS.open
    obtain ⟨i0, hi, hz0, hz1, hz2⟩ := info_parts Tryz.info39
    have IH := hide ih
    have HX := hide hx
    have HA := hide ha
    clear hS ih hx ha
    go_enter Tryz.func45, Tryz.ntmps45
    go_wp2_with fail
    go_loopw [3, 8] (fun o i wr => ∃ (pre rest : SL) (k n : Nat) (xs : List Value), i = .int .i64 k ∧ l = pre.app rest ∧ k = pre.len ∧ n = (flatS pre).len ∧ wr.ownsRow w.heap.size 39 5 o n xs ∧ SsIn (argZ B) wr (flatS pre) xs ∧ Keeps (fun _ => False) w wr ∧ StIn (argZ B) w rest b (off + k * 5)) (fun _ i _ => l.len - (intOf i).toNat)
    case atStart => exact ⟨.nil, l, 0, 0, [], rfl, rfl, rfl, rfl, World.ownsRow_nil w w.heap.size 39 5, rfl, Keeps.refl _ _, by simpa using unhide HX⟩
    case round =>
      obtain ⟨pre, rest, k, n, xs, rfl, happ, hkp, hnp, hown, hss, hkeep, hr⟩ := hrel
      obtain ⟨oo, oc, rfl⟩ := (rowAt_own hown).form
      have hll := congrArg SL.len happ
      have hls := congrArg SL.size happ
      rw [SL.len_app] at hll
      rw [SL.size_app] at hls
      have hcp : n ≤ pre.size := by rw [hnp, flatS_len]; exact countS_le pre
      have HO := hide hown
      have HSS := hide hss
      have HK := hide hkeep
      have HAPP := hide happ
      have HNP := hide hnp
      cases rest with
      | nil =>
        rw [SL.app_nil] at happ
        subst happ
        simp only [SL.len, SL.size] at hll hls
        have i1 : ¬ (k : Int) < (l.len : Int) := by omega
        subst hkp
        clear hown hss hkeep hr hll hls HAPP hnp
        go_wp2_with fail
        go_ret
        exact ⟨oo, oc, n, xs, rfl, unhide HNP, unhide HO, unhide HSS, unhide HK⟩
      | cons op f x t el rest =>
        obtain ⟨h1, h2, h3, h4, ⟨xv, h5, hxs⟩, ⟨tao, tcap, h6, h7, h8⟩, ⟨eao, ecap, j6, j7, j8⟩, h9⟩ := hr
        simp only [SL.len, SL.size] at hll hls
        have hkl : k + (rest.len + 1) = l.len := by omega
        obtain ⟨xao, xcap, rfl, hxl⟩ := hxs.head
        have hct : (flatS t).len ≤ t.size := by rw [flatS_len]; exact countS_le t
        have hce : (flatS el).len ≤ el.size := by rw [flatS_len]; exact countS_le el
        have hbd : n + 1 + (flatS t).len + (flatS el).len ≤ 4294967294 := by omega
        have hst : t.size < N ∧ t.size ≤ 4294967294 ∧ el.size < N ∧ el.size ≤ 4294967294 := by omega
        have HBD := hide hbd
        have hn1 : n ≤ 4294967293 := by omega
        have HKP := hide hkp
        have HST := hide hst
        clear hll hls hkp hct hce hcp hnp hbd hst
        obtain ⟨rfl, hp⟩ := (unhide HA) (by omega)
        have HXS : Hid (SlE (argZ B) w b (.slice xao x.len xcap) x) := hxs
        have HTS : Hid (SlS (argZ B) w b (.slice tao t.len tcap) t) := ⟨tao, tcap, rfl, h7, h8⟩
        have HES : Hid (SlS (argZ B) w b (.slice eao el.len ecap) el) := ⟨eao, ecap, rfl, j7, j8⟩
        have HR := hide h9
        have i1 : (k : Int) < (l.len : Int) := by omega
        have ix0 : (0 : Int) ≤ (k : Int) := by omega
        have q0 := (hkeep.cell h1 id).trans h3
        have q1 := (hkeep.cell h1 id).trans h4
        have q2 := (hkeep.cell h1 id).trans h5
        have q3 := (hkeep.cell h1 id).trans h6
        have q4 := (hkeep.cell h1 id).trans j6
        have HB0 : Hid (w.heap.size ≤ wr.heap.size) := hkeep.size
        obtain ⟨HBk, hkbb, hkc⟩ := boxedT wr #[.int .i64 op, str f, .slice xao x.len xcap, .slice tao t.len tcap, .slice eao el.len ecap] 39
        have k0 := hkc 0 (.int .i64 op) rfl
        have k1 := hkc 1 (str f) rfl
        have k2 := hkc 2 (.slice xao x.len xcap) rfl
        have k3 := hkc 3 (.slice tao t.len tcap) rfl
        have k4 := hkc 4 (.slice eao el.len ecap) rfl
        have HBX := hide (heap_alloc_new wr (.cells #[.int .i64 op, str f, .slice xao x.len xcap, .slice tao t.len tcap, .slice eao el.len ecap] 39))
        have HNB := hide (heap_alloc_new (wr.alloc (.cells #[.int .i64 op, str f, .slice xao x.len xcap, .slice tao t.len tcap, .slice eao el.len ecap] 39)) (.cells #[.int .i64 op, str f, .slice xao x.len xcap, .slice tao t.len tcap, .slice eao el.len ecap] 39))
        rw [show (wr.alloc (.cells #[.int .i64 op, str f, .slice xao x.len xcap, .slice tao t.len tcap, .slice eao el.len ecap] 39)).heap.size = wr.heap.size + 1 by simp] at HNB
        have HK2 : Hid (Keeps (fun _ => False) wr ((wr.alloc (.cells #[.int .i64 op, str f, .slice xao x.len xcap, .slice tao t.len tcap, .slice eao el.len ecap] 39)).alloc (.cells #[.int .i64 op, str f, .slice xao x.len xcap, .slice tao t.len tcap, .slice eao el.len ecap] 39))) := ((Keeps.refl _ wr).alloc _).alloc _
        have HOX := hide (ownsRow_kept (unhide HO) (unhide HK2) (fun _ _ => id))
        have mk1 : True := trivial
        have HC := hide (fun (w' : World) (hk : Keeps (fun q => w.heap.size ≤ q) w w') => And.intro (unhide IH t (unhide HST).1 (unhide HST).2.1 w' b _ (Nat.le_trans hB hk.size) ((unhide HTS).argKeep hk (fun q h => Nat.le_trans hB h))) (unhide IH el (unhide HST).2.2.1 (unhide HST).2.2.2 w' b _ (Nat.le_trans hB hk.size) ((unhide HES).argKeep hk (fun q h => Nat.le_trans hB h))))
        have HBB := hide hB
        clear hown hss hkeep h2 h3 h4 h5 h6 h8 h9 j6 j8 happ hkc hxs hB
        go_wp2_with (first
          | (clear mk1; at_builtin; refine wpList_append_lies _ rfl _ _ _ rfl w.heap.size 39 i0 _ 5 96 Tryz.underlying28 hi hz0 hz1 hz2 rfl (by omega) (.slice oo n oc) n xs rfl (unhide HOX) ⟨wr.heap.size + 1, 0, none⟩ 1 1 [.int .i64 op, str f, .slice xao x.len xcap, .slice tao t.len tcap, .slice eao el.len ecap] rfl rfl (World.news_of_block (cs := #[.int .i64 op, str f, .slice xao x.len xcap, .slice tao t.len tcap, .slice eao el.len ecap]) (t := 39) (fr := (0, 0)) (unhide HNB)) (by simp [Value.oneCell']) (by omega) (by unfold maxLen; omega) (by omega) (by have := unhide HB0; simp; omega) (wr.heap.size + 2) (by simp) ?_; intro g1 c1 w1 hown1 hgrow1 hat1 _; have hgne : ¬ g1 = wr.heap.size := hat1.elim (fun h => by have := ((unhide HO).lt _ h).2; omega) (fun h => by omega); have HGNE := hide hgne; have hk1 : Keeps (fun q => (Value.slice oo n oc).ownBlock = some q) wr w1 := (unhide HK2).any.trans ((Keeps.refl _ _).grown hgrow1 (fun q e _ => e)); have hb1 : w1.heap[wr.heap.size]? = some (.cells #[.int .i64 op, str f, .slice xao x.len xcap, .slice tao t.len tcap, .slice eao el.len ecap] 39 (0, 0)) := (((Keeps.refl (fun q => (Value.slice oo n oc).ownBlock = some q) _).alloc _).grown hgrow1 (fun q e _ => e)).block wr.heap.size hkbb (fun e => by have := ((unhide HO).lt _ e).2; omega) |>.trans (unhide HBX); have r3 := cell_of_blk hb1 3; have r4 := cell_of_blk hb1 4; simp at r3 r4; have HO1 := hide hown1; have HK1 := hide ((unhide HK).any.then hk1 (fun q _ e => ((unhide HO).lt q e).1)); have HW1 := hide hk1; have HB1 := hide hb1; clear hown1 hgrow1 hk1 hb1 hat1 hgne; have mk2 : True := trivial)
          | (clear mk2; go_at_call 45; refine (unhide HC w1 (unhide HK1)).1.mono ?_; rintro e w2 ⟨vo2, vc2, n2, ys2, rfl, hn2, hown2, hss2, hk2⟩; have hb2 := (hk2.block _ (lt_of_block (unhide HB1)) id).trans (unhide HB1); have r4' := cell_of_blk hb2 4; simp at r4'; have HN2 := hide hn2; have hbn2 : n + 1 + n2 ≤ 4294967294 := (by have := unhide HBD; omega); have HO2 := hide (ownsRow_kept (unhide HO1) hk2 (fun _ _ => id)); have HR2 := hide (rowAt_own hown2); have HS2 := hide hss2; have HK22 := hide hk2; have HB2 := hide hb2; have HKw2 := hide ((unhide HK1).trans hk2.any); clear hown2 hss2 hk2 hb2 hn2; have mk3 : True := trivial)
          | (clear mk3; at_builtin; refine wpList_append_row rfl _ _ _ rfl w.heap.size 39 i0 _ 5 96 Tryz.underlying28 hi hz0 hz1 hz2 rfl (by omega) (.slice (some ⟨g1, 0, none⟩) (n + 1) c1) (n + 1) (xs ++ [.int .i64 op, str f, .slice xao x.len xcap, .slice tao t.len tcap, .slice eao el.len ecap]) rfl (unhide HO2) (.slice vo2 n2 vc2) n2 ys2 rfl (unhide HR2) (by rw [(unhide HS2).len, unhide HN2]) (unhide HS2).one (by unfold maxLen; omega) (by omega) ((unhide HKw2).size) (fun ty ao n c xc h => run_appendS_no _ ty ao n c xc h) ?_; intro v3 w3 hown3 hgrow3 _; obtain ⟨vo3, vc3, rfl⟩ := (rowAt_own hown3).form; have hk3 : Keeps (fun q => (Value.slice (some ⟨g1, 0, none⟩) (n + 1) c1).ownBlock = some q) w2 w3 := (Keeps.refl _ _).grown hgrow3 (fun q e _ => e); have hg1 := (unhide HO1).lt g1 rfl; have HK3 := hide ((unhide HKw2).then hk3 (fun q _ e => ((unhide HO2).lt q e).1)); have HKo3 := hide (hk3.mono (G := fun q => w.heap.size ≤ q) (fun q _ e => ((unhide HO2).lt q e).1)); have hne : ¬ (Value.slice (some ⟨g1, 0, none⟩) (n + 1) c1).ownBlock = some wr.heap.size := (fun e => unhide HGNE (by simpa [Value.ownBlock] using e)); have hb3 := (hk3.block _ (lt_of_block (unhide HB2)) hne).trans (unhide HB2); have t4 := cell_of_blk hb3 4; simp at t4; have HO3 := hide hown3; clear hown3 hgrow3 hk3 hb3; have mk4 : True := trivial)
          | (clear mk4; go_at_call 45; refine (unhide HC w3 (unhide HK3)).2.mono ?_; rintro e w4 ⟨vo4, vc4, n4, ys4, rfl, hn4, hown4, hss4, hk4⟩; have HN4 := hide hn4; have hbn4 : n + 1 + n2 + n4 ≤ 4294967294 := (by have := unhide HBD; have := unhide HN2; omega); have HO4 := hide (ownsRow_kept (unhide HO3) hk4 (fun _ _ => id)); have HR4 := hide (rowAt_own hown4); have HS4 := hide hss4; have HK44 := hide hk4; have HKw4 := hide ((unhide HK3).trans hk4.any); clear hown4 hss4 hk4 hn4; have mk5 : True := trivial)
          | (clear mk5; at_builtin; refine wpList_append_row rfl _ _ _ rfl w.heap.size 39 i0 _ 5 96 Tryz.underlying28 hi hz0 hz1 hz2 rfl (by omega) (.slice vo3 (n + 1 + n2) vc3) (n + 1 + n2) _ rfl (unhide HO4) (.slice vo4 n4 vc4) n4 ys4 rfl (unhide HR4) (by rw [(unhide HS4).len, unhide HN4]) (unhide HS4).one (by unfold maxLen; omega) (by omega) ((unhide HKw4).size) (fun ty ao n c xc h => run_appendS_no _ ty ao n c xc h) ?_; intro v5 w5 hown5 hgrow5 _; obtain ⟨vo5, vc5, rfl⟩ := (rowAt_own hown5).form; have hk5 : Keeps (fun q => w.heap.size ≤ q) w4 w5 := (Keeps.refl _ _).grown hgrow5 (fun q e _ => ((unhide HO4).lt q e).1); have HK5 := hide hk5; have HO5 := hide hown5; clear hown5 hgrow5 hk5))
        go_roundw
        case rel =>
          have hF : ∀ q, w.heap.size ≤ q → B ≤ q := fun q h => Nat.le_trans (unhide HBB) h
          have k35 : Keeps (fun q => w.heap.size ≤ q) w3 w5 := (unhide HK44).any.trans (unhide HK5)
          have k25 : Keeps (fun q => w.heap.size ≤ q) w2 w5 := (unhide HKo3).trans k35
          have k15 : Keeps (fun q => w.heap.size ≤ q) w1 w5 := (unhide HK22).any.trans k25
          have kr1 : Keeps (fun q => w.heap.size ≤ q) wr w1 := (unhide HW1).mono (fun q _ e => ((unhide HO).lt q e).1)
          have kr5 := kr1.trans k15
          have kw5 : Keeps (fun q => w.heap.size ≤ q) w w5 := (unhide HKw4).trans (unhide HK5)
          have s1 := (unhide HSS).argKeep kr5 hF
          have s2 : SsIn (argZ B) w5 (.cons op f x t el .nil) [.int .i64 op, str f, .slice xao x.len xcap, .slice tao t.len tcap, .slice eao el.len ecap] :=
            ⟨_, _, _, [], rfl, ((unhide HXS).argKeep kw5 hF).anyUp 0, ((unhide HTS).argKeep kw5 hF).anyUp 0, ((unhide HES).argKeep kw5 hF).anyUp 0, rfl⟩
          have s3 := (unhide HS2).argKeep k25 hF
          have s4 := (unhide HS4).argKeep (unhide HK5) hF
          refine ⟨pre.app (.cons op f x t el .nil), rest, k + 1, n + 1 + n2 + n4, _, by go_num, ?_, ?_, ?_, unhide HO5, ?_, kw5.mono (fun q hq e => by have e' : w.heap.size ≤ q := e; omega), ?_⟩
          · rw [app_oneS]; exact unhide HAPP
          · rw [SL.len_app, unhide HKP]; rfl
          · rw [flat_snoc, SL.len_app, SL.len_app, SL.len_app, ← unhide HNP, ← unhide HN2, ← unhide HN4]; rfl
          · rw [flat_snoc]; exact ((s1.app s2).app s3).app s4
          · rw [show off + (k + 1) * 5 = off + k * 5 + 5 by omega]
            exact unhide HR
        case measure => simp [intOf]; omega
end Go.Proofs.YtiinohibmcefkaaGreatDoor
namespace Go.Proofs.YtiinohibmcefkaaGreatDoor
open Go.RowKit Go.Maps

set_option maxRecDepth 100000 in
theorem takes_v (j : Nat) (is : Int) (ts : List Int) (tv : Value) (w : World) (h : IntsAt w tv ts) :
    Calls Tryz.prog 175 #[.int .i64 is, tv] w fun e w' => ∃ fv, e = .returned fv ∧ RuleV w' j (.takes is ts) fv ∧ Keeps (fun _ => False) w w' := by
  obtain ⟨to, tc, rfl⟩ := RowAt.form h
  have hk : Keeps (fun _ => False) w ((w.alloc (.cells #[.int .i64 is] 3)).alloc (.cells #[.slice to ts.length tc] 206)) := ((Keeps.refl _ w).alloc _).alloc _
  have h1 : ((w.alloc (.cells #[.int .i64 is] 3)).alloc (.cells #[.slice to ts.length tc] 206)).cell? ⟨w.heap.size, 0, none⟩ = some (.int .i64 is) :=
    cell_past (by simp) (by rw [cell_of_blk (heap_alloc_new w _)]; rfl) _
  have e1 : (w.alloc (.cells #[.int .i64 is] 3)).heap.size = w.heap.size + 1 := by simp
  have h2 : ((w.alloc (.cells #[.int .i64 is] 3)).alloc (.cells #[.slice to ts.length tc] 206)).cell? ⟨w.heap.size + 1, 0, none⟩ = some (.slice to ts.length tc) := by
    have := heap_alloc_new (w.alloc (.cells #[.int .i64 is] 3)) (.cells #[.slice to ts.length tc] 206)
    rw [e1] at this
    rw [cell_of_blk this]; rfl
  have HR : Hid (RuleV ((w.alloc (.cells #[.int .i64 is] 3)).alloc (.cells #[.slice to ts.length tc] 206)) j (.takes is ts) (.func (.func 207) #[] #[.pointer (some ⟨w.heap.size + 1, 0, none⟩), .pointer (some ⟨w.heap.size, 0, none⟩)])) :=
    ⟨_, _, _, rfl, by simp; omega, by simp, h1, h2, h.keepF hk⟩
  have HK := hide hk
  have hmf : ∀ (fn : Fn) (first cap : Array Value) (w : World), (Instr.makeFunc fn first cap).run Tryz.prog w = .ok (.func fn first cap) w := fun _ _ _ _ => rfl
  clear h h1 h2 hk e1
  go_enter Tryz.func175, Tryz.ntmps175
  go_wp2_with fail
  go_ret
  exact ⟨_, rfl, unhide HR, unhide HK⟩
set_option maxRecDepth 100000 in
theorem compares_v (j : Nat) (ts : List Int) (tv : Value) (w : World) (h : IntsAt w tv ts) :
    Calls Tryz.prog 178 #[tv] w fun e w' => ∃ fv, e = .returned fv ∧ RuleV w' j (.compares ts) fv ∧ Keeps (fun _ => False) w w' := by
  obtain ⟨to, tc, rfl⟩ := RowAt.form h
  have hk : Keeps (fun _ => False) w (w.alloc (.cells #[.slice to ts.length tc] 206)) := (Keeps.refl _ w).alloc _
  have h1 : (w.alloc (.cells #[.slice to ts.length tc] 206)).cell? ⟨w.heap.size, 0, none⟩ = some (.slice to ts.length tc) := by rw [cell_of_blk (heap_alloc_new w _)]; rfl
  have HR : Hid (RuleV (w.alloc (.cells #[.slice to ts.length tc] 206)) j (.compares ts) (.func (.func 213) #[] #[.pointer (some ⟨w.heap.size, 0, none⟩)])) :=
    ⟨_, _, rfl, by simp, h1, h.keepF hk⟩
  have HK := hide hk
  have hmf : ∀ (fn : Fn) (first cap : Array Value) (w : World), (Instr.makeFunc fn first cap).run Tryz.prog w = .ok (.func fn first cap) w := fun _ _ _ _ => rfl
  clear h h1 hk
  go_enter Tryz.func178, Tryz.ntmps178
  go_wp2_with fail
  go_ret
  exact ⟨_, rfl, unhide HR, unhide HK⟩
/-- Rules that were made so far. -/
structure Bun (W0 : World) (j : Nat) (L : List (RuleA × Value)) (w : World) : Prop where
  kept : Keeps (fun _ => False) W0 w
  all : ∀ p ∈ L, RuleV w j p.1 p.2
theorem Bun.snoc {W0 : World} {j : Nat} {L : List (RuleA × Value)} {w w' : World} (h : Bun W0 j L w) (hk : Keeps (fun _ => False) w w') {r : RuleA} {fv : Value} (hr : RuleV w' j r fv) : Bun W0 j (L ++ [(r, fv)]) w' :=
  ⟨h.kept.trans hk, fun p hp => by
    rcases List.mem_append.1 hp with hp | hp
    · exact (h.all p hp).keepF hk
    · obtain rfl : p = (r, fv) := by simpa using hp
      exact hr⟩
theorem takes_named {W0 w' : World} {j : Nat} {L : List (RuleA × Value)} {is : Int} {ts : List Int} {fv : Value} {e : Ending} (he : e = .returned fv) (hr : RuleV w' j (.takes is ts) fv) (h : Bun W0 j (L ++ [(.takes is ts, fv)]) w') :
    ∃ tb ib, e = .returned (.func (.func 207) #[] #[.pointer (some ⟨tb, 0, none⟩), .pointer (some ⟨ib, 0, none⟩)]) ∧ Bun W0 j (L ++ [(.takes is ts, (.func (.func 207) #[] #[.pointer (some ⟨tb, 0, none⟩), .pointer (some ⟨ib, 0, none⟩)]))]) w' := by
  obtain ⟨tb, ib, _, rfl, _⟩ := hr
  exact ⟨tb, ib, he, h⟩
theorem compares_named {W0 w' : World} {j : Nat} {L : List (RuleA × Value)} {ts : List Int} {fv : Value} {e : Ending} (he : e = .returned fv) (hr : RuleV w' j (.compares ts) fv) (h : Bun W0 j (L ++ [(.compares ts, fv)]) w') :
    ∃ tb, e = .returned (.func (.func 213) #[] #[.pointer (some ⟨tb, 0, none⟩)]) ∧ Bun W0 j (L ++ [(.compares ts, (.func (.func 213) #[] #[.pointer (some ⟨tb, 0, none⟩)]))]) w' := by
  obtain ⟨tb, _, rfl, _⟩ := hr
  exact ⟨tb, he, h⟩
section
variable {W0 : World} {j : Nat} {L : List (RuleA × Value)} {w : World}
theorem takes0 (h : Bun W0 j L w) (is : Int) : Calls Tryz.prog 175 #[.int .i64 is, .slice none 0 0] w fun e w' => ∃ tb ib, e = .returned (.func (.func 207) #[] #[.pointer (some ⟨tb, 0, none⟩), .pointer (some ⟨ib, 0, none⟩)]) ∧ Bun W0 j (L ++ [(.takes is [], (.func (.func 207) #[] #[.pointer (some ⟨tb, 0, none⟩), .pointer (some ⟨ib, 0, none⟩)]))]) w' :=
  (takes_v j is [] _ w (ints_nil w)).mono fun _ _ ⟨_, he, hr, hk⟩ => takes_named he hr (h.snoc hk hr)
theorem takes1 (h : Bun W0 j L w) (is t : Int) : Calls Tryz.prog 175 #[.int .i64 is, .slice (some ⟨w.heap.size, 0, none⟩) 1 1] (w.alloc (.cells #[.int .i64 t] 3)) fun e w' => ∃ tb ib, e = .returned (.func (.func 207) #[] #[.pointer (some ⟨tb, 0, none⟩), .pointer (some ⟨ib, 0, none⟩)]) ∧ Bun W0 j (L ++ [(.takes is [t], (.func (.func 207) #[] #[.pointer (some ⟨tb, 0, none⟩), .pointer (some ⟨ib, 0, none⟩)]))]) w' :=
  (takes_v j is [t] _ _ (ints_new w [t] 3 1 rfl)).mono fun _ _ ⟨_, he, hr, hk⟩ => takes_named he hr (h.snoc (((Keeps.refl _ w).alloc _).trans hk) hr)
theorem takes2 (h : Bun W0 j L w) (is t u : Int) : Calls Tryz.prog 175 #[.int .i64 is, .slice (some ⟨w.heap.size, 0, none⟩) 2 2] (w.alloc (.cells #[.int .i64 t, .int .i64 u] 3)) fun e w' => ∃ tb ib, e = .returned (.func (.func 207) #[] #[.pointer (some ⟨tb, 0, none⟩), .pointer (some ⟨ib, 0, none⟩)]) ∧ Bun W0 j (L ++ [(.takes is [t, u], (.func (.func 207) #[] #[.pointer (some ⟨tb, 0, none⟩), .pointer (some ⟨ib, 0, none⟩)]))]) w' :=
  (takes_v j is [t, u] _ _ (ints_new w [t, u] 3 2 rfl)).mono fun _ _ ⟨_, he, hr, hk⟩ => takes_named he hr (h.snoc (((Keeps.refl _ w).alloc _).trans hk) hr)
theorem compares2 (h : Bun W0 j L w) (t u : Int) : Calls Tryz.prog 178 #[.slice (some ⟨w.heap.size, 0, none⟩) 2 2] (w.alloc (.cells #[.int .i64 t, .int .i64 u] 3)) fun e w' => ∃ tb, e = .returned (.func (.func 213) #[] #[.pointer (some ⟨tb, 0, none⟩)]) ∧ Bun W0 j (L ++ [(.compares [t, u], (.func (.func 213) #[] #[.pointer (some ⟨tb, 0, none⟩)]))]) w' :=
  (compares_v j [t, u] _ _ (ints_new w [t, u] 3 2 rfl)).mono fun _ _ ⟨_, he, hr, hk⟩ => compares_named he hr (h.snoc (((Keeps.refl _ w).alloc _).trans hk) hr)
theorem compares3 (h : Bun W0 j L w) (t u v : Int) : Calls Tryz.prog 178 #[.slice (some ⟨w.heap.size, 0, none⟩) 3 3] (w.alloc (.cells #[.int .i64 t, .int .i64 u, .int .i64 v] 3)) fun e w' => ∃ tb, e = .returned (.func (.func 213) #[] #[.pointer (some ⟨tb, 0, none⟩)]) ∧ Bun W0 j (L ++ [(.compares [t, u, v], (.func (.func 213) #[] #[.pointer (some ⟨tb, 0, none⟩)]))]) w' :=
  (compares_v j [t, u, v] _ _ (ints_new w [t, u, v] 3 3 rfl)).mono fun _ _ ⟨_, he, hr, hk⟩ => compares_named he hr (h.snoc (((Keeps.refl _ w).alloc _).trans hk) hr)
end
/-- A table of rules, as a judge keeps it. -/
def RulesAt (w : World) (j tab : Nat) : Prop := ∀ (m : Nat) (r : RuleA), (ruleL[m]?).join = some r → ∃ fv, w.cell? ⟨tab, m, none⟩ = some fv ∧ RuleV w j r fv
theorem rules_cells {w : World} {j : Nat} {cs : Array Value} (h : ∀ (m : Nat) (r : RuleA), (ruleL[m]?).join = some r → ∃ fv, cs[m]? = some fv ∧ RuleV w j r fv) (t : TypeId) : RulesAt (w.alloc (.cells cs t)) j w.heap.size := by
  intro m r hr
  obtain ⟨fv, h1, h2⟩ := h m r hr
  exact ⟨fv, by rw [cell_of_blk (heap_alloc_new w _)]; exact h1, h2.keepF ((Keeps.refl _ w).alloc _)⟩
end Go.Proofs.YtiinohibmcefkaaGreatDoor
