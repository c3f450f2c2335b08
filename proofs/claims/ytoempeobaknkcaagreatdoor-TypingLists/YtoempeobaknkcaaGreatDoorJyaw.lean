import Derived.Test.YtoempeobaknkcaaGreatDoorJyaf
import Derived.Test.YtoempeobaknkcaaGreatDoorKf
import Derived.StringKeys
import Derived.Test.YtoempeobaknkcaaGreatDoorKg
import Derived.Test.YtoempeobaknkcaaGreatDoorJybb
namespace Go.Proofs.YtoempeobaknkcaaGreatDoor
open Go.RowKit Go.Maps

theorem app_oneS (pre : SL) (op : Int) (f : Txt) (x : EL) (t e rest : SL) : (pre.app (.cons op f x t e .nil)).app rest = pre.app (.cons op f x t e rest) := by rw [SL.app_assoc]; rfl
theorem flat_snoc (pre : SL) (op : Int) (f : Txt) (x : EL) (t e : SL) : flatS (pre.app (.cons op f x t e .nil)) = (((flatS pre).app (.cons op f x t e .nil)).app (flatS t)).app (flatS e) := by
  rw [flatS_app]
  simp only [flatS, SL.app_nil, SL.app_assoc, SL.app]
/-- What the list of a program's statements is. -/
def NPost (B : Nat) (l : SL) (w : World) (e : Ending) (w' : World) : Prop := ∃ (ao : Option Addr) (c n : Nat) (xs : List Value), e = .returned (.slice ao n c) ∧ n = (flatS l).len ∧ w'.ownsRow w.heap.size 53 5 (.slice ao n c) n xs ∧ SsIn (argZ B) w' (flatS l) xs ∧ Keeps (fun _ => False) w w'

set_option maxRecDepth 100000 in
set_option maxHeartbeats 8000000 in
theorem numbered_v (B : Nat) (N : Nat) : ∀ (l : SL), l.size < N → l.size ≤ 4294967294 → ∀ (w : World) (up : Nat) (v : Value), B ≤ w.heap.size → SlS (argZ B) w up v l → Calls Tryz.prog 32 #[v] w (NPost B l w) := by
  induction N with
  | zero => intro l h; omega
  | succ N ih =>
    intro l hsz hlen' w up v hB hS
    have hlen : l.len ≤ 4294967294 := by have := SL.len_le l; omega
    obtain ⟨ao, cap, b, off, rfl, hcap, ha, hx⟩ := hS.open
    obtain ⟨i0, hi, hz0, hz1, hz2⟩ := info_parts Tryz.info53
    have IH := hide ih
    have HX := hide hx
    have HA := hide ha
    clear hS ih hx ha
    go_enter Tryz.func32, Tryz.ntmps32
    go_wp2_with fail
    go_loopw [3, 8] (fun o i wr => ∃ (pre rest : SL) (k n : Nat) (xs : List Value), i = .int .i64 k ∧ l = pre.app rest ∧ k = pre.len ∧ n = (flatS pre).len ∧ wr.ownsRow w.heap.size 53 5 o n xs ∧ SsIn (argZ B) wr (flatS pre) xs ∧ Keeps (fun _ => False) w wr ∧ StIn (argZ B) w rest b (off + k * 5)) (fun _ i _ => l.len - (intOf i).toNat)
    case atStart => exact ⟨.nil, l, 0, 0, [], rfl, rfl, rfl, rfl, World.ownsRow_nil w w.heap.size 53 5, rfl, Keeps.refl _ _, by simpa using unhide HX⟩
    case round =>
      obtain ⟨pre, rest, k, n, xs, rfl, happ, hkp, hnp, hown, hss, hkeep, hr⟩ := hrel
      obtain ⟨oo, oc, rfl⟩ := (rowAt_own hown).form
      have hll := congrArg SL.len happ
      have hls := congrArg SL.size happ
      rw [SL.len_app] at hll
      rw [SL.size_app] at hls
      have hcp : n ≤ pre.size := by rw [hnp, flatS_len]; exact countS_le pre
      have HO := hide hown
      have HSS := hide hss
      have HK := hide hkeep
      have HAPP := hide happ
      have HNP := hide hnp
      cases rest with
      | nil =>
        rw [SL.app_nil] at happ
        subst happ
        simp only [SL.len, SL.size] at hll hls
        have i1 : ¬ (k : Int) < (l.len : Int) := by omega
        subst hkp
        clear hown hss hkeep hr hll hls HAPP hnp
        go_wp2_with fail
        go_ret
        exact ⟨oo, oc, n, xs, rfl, unhide HNP, unhide HO, unhide HSS, unhide HK⟩
      | cons op f x t el rest =>
        obtain ⟨h1, h2, h3, h4, ⟨xv, h5, hxs⟩, ⟨tao, tcap, h6, h7, h8⟩, ⟨eao, ecap, j6, j7, j8⟩, h9⟩ := hr
        simp only [SL.len, SL.size] at hll hls
        have hkl : k + (rest.len + 1) = l.len := by omega
        obtain ⟨xao, xcap, rfl, hxl⟩ := hxs.head
        have hct : (flatS t).len ≤ t.size := by rw [flatS_len]; exact countS_le t
        have hce : (flatS el).len ≤ el.size := by rw [flatS_len]; exact countS_le el
        have hbd : n + 1 + (flatS t).len + (flatS el).len ≤ 4294967294 := by omega
        have hst : t.size < N ∧ t.size ≤ 4294967294 ∧ el.size < N ∧ el.size ≤ 4294967294 := by omega
        have HBD := hide hbd
        have hn1 : n ≤ 4294967293 := by omega
        have HKP := hide hkp
        have HST := hide hst
        clear hll hls hkp hct hce hcp hnp hbd hst
        obtain ⟨rfl, hp⟩ := (unhide HA) (by omega)
        have HXS : Hid (SlE (argZ B) w b (.slice xao x.len xcap) x) := hxs
        have HTS : Hid (SlS (argZ B) w b (.slice tao t.len tcap) t) := ⟨tao, tcap, rfl, h7, h8⟩
        have HES : Hid (SlS (argZ B) w b (.slice eao el.len ecap) el) := ⟨eao, ecap, rfl, j7, j8⟩
        have HR := hide h9
        have i1 : (k : Int) < (l.len : Int) := by omega
        have ix0 : (0 : Int) ≤ (k : Int) := by omega
        have q0 := (hkeep.cell h1 id).trans h3
        have q1 := (hkeep.cell h1 id).trans h4
        have q2 := (hkeep.cell h1 id).trans h5
        have q3 := (hkeep.cell h1 id).trans h6
        have q4 := (hkeep.cell h1 id).trans j6
        have HB0 : Hid (w.heap.size ≤ wr.heap.size) := hkeep.size
        obtain ⟨HBk, hkbb, hkc⟩ := boxedT wr #[.int .i64 op, str f, .slice xao x.len xcap, .slice tao t.len tcap, .slice eao el.len ecap] 53
        have k0 := hkc 0 (.int .i64 op) rfl
        have k1 := hkc 1 (str f) rfl
        have k2 := hkc 2 (.slice xao x.len xcap) rfl
        have k3 := hkc 3 (.slice tao t.len tcap) rfl
        have k4 := hkc 4 (.slice eao el.len ecap) rfl
        have HBX := hide (heap_alloc_new wr (.cells #[.int .i64 op, str f, .slice xao x.len xcap, .slice tao t.len tcap, .slice eao el.len ecap] 53))
        have HNB := hide (heap_alloc_new (wr.alloc (.cells #[.int .i64 op, str f, .slice xao x.len xcap, .slice tao t.len tcap, .slice eao el.len ecap] 53)) (.cells #[.int .i64 op, str f, .slice xao x.len xcap, .slice tao t.len tcap, .slice eao el.len ecap] 53))
        rw [show (wr.alloc (.cells #[.int .i64 op, str f, .slice xao x.len xcap, .slice tao t.len tcap, .slice eao el.len ecap] 53)).heap.size = wr.heap.size + 1 by simp] at HNB
        have HK2 : Hid (Keeps (fun _ => False) wr ((wr.alloc (.cells #[.int .i64 op, str f, .slice xao x.len xcap, .slice tao t.len tcap, .slice eao el.len ecap] 53)).alloc (.cells #[.int .i64 op, str f, .slice xao x.len xcap, .slice tao t.len tcap, .slice eao el.len ecap] 53))) := ((Keeps.refl _ wr).alloc _).alloc _
        have HOX := hide (ownsRow_kept (unhide HO) (unhide HK2) (fun _ _ => id))
        have mk1 : True := trivial
        have HC := hide (fun (w' : World) (hk : Keeps (fun q => w.heap.size ≤ q) w w') => And.intro (unhide IH t (unhide HST).1 (unhide HST).2.1 w' b _ (Nat.le_trans hB hk.size) ((unhide HTS).argKeep hk (fun q h => Nat.le_trans hB h))) (unhide IH el (unhide HST).2.2.1 (unhide HST).2.2.2 w' b _ (Nat.le_trans hB hk.size) ((unhide HES).argKeep hk (fun q h => Nat.le_trans hB h))))
        have HBB := hide hB
        clear hown hss hkeep h2 h3 h4 h5 h6 h8 h9 j6 j8 happ hkc hxs hB
        go_wp2_with (first
          | (clear mk1; at_builtin; refine wpList_append_lies _ rfl _ _ _ rfl w.heap.size 53 i0 _ 5 96 Tryz.underlying25 hi hz0 hz1 hz2 rfl (by omega) (.slice oo n oc) n xs rfl (unhide HOX) ⟨wr.heap.size + 1, 0, none⟩ 1 1 [.int .i64 op, str f, .slice xao x.len xcap, .slice tao t.len tcap, .slice eao el.len ecap] rfl rfl (World.news_of_block (cs := #[.int .i64 op, str f, .slice xao x.len xcap, .slice tao t.len tcap, .slice eao el.len ecap]) (t := 53) (fr := (0, 0)) (unhide HNB)) (by simp [Value.oneCell']) (by omega) (by unfold maxLen; omega) (by omega) (by have := unhide HB0; simp; omega) (wr.heap.size + 2) (by simp) ?_; intro g1 c1 w1 hown1 hgrow1 hat1 _; have hgne : ¬ g1 = wr.heap.size := hat1.elim (fun h => by have := ((unhide HO).lt _ h).2; omega) (fun h => by omega); have HGNE := hide hgne; have hk1 : Keeps (fun q => (Value.slice oo n oc).ownBlock = some q) wr w1 := (unhide HK2).any.trans ((Keeps.refl _ _).grown hgrow1 (fun q e _ => e)); have hb1 : w1.heap[wr.heap.size]? = some (.cells #[.int .i64 op, str f, .slice xao x.len xcap, .slice tao t.len tcap, .slice eao el.len ecap] 53 (0, 0)) := (((Keeps.refl (fun q => (Value.slice oo n oc).ownBlock = some q) _).alloc _).grown hgrow1 (fun q e _ => e)).block wr.heap.size hkbb (fun e => by have := ((unhide HO).lt _ e).2; omega) |>.trans (unhide HBX); have r3 := cell_of_blk hb1 3; have r4 := cell_of_blk hb1 4; simp at r3 r4; have HO1 := hide hown1; have HK1 := hide ((unhide HK).any.then hk1 (fun q _ e => ((unhide HO).lt q e).1)); have HW1 := hide hk1; have HB1 := hide hb1; clear hown1 hgrow1 hk1 hb1 hat1 hgne; have mk2 : True := trivial)
          | (clear mk2; go_at_call 32; refine (unhide HC w1 (unhide HK1)).1.mono ?_; rintro e w2 ⟨vo2, vc2, n2, ys2, rfl, hn2, hown2, hss2, hk2⟩; have hb2 := (hk2.block _ (lt_of_block (unhide HB1)) id).trans (unhide HB1); have r4' := cell_of_blk hb2 4; simp at r4'; have HN2 := hide hn2; have hbn2 : n + 1 + n2 ≤ 4294967294 := (by have := unhide HBD; omega); have HO2 := hide (ownsRow_kept (unhide HO1) hk2 (fun _ _ => id)); have HR2 := hide (rowAt_own hown2); have HS2 := hide hss2; have HK22 := hide hk2; have HB2 := hide hb2; have HKw2 := hide ((unhide HK1).trans hk2.any); clear hown2 hss2 hk2 hb2 hn2; have mk3 : True := trivial)
          | (clear mk3; at_builtin; refine wpList_append_row rfl _ _ _ rfl w.heap.size 53 i0 _ 5 96 Tryz.underlying25 hi hz0 hz1 hz2 rfl (by omega) (.slice (some ⟨g1, 0, none⟩) (n + 1) c1) (n + 1) (xs ++ [.int .i64 op, str f, .slice xao x.len xcap, .slice tao t.len tcap, .slice eao el.len ecap]) rfl (unhide HO2) (.slice vo2 n2 vc2) n2 ys2 rfl (unhide HR2) (by rw [(unhide HS2).len, unhide HN2]) (unhide HS2).one (by unfold maxLen; omega) (by omega) ((unhide HKw2).size) (fun ty ao n c xc h => run_appendS_no _ ty ao n c xc h) ?_; intro v3 w3 hown3 hgrow3 _; obtain ⟨vo3, vc3, rfl⟩ := (rowAt_own hown3).form; have hk3 : Keeps (fun q => (Value.slice (some ⟨g1, 0, none⟩) (n + 1) c1).ownBlock = some q) w2 w3 := (Keeps.refl _ _).grown hgrow3 (fun q e _ => e); have hg1 := (unhide HO1).lt g1 rfl; have HK3 := hide ((unhide HKw2).then hk3 (fun q _ e => ((unhide HO2).lt q e).1)); have HKo3 := hide (hk3.mono (G := fun q => w.heap.size ≤ q) (fun q _ e => ((unhide HO2).lt q e).1)); have hne : ¬ (Value.slice (some ⟨g1, 0, none⟩) (n + 1) c1).ownBlock = some wr.heap.size := (fun e => unhide HGNE (by simpa [Value.ownBlock] using e)); have hb3 := (hk3.block _ (lt_of_block (unhide HB2)) hne).trans (unhide HB2); have t4 := cell_of_blk hb3 4; simp at t4; have HO3 := hide hown3; clear hown3 hgrow3 hk3 hb3; have mk4 : True := trivial)
          | (clear mk4; go_at_call 32; refine (unhide HC w3 (unhide HK3)).2.mono ?_; rintro e w4 ⟨vo4, vc4, n4, ys4, rfl, hn4, hown4, hss4, hk4⟩; have HN4 := hide hn4; have hbn4 : n + 1 + n2 + n4 ≤ 4294967294 := (by have := unhide HBD; have := unhide HN2; omega); have HO4 := hide (ownsRow_kept (unhide HO3) hk4 (fun _ _ => id)); have HR4 := hide (rowAt_own hown4); have HS4 := hide hss4; have HK44 := hide hk4; have HKw4 := hide ((unhide HK3).trans hk4.any); clear hown4 hss4 hk4 hn4; have mk5 : True := trivial)
          | (clear mk5; at_builtin; refine wpList_append_row rfl _ _ _ rfl w.heap.size 53 i0 _ 5 96 Tryz.underlying25 hi hz0 hz1 hz2 rfl (by omega) (.slice vo3 (n + 1 + n2) vc3) (n + 1 + n2) _ rfl (unhide HO4) (.slice vo4 n4 vc4) n4 ys4 rfl (unhide HR4) (by rw [(unhide HS4).len, unhide HN4]) (unhide HS4).one (by unfold maxLen; omega) (by omega) ((unhide HKw4).size) (fun ty ao n c xc h => run_appendS_no _ ty ao n c xc h) ?_; intro v5 w5 hown5 hgrow5 _; obtain ⟨vo5, vc5, rfl⟩ := (rowAt_own hown5).form; have hk5 : Keeps (fun q => w.heap.size ≤ q) w4 w5 := (Keeps.refl _ _).grown hgrow5 (fun q e _ => ((unhide HO4).lt q e).1); have HK5 := hide hk5; have HO5 := hide hown5; clear hown5 hgrow5 hk5))
        go_roundw
        case rel =>
          have hF : ∀ q, w.heap.size ≤ q → B ≤ q := fun q h => Nat.le_trans (unhide HBB) h
          have k35 : Keeps (fun q => w.heap.size ≤ q) w3 w5 := (unhide HK44).any.trans (unhide HK5)
          have k25 : Keeps (fun q => w.heap.size ≤ q) w2 w5 := (unhide HKo3).trans k35
          have k15 : Keeps (fun q => w.heap.size ≤ q) w1 w5 := (unhide HK22).any.trans k25
          have kr1 : Keeps (fun q => w.heap.size ≤ q) wr w1 := (unhide HW1).mono (fun q _ e => ((unhide HO).lt q e).1)
          have kr5 := kr1.trans k15
          have kw5 : Keeps (fun q => w.heap.size ≤ q) w w5 := (unhide HKw4).trans (unhide HK5)
          have s1 := (unhide HSS).argKeep kr5 hF
          have s2 : SsIn (argZ B) w5 (.cons op f x t el .nil) [.int .i64 op, str f, .slice xao x.len xcap, .slice tao t.len tcap, .slice eao el.len ecap] :=
            ⟨_, _, _, [], rfl, ((unhide HXS).argKeep kw5 hF).anyUp 0, ((unhide HTS).argKeep kw5 hF).anyUp 0, ((unhide HES).argKeep kw5 hF).anyUp 0, rfl⟩
          have s3 := (unhide HS2).argKeep k25 hF
          have s4 := (unhide HS4).argKeep (unhide HK5) hF
          refine ⟨pre.app (.cons op f x t el .nil), rest, k + 1, n + 1 + n2 + n4, _, by go_num, ?_, ?_, ?_, unhide HO5, ?_, kw5.mono (fun q hq e => by have e' : w.heap.size ≤ q := e; omega), ?_⟩
          · rw [app_oneS]; exact unhide HAPP
          · rw [SL.len_app, unhide HKP]; rfl
          · rw [flat_snoc, SL.len_app, SL.len_app, SL.len_app, ← unhide HNP, ← unhide HN2, ← unhide HN4]; rfl
          · rw [flat_snoc]; exact ((s1.app s2).app s3).app s4
          · rw [show off + (k + 1) * 5 = off + k * 5 + 5 by omega]
            exact unhide HR
        case measure => simp [intOf]; omega
end Go.Proofs.YtoempeobaknkcaaGreatDoor
namespace Go.Proofs.YtoempeobaknkcaaGreatDoor
open Go.RowKit Go.Maps

theorem StIn.inKeep {A : Nat → Prop} {F : Nat → Prop} {w w' : World} {l : SL} {b o : Nat} (h : StIn (inZ A) w l b o) (hk : Keeps F w w') (hF : ∀ k, k < w.heap.size → A k → ¬ F k) : StIn (inZ A) w' l b o :=
  StIn.keep (Q := fun _ => True) (fun _ _ _ _ => trivial) hk (fun _ k _ hl hg => ⟨hF k hl hg, hg⟩) trivial h
theorem SlS.inKeep {A : Nat → Prop} {F : Nat → Prop} {w w' : World} {up : Nat} {v : Value} {l : SL} (h : SlS (inZ A) w up v l) (hk : Keeps F w w') (hF : ∀ k, k < w.heap.size → A k → ¬ F k) : SlS (inZ A) w' up v l :=
  SlS.keep (Q := fun _ => True) (fun _ _ _ _ => trivial) hk (fun _ k _ hl hg => ⟨hF k hl hg, hg⟩) trivial h
theorem StIn.inMono {A B : Nat → Prop} {w : World} (hAB : ∀ k, k < w.heap.size → A k → B k) : ∀ {l : SL} {b o : Nat}, StIn (inZ A) w l b o → StIn (inZ B) w l b o
  | .nil, _, _, _ => trivial
  | .cons op f ex th el rest, b, o, ⟨h1, h2, h3, h4, ⟨v, h5, h5'⟩, ⟨ao, cap, h6, h7, h8⟩, ⟨ao2, cap2, k6, k7, k8⟩, h9⟩ =>
    ⟨h1, hAB _ h1 h2, h3, h4, ⟨v, h5, h5'.inMono hAB⟩, ⟨ao, cap, h6, h7, fun h0 => by
      obtain ⟨b', o', e, _, hr⟩ := h8 h0
      exact ⟨b', o', e, trivial, hr.inMono hAB⟩⟩, ⟨ao2, cap2, k6, k7, fun h0 => by
      obtain ⟨b', o', e, _, hr⟩ := k8 h0
      exact ⟨b', o', e, trivial, hr.inMono hAB⟩⟩, h9.inMono hAB⟩
theorem SlS.inMono {A B : Nat → Prop} {w : World} {up up' : Nat} {v : Value} {l : SL} (h : SlS (inZ A) w up v l) (hAB : ∀ k, k < w.heap.size → A k → B k) : SlS (inZ B) w up' v l := by
  obtain ⟨ao, cap, e, hc, hr⟩ := h
  refine ⟨ao, cap, e, hc, fun h0 => ?_⟩
  obtain ⟨b, o, e1, _, hx⟩ := hr h0
  exact ⟨b, o, e1, trivial, hx.inMono hAB⟩
theorem SsIn.inKeep {A F : Nat → Prop} {w w' : World} (hk : Keeps F w w') (hF : ∀ k, k < w.heap.size → A k → ¬ F k) : ∀ {l : SL} {xs : List Value}, SsIn (inZ A) w l xs → SsIn (inZ A) w' l xs
  | .nil, _, h => h
  | .cons _ _ _ _ _ _, _, ⟨xv, tv, ev, xs', e, h1, h2, h3, h⟩ => ⟨xv, tv, ev, xs', e, h1.inKeep hk hF, h2.inKeep hk hF, h3.inKeep hk hF, h.inKeep hk hF⟩
theorem SsIn.inMono {A B : Nat → Prop} {w : World} (hAB : ∀ k, k < w.heap.size → A k → B k) : ∀ {l : SL} {xs : List Value}, SsIn (inZ A) w l xs → SsIn (inZ B) w l xs
  | .nil, _, h => h
  | .cons _ _ _ _ _ _, _, ⟨xv, tv, ev, xs', e, h1, h2, h3, h⟩ => ⟨xv, tv, ev, xs', e, h1.inMono hAB, h2.inMono hAB, h3.inMono hAB, h.inMono hAB⟩
theorem SsIn.stInZ {A B : Nat → Prop} {w : World} {b : Nat} (hb : b < w.heap.size) (hB : B b) (hAB : ∀ k, k < w.heap.size → A k → B k) : ∀ {l : SL} {xs : List Value} {o : Nat}, SsIn (inZ A) w l xs → (∀ j x, xs[j]? = some x → w.cell? ⟨b, o + j, none⟩ = some x) → StIn (inZ B) w l b o
  | .nil, _, _, _, _ => trivial
  | .cons op f x t e r, _, o, ⟨xv, tv, ev, xs', ee, h1, h2, h3, h4⟩, hc => by
    subst ee
    obtain ⟨ao, cap, et, hcap, hr⟩ := h2.inMono (up' := b) hAB
    obtain ⟨ao2, cap2, ee2, hcap2, hr2⟩ := h3.inMono (up' := b) hAB
    refine ⟨hb, hB, hc 0 _ rfl, hc 1 _ rfl, ⟨xv, hc 2 _ rfl, h1.inMono hAB⟩, ⟨ao, cap, by rw [← et]; exact hc 3 _ rfl, hcap, hr⟩, ⟨ao2, cap2, by rw [← ee2]; exact hc 4 _ rfl, hcap2, hr2⟩, SsIn.stInZ hb hB hAB h4 (fun j x hx => ?_)⟩
    rw [show o + 5 + j = o + (j + 5) by omega]
    exact hc (j + 5) x (by simpa using hx)
/-- What a copy of statements leaves. -/
def CPostS (l : SL) (w : World) (e : Ending) (w' : World) : Prop := ∃ v', e = .returned v' ∧ SlS (inZ (fun k => w.heap.size ≤ k)) w' 0 v' l ∧ Keeps (fun _ => False) w w'

set_option maxRecDepth 100000 in
set_option maxHeartbeats 8000000 in
theorem copyStmts_v (Z : Zone) (N : Nat) : ∀ (l : SL), l.size < N → l.size ≤ 4294967294 → ∀ (w : World) (up : Nat) (v : Value), SlS Z w up v l → Calls Tryz.prog 20 #[v] w (CPostS l w) := by
  induction N with
  | zero => intro l h; omega
  | succ N ih =>
    intro l hsz hlen' w up v hS
    have hlen : l.len ≤ 4294967294 := by have := SL.len_le l; omega
    obtain ⟨ao, cap, b, off, rfl, hcap, ha, hx⟩ := hS.open
    obtain ⟨i0, hi, hz0, hz1, hz2⟩ := info_parts Tryz.info53
    have IH := hide ih
    have HX := hide hx
    have HA := hide ha
    clear hS ih hx ha
    go_enter Tryz.func20, Tryz.ntmps20
    go_wp2_with fail
    go_loopw [3, 4] (fun o i wr => ∃ (pre rest : SL) (k : Nat) (xs : List Value) (A : Nat → Prop), i = .int .i64 k ∧ l = pre.app rest ∧ k = pre.len ∧ wr.ownsRow w.heap.size 53 5 o k xs ∧ SsIn (inZ A) wr pre xs ∧ (∀ q, A q → w.heap.size ≤ q ∧ q < wr.heap.size ∧ o.ownBlock ≠ some q) ∧ Keeps (fun _ => False) w wr ∧ StIn Z w rest b (off + k * 5)) (fun _ i _ => l.len - (intOf i).toNat)
    case atStart => exact ⟨.nil, l, 0, [], fun _ => False, rfl, rfl, rfl, World.ownsRow_nil w w.heap.size 53 5, rfl, fun q h => h.elim, Keeps.refl _ _, by simpa using unhide HX⟩
    case round =>
      obtain ⟨pre, rest, k, xs, A, rfl, happ, hkp, hown, hcs, hAq, hkeep, hr⟩ := hrel
      obtain ⟨oo, oc, rfl⟩ := (rowAt_own hown).form
      have hll := congrArg SL.len happ
      have hls := congrArg SL.size happ
      rw [SL.len_app] at hll
      rw [SL.size_app] at hls
      have HO := hide hown
      have HCS := hide hcs
      have HAQ := hide hAq
      have HK := hide hkeep
      have HAPP := hide happ
      cases rest with
      | nil =>
        rw [SL.app_nil] at happ
        subst happ
        simp only [SL.len, SL.size] at hll hls
        have i1 : ¬ (k : Int) < (l.len : Int) := by omega
        subst hkp
        clear hown hcs hAq hkeep hr hll hls HAPP
        go_wp2_with fail
        go_ret
        have hrow := rowAt_own (unhide HO)
        refine ⟨_, rfl, ⟨oo, oc, rfl, hrow.room _ _ _ rfl, fun h0 => ?_⟩, unhide HK⟩
        obtain ⟨g, goff, gc, e, hg, hgc⟩ := hrow.cells (by omega)
        simp at e
        obtain ⟨rfl, rfl⟩ := e
        have hge : w.heap.size ≤ g := ((unhide HO).lt g rfl).1
        exact ⟨g, goff, rfl, trivial, SsIn.stInZ hg hge (fun q _ h => ((unhide HAQ) q h).1) (unhide HCS) hgc⟩
      | cons op f x t el rest =>
        obtain ⟨h1, h2, h3, h4, ⟨xv, h5, hxs⟩, ⟨tao, tcap, h6, h7, h8⟩, ⟨eao, ecap, j6, j7, j8⟩, h9⟩ := hr
        simp only [SL.len, SL.size] at hll hls
        have hkl : k + (rest.len + 1) = l.len := by omega
        obtain ⟨xao, xcap, rfl, hxl⟩ := hxs.head
        have hst : x.size < N ∧ x.size ≤ 4294967294 ∧ t.size < N ∧ t.size ≤ 4294967294 ∧ el.size < N ∧ el.size ≤ 4294967294 := by omega
        have HKP := hide hkp
        have HST := hide hst
        clear hll hls hkp hst
        obtain ⟨rfl, hp⟩ := (unhide HA) (by omega)
        have HXS : Hid (SlE Z w b (.slice xao x.len xcap) x) := hxs
        have HTS : Hid (SlS Z w b (.slice tao t.len tcap) t) := ⟨tao, tcap, rfl, h7, h8⟩
        have HES : Hid (SlS Z w b (.slice eao el.len ecap) el) := ⟨eao, ecap, rfl, j7, j8⟩
        have HR := hide h9
        have i1 : (k : Int) < (l.len : Int) := by omega
        have ix0 : (0 : Int) ≤ (k : Int) := by omega
        have QX : ∀ W, Keeps (fun _ => False) w W → W.cell? ⟨b, off + k * 5, none⟩ = some (.int .i64 op) ∧ W.cell? ⟨b, off + k * 5 + 1, none⟩ = some (str f) ∧ W.cell? ⟨b, off + k * 5 + 2, none⟩ = some (.slice xao x.len xcap) ∧ W.cell? ⟨b, off + k * 5 + 3, none⟩ = some (.slice tao t.len tcap) ∧ W.cell? ⟨b, off + k * 5 + 4, none⟩ = some (.slice eao el.len ecap) := fun W hk =>
          ⟨(hk.cell h1 id).trans h3, (hk.cell h1 id).trans h4, (hk.cell h1 id).trans h5, (hk.cell h1 id).trans h6, (hk.cell h1 id).trans j6⟩
        have q0 := QX wr hkeep
        have hB0 : w.heap.size ≤ wr.heap.size := hkeep.size
        have HB0 := hide hB0
        obtain ⟨HBk, hkbb, hkc⟩ := boxedT wr #[.int .i64 op, str f, .slice xao x.len xcap, .slice tao t.len tcap, .slice eao el.len ecap] 53
        have HBX := hide (heap_alloc_new wr (.cells #[.int .i64 op, str f, .slice xao x.len xcap, .slice tao t.len tcap, .slice eao el.len ecap] 53))
        have HKw0 : Hid (Keeps (fun _ => False) w (wr.alloc (.cells #[.int .i64 op, str f, .slice xao x.len xcap, .slice tao t.len tcap, .slice eao el.len ecap] 53))) := hkeep.trans (unhide HBk)
        have qq := QX _ (unhide HKw0)
        have HQX := hide QX
        have HCX := hide (copyExprs_v Z (x.size + 1) x (by omega) (unhide HST).2.1 (wr.alloc (.cells #[.int .i64 op, str f, .slice xao x.len xcap, .slice tao t.len tcap, .slice eao el.len ecap] 53)) b _ ((unhide HXS).keepF (unhide HKw0)))
        have HCT := hide (fun (w' : World) (hk : Keeps (fun _ => False) w w') => And.intro (unhide IH t (unhide HST).2.2.1 (unhide HST).2.2.2.1 w' b _ ((unhide HTS).keepF hk)) (unhide IH el (unhide HST).2.2.2.2.1 (unhide HST).2.2.2.2.2 w' b _ ((unhide HES).keepF hk)))
        have mk1 : True := trivial
        clear hown hcs hAq hkeep h1 h2 h3 h4 h5 h6 h8 h9 j6 j8 happ hkc hxs QX
        go_wp2_with (first
          | (clear mk1; go_at_call 39; refine (unhide HCX).mono ?_; rintro e w1 ⟨xv1, rfl, hs1, hk1⟩; obtain ⟨xo1, xc1, rfl, _⟩ := hs1.head; have hb1 := (hk1.block _ hkbb id).trans (unhide HBX); have m2 := cell_of_blk hb1 2; simp at m2; have g2 := frozen_of_blk hb1 2; have hn1 : (w1.setCell ⟨wr.heap.size, 2, none⟩ (.slice xo1 x.len xc1)).heap[wr.heap.size]? = some (.cells #[.int .i64 op, str f, .slice xo1 x.len xc1, .slice tao t.len tcap, .slice eao el.len ecap] 53 (0, 0)) := (by simpa using heap_setCell_at (o := 2) hb1 (.slice xo1 x.len xc1)); have HN1 := hide hn1; have hset1 : Keeps (fun q => q = wr.heap.size) w1 (w1.setCell ⟨wr.heap.size, 2, none⟩ (.slice xo1 x.len xc1)) := keeps_set _ _ _ _; have HS1 := hide hset1; have HKw1 := hide ((unhide HKw0).narrow (hk1.any.trans hset1) (fun q e => by omega)); have q1 := unhide HQX _ (unhide HKw1); have HX1 := hide hs1; have HK1 := hide hk1; have hz1' := hk1.size; clear hs1 hk1 hb1 hn1 hset1; have mk2 : True := trivial)
          | (clear mk2; go_at_call 20; refine (unhide HCT _ (unhide HKw1)).1.mono ?_; rintro e w2 ⟨tv2, rfl, hs2, hk2⟩; obtain ⟨to2, tc2, rfl, _⟩ := hs2.head; have hb2 := (hk2.block _ (lt_of_block (unhide HN1)) id).trans (unhide HN1); have m3 := cell_of_blk hb2 3; simp at m3; have g3 := frozen_of_blk hb2 3; have hn2 : (w2.setCell ⟨wr.heap.size, 3, none⟩ (.slice to2 t.len tc2)).heap[wr.heap.size]? = some (.cells #[.int .i64 op, str f, .slice xo1 x.len xc1, .slice to2 t.len tc2, .slice eao el.len ecap] 53 (0, 0)) := (by simpa using heap_setCell_at (o := 3) hb2 (.slice to2 t.len tc2)); have HN2 := hide hn2; have hset2 : Keeps (fun q => q = wr.heap.size) w2 (w2.setCell ⟨wr.heap.size, 3, none⟩ (.slice to2 t.len tc2)) := keeps_set _ _ _ _; have HS2 := hide hset2; have HKw2 := hide ((unhide HKw1).narrow (hk2.any.trans hset2) (fun q e => by omega)); have q2 := unhide HQX _ (unhide HKw2); have HX2 := hide hs2; have HK2 := hide hk2; have hz2' := hk2.size; clear hs2 hk2 hb2 hn2 hset2; have mk3 : True := trivial)
          | (clear mk3; go_at_call 20; refine (unhide HCT _ (unhide HKw2)).2.mono ?_; rintro e w3 ⟨ev3, rfl, hs3, hk3⟩; obtain ⟨eo3, ec3, rfl, _⟩ := hs3.head; have hb3 := (hk3.block _ (lt_of_block (unhide HN2)) id).trans (unhide HN2); have m4 := cell_of_blk hb3 4; simp at m4; have g4 := frozen_of_blk hb3 4; have hn3 : (w3.setCell ⟨wr.heap.size, 4, none⟩ (.slice eo3 el.len ec3)).heap[wr.heap.size]? = some (.cells #[.int .i64 op, str f, .slice xo1 x.len xc1, .slice to2 t.len tc2, .slice eo3 el.len ec3] 53 (0, 0)) := (by simpa using heap_setCell_at (o := 4) hb3 (.slice eo3 el.len ec3)); have HN3 := hide hn3; have r0 := cell_of_blk hn3 0; have r1 := cell_of_blk hn3 1; have r2 := cell_of_blk hn3 2; have r3 := cell_of_blk hn3 3; have r4 := cell_of_blk hn3 4; simp at r0 r1 r2 r3 r4; have hset3 : Keeps (fun q => q = wr.heap.size) w3 (w3.setCell ⟨wr.heap.size, 4, none⟩ (.slice eo3 el.len ec3)) := keeps_set _ _ _ _; have HS3 := hide hset3; have HKw3 := hide ((unhide HKw2).narrow (hk3.any.trans hset3) (fun q e => by omega)); have HX3 := hide hs3; have HK3 := hide hk3; have hz3' := hk3.size; clear hs3 hk3 hb3 hn3 hset3; have hkr : Keeps (fun q => q = wr.heap.size) wr ((w3.setCell ⟨wr.heap.size, 4, none⟩ (.slice eo3 el.len ec3)).alloc (.cells #[.int .i64 op, str f, .slice xo1 x.len xc1, .slice to2 t.len tc2, .slice eo3 el.len ec3] 53)) := ((((((((Keeps.refl _ wr).alloc (.cells #[.int .i64 op, str f, .slice xao x.len xcap, .slice tao t.len tcap, .slice eao el.len ecap] 53)).trans (unhide HK1).any).trans (unhide HS1)).trans (unhide HK2).any).trans (unhide HS2)).trans (unhide HK3).any).trans (unhide HS3)).alloc _; have HOX := hide (ownsRow_kept (unhide HO) hkr (fun q e h => by have := ((unhide HO).lt q e).2; omega)); have HNB : Hid (((w3.setCell ⟨wr.heap.size, 4, none⟩ (.slice eo3 el.len ec3)).alloc (.cells #[.int .i64 op, str f, .slice xo1 x.len xc1, .slice to2 t.len tc2, .slice eo3 el.len ec3] 53)).heap[w3.heap.size]? = some (.cells #[.int .i64 op, str f, .slice xo1 x.len xc1, .slice to2 t.len tc2, .slice eo3 el.len ec3] 53 (0, 0))) := (by have h := heap_alloc_new (w3.setCell ⟨wr.heap.size, 4, none⟩ (.slice eo3 el.len ec3)) (.cells #[.int .i64 op, str f, .slice xo1 x.len xc1, .slice to2 t.len tc2, .slice eo3 el.len ec3] 53); simpa [Hid] using h); clear hkr; have mk4 : True := trivial)
          | (clear mk4; at_builtin; refine wpList_append_lies _ rfl _ _ _ rfl w.heap.size 53 i0 _ 5 96 Tryz.underlying25 hi hz0 hz1 hz2 rfl (by omega) (.slice oo k oc) k xs rfl (unhide HOX) ⟨w3.heap.size, 0, none⟩ 1 1 [.int .i64 op, str f, .slice xo1 x.len xc1, .slice to2 t.len tc2, .slice eo3 el.len ec3] rfl rfl (World.news_of_block (cs := #[.int .i64 op, str f, .slice xo1 x.len xc1, .slice to2 t.len tc2, .slice eo3 el.len ec3]) (t := 53) (fr := (0, 0)) (unhide HNB)) (by simp [Value.oneCell']) (by omega) (by unfold maxLen; omega) (by omega) (by have := unhide HB0; simp at hz1' hz2' hz3' ⊢; omega) (w3.heap.size + 1) (by simp) ?_; intro g6 c6 w6 hown6 hgrow hat hlt6; have HO6 := hide hown6; have HGR := hide hgrow; have HAT := hide hat; clear hown6 hgrow hat))
        go_roundw
        case rel =>
          have hgr := unhide HGR
          have hB0 := unhide HB0
          have hol : ∀ q, (Value.slice oo k oc).ownBlock = some q → w.heap.size ≤ q ∧ q < wr.heap.size := fun q e => (unhide HO).lt q e
          have hz : wr.heap.size + 1 ≤ w1.heap.size ∧ w1.heap.size ≤ w2.heap.size ∧ w2.heap.size ≤ w3.heap.size := by simp at hz1' hz2' hz3'; omega
          have k36 : Keeps (fun q => q = wr.heap.size ∨ (Value.slice oo k oc).ownBlock = some q) w3 w6 := (((unhide HS3).mono (fun q _ e => Or.inl e)).alloc _).grown hgr (fun q e _ => Or.inr e)
          have k26 : Keeps (fun q => q = wr.heap.size ∨ (Value.slice oo k oc).ownBlock = some q) w2 w6 := ((unhide HS2).mono (fun q _ e => Or.inl e)).trans ((unhide HK3).any.trans k36)
          have k16 : Keeps (fun q => q = wr.heap.size ∨ (Value.slice oo k oc).ownBlock = some q) w1 w6 := ((unhide HS1).mono (fun q _ e => Or.inl e)).trans ((unhide HK2).any.trans k26)
          have kr6 : Keeps (fun q => q = wr.heap.size ∨ (Value.slice oo k oc).ownBlock = some q) wr w6 := ((Keeps.refl _ wr).alloc _).trans ((unhide HK1).any.trans k16)
          have kw6 : Keeps (fun _ => False) w w6 := (unhide HK).narrow kr6 (fun q e => e.elim (fun h => by omega) (fun h => (hol q h).1))
          have far : ∀ q, wr.heap.size + 1 ≤ q → ¬ (q = wr.heap.size ∨ (Value.slice oo k oc).ownBlock = some q) := fun q hq e => e.elim (fun h => by omega) (fun h => by have := hol q h; omega)
          have s1 := SsIn.inMono (B := fun q => A q ∨ (wr.heap.size + 1 ≤ q ∧ q < w3.heap.size)) (fun _ _ h => Or.inl h) ((unhide HCS).inKeep kr6 (fun q _ h e => e.elim (fun h' => by have := (unhide HAQ) q h; omega) (fun h' => ((unhide HAQ) q h).2.2 h')))
          have sx : SlE (inZ (fun q => A q ∨ (wr.heap.size + 1 ≤ q ∧ q < w3.heap.size))) w6 0 (.slice xo1 x.len xc1) x :=
            (((unhide HX1).inMono (up' := 0) (B := fun q => wr.heap.size + 1 ≤ q ∧ q < w1.heap.size) (fun q hq h => ⟨by simpa using h, hq⟩)).inKeep k16 (fun q _ h => far q h.1)).inMono (fun _ _ h => Or.inr ⟨h.1, by have := h.2; omega⟩)
          have st : SlS (inZ (fun q => A q ∨ (wr.heap.size + 1 ≤ q ∧ q < w3.heap.size))) w6 0 (.slice to2 t.len tc2) t :=
            (((unhide HX2).inMono (up' := 0) (B := fun q => wr.heap.size + 1 ≤ q ∧ q < w2.heap.size) (fun q hq h => ⟨by simp at h; omega, hq⟩)).inKeep k26 (fun q _ h => far q h.1)).inMono (fun _ _ h => Or.inr ⟨h.1, by have := h.2; omega⟩)
          have se : SlS (inZ (fun q => A q ∨ (wr.heap.size + 1 ≤ q ∧ q < w3.heap.size))) w6 0 (.slice eo3 el.len ec3) el :=
            (((unhide HX3).inMono (up' := 0) (B := fun q => wr.heap.size + 1 ≤ q ∧ q < w3.heap.size) (fun q hq h => ⟨by simp at h; omega, hq⟩)).inKeep k36 (fun q _ h => far q h.1)).inMono (fun _ _ h => Or.inr h)
          have s2 : SsIn (inZ (fun q => A q ∨ (wr.heap.size + 1 ≤ q ∧ q < w3.heap.size))) w6 (.cons op f x t el .nil) [.int .i64 op, str f, .slice xo1 x.len xc1, .slice to2 t.len tc2, .slice eo3 el.len ec3] := ⟨_, _, _, [], rfl, sx, st, se, rfl⟩
          have hs6 : w3.heap.size + 1 ≤ w6.heap.size := by have := hgr.size; simp at this; omega
          refine ⟨pre.app (.cons op f x t el .nil), rest, k + 1, _, _, by go_num, ?_, ?_, unhide HO6, s1.app s2, fun q hq => ?_, kw6, ?_⟩
          · rw [app_oneS]; exact unhide HAPP
          · rw [SL.len_app, unhide HKP]; rfl
          · rcases hq with hq | hq
            · obtain ⟨a1, a2, a3⟩ := (unhide HAQ) q hq
              refine ⟨a1, by omega, fun e => ?_⟩
              have e' : g6 = q := by simpa [Value.ownBlock] using e
              rcases unhide HAT with h | h
              · exact a3 (by rw [h, e'])
              · omega
            · refine ⟨by omega, by omega, fun e => ?_⟩
              have e' : g6 = q := by simpa [Value.ownBlock] using e
              rcases unhide HAT with h | h
              · have := hol _ h; omega
              · omega
          · rw [show off + (k + 1) * 5 = off + k * 5 + 5 by omega]
            exact unhide HR
        case measure => simp [intOf]; omega
end Go.Proofs.YtoempeobaknkcaaGreatDoor
namespace Go.Proofs.YtoempeobaknkcaaGreatDoor
open Go.RowKit Go.Maps

def kD (k : KA) : DataW Unit := .agg [.lit (.int .i64 k.t), .lit (.bool k.o)]
/-- How an element of the map of fields reads. -/
def kindElem (v : Value) : Option (DataW Unit × List MemPlace) := match v with
  | .agg a => match a.toList with
    | [.int .i64 t, .bool o] => some (kD ⟨t, o⟩, [])
    | _ => none
  | _ => none
theorem kindElem_mk (k : KA) : kindElem (kindV k) = some (kD k, []) := rfl
theorem kindElem_inv {v : Value} {k : KA} {ps : List MemPlace} (h : kindElem v = some (kD k, ps)) : v = kindV k := by
  unfold kindElem at h
  split at h
  · rename_i a
    split at h
    · rename_i t o e
      simp [kD] at h
      obtain ⟨⟨h1, h2⟩, _⟩ := h
      obtain ⟨l⟩ := a
      simp at e
      rw [e, h1, h2]
    · cases h
  · cases h
theorem strKeyed : Keyed Tryz.prog 9 := string_keyed Tryz.underlying9
theorem keyStr {s : Txt} (h : s.length ≤ 1000) : keyOf Tryz.prog 9 (str s) = some (.string s) := by
  have := WideMaps.keyOf_string_mk (P := Tryz.prog) (k := 9) Tryz.underlying9 (s := ⟨s.toArray⟩) (by show s.toArray.size ≤ maxLen; unfold maxLen; simp; omega)
  simpa using this
/-- The map of fields. -/
def mapD (m : DataW Unit) (l : List FieldA) : DataW Unit := l.foldl (fun m f => m.put (.string f.name) (kD ⟨f.type, f.opt⟩)) m
theorem mapD_snoc (m : DataW Unit) (l : List FieldA) (f : FieldA) : mapD m (l ++ [f]) = (mapD m l).put (.string f.name) (kD ⟨f.type, f.opt⟩) := by simp [mapD, List.foldl_append]
theorem isKeyStr (s : Txt) : WideAt.IsKeyLit (.string s) := by simp [WideAt.IsKeyLit]
theorem fieldOf_none {l : List FieldA} {nm : Txt} (h : ∀ g ∈ l, g.name ≠ nm) : fieldOf l nm = none := by
  unfold fieldOf
  rw [List.find?_eq_none]
  intro g hg
  simpa using h g hg
theorem mapD_at (nm : Txt) (z : DataW Unit) : ∀ (l : List FieldA) (m : DataW Unit), IsMap m → (l.map FieldA.name).Nodup → (mapD m l).atKey (.string nm) z = (match fieldOf l nm with | some f => kD ⟨f.type, f.opt⟩ | none => m.atKey (.string nm) z) ∧ Maps.has (mapD m l) (.string nm) = ((fieldOf l nm).isSome || Maps.has m (.string nm))
  | [], m, _, _ => by simp [mapD, fieldOf]
  | f :: r, m, hm, hn => by
    have hn2 : (r.map FieldA.name).Nodup ∧ ∀ g ∈ r, g.name ≠ f.name := by
      simp only [List.map_cons, List.nodup_cons, List.mem_map, not_exists, not_and] at hn
      exact ⟨hn.2, fun g hg => hn.1 g hg⟩
    have ih := mapD_at nm z r (m.put (.string f.name) (kD ⟨f.type, f.opt⟩)) (hm.put _ _) hn2.1
    have e : mapD m (f :: r) = mapD (m.put (.string f.name) (kD ⟨f.type, f.opt⟩)) r := rfl
    rw [e, ih.1, ih.2]
    by_cases h : f.name = nm
    · subst h
      have e1 : fieldOf r f.name = none := fieldOf_none hn2.2
      have e2 : fieldOf (f :: r) f.name = some f := by simp [fieldOf]
      rw [e1, e2]
      exact ⟨atKey_put_same hm (isKeyStr _) _ _, by simp [has_put_same hm (isKeyStr f.name)]⟩
    · have e2 : fieldOf (f :: r) nm = fieldOf r nm := by simp [fieldOf, h]
      have hne : (Lit.string nm) ≠ .string f.name := fun e => h (by simpa using e.symm)
      rw [e2, atKey_put_other hne, has_put_other hne]
      exact ⟨rfl, rfl⟩
theorem zero90 (w : World) : (zeroValue 80).run Tryz.prog w = .ok (kindV ⟨0, false⟩) w := by kernel_rfl
/-- A judge's map lies so. -/
structure MapAt (w : World) (j mb n : Nat) (S : List FieldA) : Prop where
  lt : j < w.heap.size
  cell : w.cell? ⟨j, 0, none⟩ = some (.map (some mb))
  map : w.ownsMap Tryz.prog 9 kindElem mb n (mapD (.map []) S)
theorem ownsMap_keep {w w' : World} {mb n : Nat} {D : DataW Unit} (h : w.ownsMap Tryz.prog 9 kindElem mb n D) {F : Nat → Prop} (hk : Keeps F w w') (hF : ¬ F mb) : w'.ownsMap Tryz.prog 9 kindElem mb n D := by
  obtain ⟨es, clock, hb, r⟩ := h
  exact ⟨es, clock, (hk.block _ (lt_of_block hb) hF).trans hb, r⟩
theorem MapAt.keepF {w w' : World} {j mb n : Nat} {S : List FieldA} (h : MapAt w j mb n S) (hk : Keeps (fun _ => False) w w') : MapAt w' j mb n S :=
  ⟨Nat.lt_of_lt_of_le h.lt hk.size, (hk.cell h.lt id).trans h.cell, ownsMap_keep h.map hk id⟩
theorem MapAt.look {w : World} {j mb n : Nat} {S : List FieldA} (h : MapAt w j mb n S) (hS : (S.map FieldA.name).Nodup) {nm : Txt} (hl : nm.length ≤ 1000) :
    (Instr.lookup 92 (.map (some mb)) (str nm) true).run Tryz.prog w = .ok (.tuple #[kindV (namedK S nm).1, .bool (fieldOf S nm).isSome]) w := by
  obtain ⟨v, ps, hrun, hv⟩ := h.map.look_ok strKeyed Tryz.underlying92 (zero90 w) (kindElem_mk ⟨0, false⟩) (keyStr hl)
  obtain ⟨h1, h2⟩ := mapD_at nm (kD ⟨0, false⟩) S (.map []) ⟨[], rfl⟩ hS
  have e2 : Maps.has (DataW.map ([] : List (Lit × DataW Unit))) (.string nm) = false := rfl
  rw [h2, e2, Bool.or_false] at hrun
  rw [h1] at hv
  have e3 : kindElem v = some (kD (namedK S nm).1, ps) := by
    rw [hv]
    unfold namedK
    cases fieldOf S nm <;> rfl
  rw [kindElem_inv e3] at hrun
  exact hrun
set_option maxRecDepth 100000 in
set_option maxHeartbeats 1000000 in
theorem namedJ_core (j mb : Nat) (nm : Txt) (w : World) (T E : Int) (O I : Bool) (hE : unlessI I 90 = E) (c0 : (w.alloc (.cells #[.int .i64 0, .bool false] 80)).cell? ⟨j, 0, none⟩ = some (.map (some mb)))
    (hrun : (Instr.lookup 92 (.map (some mb)) (str nm) true).run Tryz.prog (w.alloc (.cells #[.int .i64 0, .bool false] 80)) = .ok (.tuple #[.agg #[.int .i64 T, .bool O], .bool I]) (w.alloc (.cells #[.int .i64 0, .bool false] 80))) :
    Calls Tryz.prog 95 #[.pointer (some ⟨j, 0, none⟩), str nm] w fun e w' => e = .returned (.tuple #[.agg #[.int .i64 T, .bool O], .int .i64 E]) ∧ Keeps (fun _ => False) w w' := by
  have HU := fun w' => hide (unless_v I 90 w')
  rw [hE] at HU
  have HK0 : Hid (Keeps (fun _ => False) w (w.alloc (.cells #[.int .i64 0, .bool false] 80))) := (Keeps.refl _ w).alloc _
  obtain ⟨HB, hxb, hxc⟩ := boxed (w.alloc (.cells #[.int .i64 0, .bool false] 80)) #[.int .i64 T, .bool O] 80
  have hsz : (w.alloc (.cells #[.int .i64 0, .bool false] 80)).heap.size = w.heap.size + 1 := by simp
  have d0 : ((w.alloc (.cells #[.int .i64 0, .bool false] 80)).alloc (.cells #[.int .i64 T, .bool O] 80)).drew.cell? ⟨w.heap.size + 1, 0, none⟩ = some (.int .i64 T) := by have := hxc 0 (.int .i64 T) rfl; rw [hsz] at this; exact this
  have d1 : ((w.alloc (.cells #[.int .i64 0, .bool false] 80)).alloc (.cells #[.int .i64 T, .bool O] 80)).drew.cell? ⟨w.heap.size + 1, 1, none⟩ = some (.bool O) := by have := hxc 1 (.bool O) rfl; rw [hsz] at this; exact this
  rw [hsz] at hxb
  have HX : Hid (((w.alloc (.cells #[.int .i64 0, .bool false] 80)).alloc (.cells #[.int .i64 T, .bool O] 80)).heap[w.heap.size]? = some (.cells #[.int .i64 0, .bool false] 80 (0, 0))) := ((unhide HB).block _ (by simp) id).trans (heap_alloc_new w _)
  have HUK := fun w' => hide ((unhide (HU w')).mono (fun e w2 ⟨he, hw⟩ => (⟨he, by rw [hw]; exact Keeps.refl _ _⟩ : e = Ending.returned (.int .i64 E) ∧ Keeps (fun _ => False) w' w2)))
  have hne : ¬ w.heap.size + 1 = w.heap.size := by omega
  clear hxc hE HU
  go_enter Tryz.func95, Tryz.ntmps95
  go_wp2_with fail
  go_region_held3 (fun w' => w'.cell? ⟨w.heap.size + 1, 0, none⟩ = some (.int .i64 T) ∧ w'.cell? ⟨w.heap.size + 1, 1, none⟩ = some (.bool O)) (first | with_reducible exact ⟨d0, d1⟩ | with_reducible exact ⟨r0, r1⟩ | with_reducible exact ⟨t0, t1⟩)
    ((go_at_call 100; refine (unhide (HUK _)).mono ?_; rintro e w1 ⟨rfl, hk1⟩; have r0 := (hk1.cell (o := 0) hxb id).trans d0; have r1 := (hk1.cell (o := 1) hxb id).trans d1; have hb1 := (hk1.block w.heap.size (Nat.lt_trans (Nat.lt_succ_self _) hxb) id).trans (unhide HX); have t0 := ((keeps_set2 w1 w.heap.size (.int .i64 T) (.bool O)).cell (Nat.lt_of_lt_of_le hxb hk1.size) hne).trans r0; have t1 := ((keeps_set2 w1 w.heap.size (.int .i64 T) (.bool O)).cell (Nat.lt_of_lt_of_le hxb hk1.size) hne).trans r1; have m0 := cell_of_blk hb1 0; have m1 := cell_of_blk hb1 1; simp at m0 m1; have g0 := frozen_of_blk hb1 0; have g1 := frozen_of_blk hb1 1; have HB1 := hide hb1; have HK1 := hide (((unhide HK0).trans (unhide HB)).trans ((Keeps.refl _ _).drew.trans hk1)); clear hk1 hb1))
  all_goals go_wp2_with fail
  all_goals (obtain ⟨⟨s0, s1, _⟩, hks2⟩ := set2 (unhide HB1) (.int .i64 T) (.bool O); refine bodyPost_ret (v := .tuple #[.agg #[.int .i64 T, .bool O], .int .i64 E]) (by simp [results, go_sem, s0, s1]) rfl ?_; exact ⟨rfl, (unhide HK1).narrow hks2 (fun q e => by omega)⟩)
theorem namedJ_v (j mb n : Nat) (S : List FieldA) (hS : (S.map FieldA.name).Nodup) (nm : Txt) (hl : nm.length ≤ 1000) (w : World) (h : MapAt w j mb n S) :
    Calls Tryz.prog 95 #[.pointer (some ⟨j, 0, none⟩), str nm] w fun e w' => e = .returned (kerV (namedK S nm)) ∧ Keeps (fun _ => False) w w' := by
  have h0 := h.keepF ((Keeps.refl _ w).alloc (.cells #[.int .i64 0, .bool false] 80))
  have e90 : unlessI (fieldOf S nm).isSome 90 = (namedK S nm).2 := by unfold namedK unlessI; cases fieldOf S nm <;> rfl
  exact namedJ_core j mb nm w _ _ _ _ e90 h0.cell (h0.look hS hl)
end Go.Proofs.YtoempeobaknkcaaGreatDoor
namespace Go.Proofs.YtoempeobaknkcaaGreatDoor
open Go.RowKit Go.Maps

theorem namedJ_led (j mb n : Nat) (S : List FieldA) (hS : (S.map FieldA.name).Nodup) (nm : Txt) (hl : nm.length ≤ 1000) {w : World} (h : MapAt w j mb n S) {R : Nat} {L : List (Nat × Int)} {cur : World} (hL : Led w R L cur) :
    Calls Tryz.prog 95 #[.pointer (some ⟨j, 0, none⟩), str nm] cur fun e w' => e = .returned (.tuple #[.agg #[.int .i64 (namedK S nm).1.t, .bool (namedK S nm).1.o], .int .i64 (namedK S nm).2]) ∧ Led w R L w' :=
  (namedJ_v j mb n S hS nm hl cur (h.keepF hL.kept)).mono fun _ _ ⟨he, hk⟩ => ⟨he, hL.keep hk⟩

set_option maxRecDepth 100000 in
set_option maxHeartbeats 1000000 in
theorem fieldF_v (j mb nn : Nat) (S : List FieldA) (hS : (S.map FieldA.name).Nodup) (op n : Int) (s : Txt) (hl : s.length ≤ 1000) (ao : Option Addr) (xn xc : Nat) (ko : Option Addr) (kn kc : Nat) (w : World) (h : MapAt w j mb nn S) :
    Calls Tryz.prog 72 #[.pointer (some ⟨j, 0, none⟩), .agg #[.int .i64 op, .int .i64 n, str s, .slice ao xn xc], .slice ko kn kc] w fun e w' => e = .returned (kerV (namedK S s)) ∧ Keeps (fun _ => False) w w' := by
  have HL := hide (led_start w #[.int .i64 op, .int .i64 n, str s, .slice ao xn xc] 57)
  have HN := hide (namedJ_led j mb nn S hS s hl h (unhide HL))
  have hk2 : kerV (namedK S s) = .tuple #[.agg #[.int .i64 (namedK S s).1.t, .bool (namedK S s).1.o], .int .i64 (namedK S s).2] := rfl
  rw [hk2]
  generalize (namedK S s).1.t = T at *
  generalize (namedK S s).1.o = O at *
  generalize (namedK S s).2 = E at *
  clear hk2 h
  go_enter Tryz.func72, Tryz.ntmps72
  go_wp2_with (go_at_call 95; refine (unhide HN).mono ?_; rintro e w1 ⟨rfl, hl1⟩; have m0 := cell_of_blk hl1.res 0; have m1 := cell_of_blk hl1.res 1; simp at m0 m1; have g0 := frozen_of_blk hl1.res 0; have g1 := frozen_of_blk hl1.res 1; have HL := hide hl1; clear hl1)
  obtain ⟨⟨s0, s1, _⟩, _⟩ := set2 (unhide HL).res (.int .i64 T) (.bool O)
  refine bodyPost_ret (v := .tuple #[.agg #[.int .i64 T, .bool O], .int .i64 E]) (by simp [results, go_sem, s0, s1]) rfl ?_
  exact ⟨rfl, (unhide HL).done (by omega) _ _⟩

theorem or_keep (es : List Int) (n : Nat) (hn : n = es.length) (hl : es.length ≤ 1000) (cur : World) : Calls Tryz.prog 96 #[.slice (some ⟨cur.heap.size, 0, none⟩) n n] (cur.alloc (.cells (ints es).toArray 30)) fun e w' => e = .returned (.int .i64 (orL es)) ∧ Keeps (fun _ => False) cur w' :=
  (or_v es _ _ (ints_new cur es 30 n hn) hl).mono fun _ _ ⟨he, hw⟩ => ⟨he, by subst hw; exact (Keeps.refl _ _).alloc _⟩
set_option maxRecDepth 100000 in
set_option maxHeartbeats 2000000 in
theorem hasF_v (j mb nn : Nat) (S : List FieldA) (hS : (S.map FieldA.name).Nodup) (op n : Int) (s : Txt) (hl : s.length ≤ 1000) (ao : Option Addr) (xn xc : Nat) (ko : Option Addr) (kn kc : Nat) (w : World) (h : MapAt w j mb nn S) :
    Calls Tryz.prog 73 #[.pointer (some ⟨j, 0, none⟩), .agg #[.int .i64 op, .int .i64 n, str s, .slice ao xn xc], .slice ko kn kc] w fun e w' => e = .returned (kerV (hasK S s)) ∧ Keeps (fun _ => False) w w' := by
  have HL := hide (led_start w #[.int .i64 op, .int .i64 n, str s, .slice ao xn xc] 57)
  have HN := hide (namedJ_led j mb nn S hS s hl h (unhide HL))
  have hk2 : kerV (hasK S s) = .tuple #[.agg #[.int .i64 2, .bool false], .int .i64 (orI (namedK S s).2 (optI ⟨(namedK S s).1.t, (namedK S s).1.o⟩))] := rfl
  rw [hk2]
  generalize (namedK S s).1.t = T at *
  generalize (namedK S s).1.o = O at *
  generalize (namedK S s).2 = E at *
  have hR : w.heap.size ≤ w.heap.size + 1 := Nat.le_succ _
  rw [← orL_two]
  clear hk2 h
  go_enter Tryz.func73, Tryz.ntmps73
  go_wp2_with (go_at_call 95; refine (unhide HN).mono ?_; rintro e w1 ⟨rfl, hl1⟩; have HLO := hide (lt_of_block hl1.res); have HB0 := hide (boxed w1 #[.int .i64 T, .bool O] 80); have HL := hide (hl1.keep ((Keeps.refl _ w1).alloc (.cells #[.int .i64 T, .bool O] 80))); clear hl1)
  have hb0 := unhide HB0
  have hxb := hb0.2.1
  have SK : ∀ w' : World, Keeps (fun _ => False) (w1.alloc (.cells #[.int .i64 T, .bool O] 80)) w' → w'.cell? ⟨w1.heap.size, 0, none⟩ = some (.int .i64 T) ∧ w'.cell? ⟨w1.heap.size, 1, none⟩ = some (.bool O) := fun w' hk =>
    ⟨(hk.cell hxb id).trans (hb0.2.2 0 (.int .i64 T) rfl), (hk.cell hxb id).trans (hb0.2.2 1 (.bool O) rfl)⟩
  have HSK := hide SK
  have HKB : Hid (Keeps (fun _ => False) (w1.alloc (.cells #[.int .i64 T, .bool O] 80)) (w1.alloc (.cells #[.int .i64 T, .bool O] 80))) := Keeps.refl _ _
  have hlo : w.heap.size + 1 < w1.heap.size := unhide HLO
  have hlo2 : w.heap.size + 1 < (w1.alloc (.cells #[.int .i64 T, .bool O] 80)).heap.size := Nat.lt_trans hlo hxb
  have hne : ¬ w1.heap.size = w.heap.size + 1 := by omega
  have d := unhide HSK (w1.alloc (.cells #[.int .i64 T, .bool O] 80)).drew (unhide HKB).drew
  clear SK hb0 HB0 HN
  go_region_held3 (fun w' => w'.cell? ⟨w1.heap.size, 0, none⟩ = some (.int .i64 T) ∧ w'.cell? ⟨w1.heap.size, 1, none⟩ = some (.bool O)) (first | with_reducible exact d | with_reducible exact unhide HSK _ (unhide HKB) | with_reducible exact unhide HSK _ ((unhide HKB).alloc _) | with_reducible exact t0)
    ((first
    | (go_at_call 94; refine (plain_v 2 _).mono ?_; rintro e w2 ⟨rfl, hk1⟩; have HL := hide ((unhide HL).keep ((Keeps.refl _ _).drew.trans hk1)); have HKB := hide ((unhide HKB).trans ((Keeps.refl _ _).drew.trans hk1)); clear hk1)
    | (go_at_call 97; refine (isOptional_v ⟨T, O⟩ _).mono ?_; rintro e w3 ⟨rfl, hk1⟩; have HL := hide ((unhide HL).keep hk1); have HKB := hide ((unhide HKB).trans hk1); clear hk1)
    | (go_at_call 96; refine (or_keep [E, optI ⟨T, O⟩] 2 rfl (by simp) _).mono ?_; rintro e w4 ⟨rfl, hk1⟩; have HL := hide ((unhide HL).keep hk1); have HKB := hide ((unhide HKB).trans hk1); have m0 := cell_of_blk (unhide HL).res 0; have m1 := cell_of_blk (unhide HL).res 1; simp at m0 m1; have g0 := frozen_of_blk (unhide HL).res 0; have g1 := frozen_of_blk (unhide HL).res 1; have hx4 := Nat.lt_of_lt_of_le hxb (unhide HKB).size; have t0 : ((w4.setCell ⟨w.heap.size + 1, 0, none⟩ (.int .i64 2)).setCell ⟨w.heap.size + 1, 1, none⟩ (.bool false)).cell? ⟨w1.heap.size, 0, none⟩ = some (.int .i64 T) ∧ ((w4.setCell ⟨w.heap.size + 1, 0, none⟩ (.int .i64 2)).setCell ⟨w.heap.size + 1, 1, none⟩ (.bool false)).cell? ⟨w1.heap.size, 1, none⟩ = some (.bool O) := ⟨((keeps_set2 w4 (w.heap.size + 1) _ _).cell hx4 hne).trans (unhide HSK _ (unhide HKB)).1, ((keeps_set2 w4 (w.heap.size + 1) _ _).cell hx4 hne).trans (unhide HSK _ (unhide HKB)).2⟩; clear hk1)))
  all_goals go_wp2_with fail
  all_goals (obtain ⟨⟨s0, s1, _⟩, _⟩ := set2 (unhide HL).res (.int .i64 2) (.bool false); refine bodyPost_ret (v := .tuple #[.agg #[.int .i64 2, .bool false], .int .i64 (orL [E, optI ⟨T, O⟩])]) (by simp [results, go_sem, s0, s1]) rfl ?_; exact ⟨rfl, (unhide HL).done (by omega) _ _⟩)
end Go.Proofs.YtoempeobaknkcaaGreatDoor
namespace Go.Proofs.YtoempeobaknkcaaGreatDoor
open Go.RowKit Go.Maps

theorem Tryz.info80 : (Tryz.prog.info? 80).map (fun i => (i.zero, i.size, i.bytes)) = some (some (kindV ⟨0, false⟩), 2, 16) := by kernel_rfl
/-- A list of kinds, made new. -/
theorem run_mkK (n : Nat) (hn : n ≤ 1000) (w : World) : ∃ c : Array Value, c.size = n * 2 ∧ (Instr.makeSlice 103 (.int .i64 (n : Int)) (.int .i64 (n : Int))).run Tryz.prog w = .ok (.slice (some ⟨w.heap.size, 0, none⟩) n n) (w.alloc (.cells c 80)) := by
  obtain ⟨i0, hi, hz0, hz1, hz2⟩ := info_parts Tryz.info80
  have q := run_make (P := Tryz.prog) w 103 80 i0 _ Tryz.underlying103 hi hz0 .i64 .i64 (n : Int) (n : Int) (by omega) (by omega) (by rw [hz2]; omega) (by omega)
  rw [hz1] at q
  have e : ((n : Int)).toNat = n := by omega
  rw [e] at q
  exact ⟨_, by rw [size_madeCells], q⟩
/-- This function value is that rule. -/
def RuleV (w : World) (j : Nat) (r : RuleA) (fv : Value) : Prop := match r with
  | .takes is ts => ∃ tb ib tv, fv = .func (.func 92) #[] #[.pointer (some ⟨tb, 0, none⟩), .pointer (some ⟨ib, 0, none⟩)] ∧ ib < w.heap.size ∧ tb < w.heap.size ∧ w.cell? ⟨ib, 0, none⟩ = some (.int .i64 is) ∧ w.cell? ⟨tb, 0, none⟩ = some tv ∧ IntsAt w tv ts
  | .compares ts => ∃ tb tv, fv = .func (.func 98) #[] #[.pointer (some ⟨tb, 0, none⟩)] ∧ tb < w.heap.size ∧ w.cell? ⟨tb, 0, none⟩ = some tv ∧ IntsAt w tv ts
  | .field => fv = .func (.func 72) #[.pointer (some ⟨j, 0, none⟩)] #[]
  | .has => fv = .func (.func 73) #[.pointer (some ⟨j, 0, none⟩)] #[]
  | .orElse => fv = .func (.func 75) #[] #[]
  | .pick => fv = .func (.func 76) #[] #[]
theorem RuleV.keepF {w w' : World} {j : Nat} {r : RuleA} {fv : Value} (h : RuleV w j r fv) (hk : Keeps (fun _ => False) w w') : RuleV w' j r fv := by
  cases r with
  | takes is ts =>
    obtain ⟨tb, ib, tv, e, h1, h2, h3, h4, h5⟩ := h
    exact ⟨tb, ib, tv, e, Nat.lt_of_lt_of_le h1 hk.size, Nat.lt_of_lt_of_le h2 hk.size, (hk.cell h1 id).trans h3, (hk.cell h2 id).trans h4, h5.keepF hk⟩
  | compares ts =>
    obtain ⟨tb, tv, e, h2, h4, h5⟩ := h
    exact ⟨tb, tv, e, Nat.lt_of_lt_of_le h2 hk.size, (hk.cell h2 id).trans h4, h5.keepF hk⟩
  | field => exact h
  | has => exact h
  | orElse => exact h
  | pick => exact h
/-- A judge over a schema. -/
structure JudgeAt (w : World) (j mb nn tab : Nat) (S : List FieldA) : Prop where
  map : MapAt w j mb nn S
  lt : tab < w.heap.size
  exprs : w.cell? ⟨j, 1, none⟩ = some (.slice (some ⟨tab, 0, none⟩) 26 26)
  rules : ∀ (m : Nat) (r : RuleA), (ruleL[m]?).join = some r → ∃ fv, w.cell? ⟨tab, m, none⟩ = some fv ∧ RuleV w j r fv
theorem JudgeAt.keepF {w w' : World} {j mb nn tab : Nat} {S : List FieldA} (h : JudgeAt w j mb nn tab S) (hk : Keeps (fun _ => False) w w') : JudgeAt w' j mb nn tab S :=
  ⟨h.map.keepF hk, Nat.lt_of_lt_of_le h.lt hk.size, (hk.cell h.map.lt id).trans h.exprs, fun m r hr => by
    obtain ⟨fv, h1, h2⟩ := h.rules m r hr
    exact ⟨fv, (hk.cell h.lt id).trans h1, h2.keepF hk⟩⟩
/-- The kinds of the kids, so far. -/
theorem kindsP_step (S : List FieldA) (op n : Int) (s : Txt) (kids rest : EL) (done : List KA) (all : List KA × Int)
    (h : all = if (kindsP S (.cons op n s kids rest)).2 ≠ 0 then ([], (kindsP S (.cons op n s kids rest)).2) else (done ++ (kindsP S (.cons op n s kids rest)).1, 0)) :
    ((kindP S op s kids).2 ≠ 0 → all = ([], (kindP S op s kids).2)) ∧ ((kindP S op s kids).2 = 0 → all = if (kindsP S rest).2 ≠ 0 then ([], (kindsP S rest).2) else (done ++ [(kindP S op s kids).1] ++ (kindsP S rest).1, 0)) := by
  rw [kindsP_cons] at h
  constructor
  · intro h0
    rw [if_pos h0] at h
    simpa [h0] using h
  · intro h0
    have e : ∀ A B : List KA × Int, (if (kindP S op s kids).2 ≠ 0 then A else B) = B := fun A B => if_neg (by simp [h0])
    simp only [e] at h
    by_cases h1 : (kindsP S rest).2 = 0
    · simp [h1] at h ⊢
      exact h
    · rw [if_pos h1]
      simpa [h1] using h
end Go.Proofs.YtoempeobaknkcaaGreatDoor
namespace Go.Proofs.YtoempeobaknkcaaGreatDoor
open Go.RowKit Go.Maps

set_option maxRecDepth 100000 in
theorem takes_v (j : Nat) (is : Int) (ts : List Int) (tv : Value) (w : World) (h : IntsAt w tv ts) :
    Calls Tryz.prog 71 #[.int .i64 is, tv] w fun e w' => ∃ fv, e = .returned fv ∧ RuleV w' j (.takes is ts) fv ∧ Keeps (fun _ => False) w w' := by
  obtain ⟨to, tc, rfl⟩ := RowAt.form h
  have hk : Keeps (fun _ => False) w ((w.alloc (.cells #[.int .i64 is] 3)).alloc (.cells #[.slice to ts.length tc] 45)) := ((Keeps.refl _ w).alloc _).alloc _
  have h1 : ((w.alloc (.cells #[.int .i64 is] 3)).alloc (.cells #[.slice to ts.length tc] 45)).cell? ⟨w.heap.size, 0, none⟩ = some (.int .i64 is) :=
    cell_past (by simp) (by rw [cell_of_blk (heap_alloc_new w _)]; rfl) _
  have e1 : (w.alloc (.cells #[.int .i64 is] 3)).heap.size = w.heap.size + 1 := by simp
  have h2 : ((w.alloc (.cells #[.int .i64 is] 3)).alloc (.cells #[.slice to ts.length tc] 45)).cell? ⟨w.heap.size + 1, 0, none⟩ = some (.slice to ts.length tc) := by
    have := heap_alloc_new (w.alloc (.cells #[.int .i64 is] 3)) (.cells #[.slice to ts.length tc] 45)
    rw [e1] at this
    rw [cell_of_blk this]; rfl
  have HR : Hid (RuleV ((w.alloc (.cells #[.int .i64 is] 3)).alloc (.cells #[.slice to ts.length tc] 45)) j (.takes is ts) (.func (.func 92) #[] #[.pointer (some ⟨w.heap.size + 1, 0, none⟩), .pointer (some ⟨w.heap.size, 0, none⟩)])) :=
    ⟨_, _, _, rfl, by simp; omega, by simp, h1, h2, h.keepF hk⟩
  have HK := hide hk
  have hmf : ∀ (fn : Fn) (first cap : Array Value) (w : World), (Instr.makeFunc fn first cap).run Tryz.prog w = .ok (.func fn first cap) w := fun _ _ _ _ => rfl
  clear h h1 h2 hk e1
  go_enter Tryz.func71, Tryz.ntmps71
  go_wp2_with fail
  go_ret
  exact ⟨_, rfl, unhide HR, unhide HK⟩
set_option maxRecDepth 100000 in
theorem compares_v (j : Nat) (ts : List Int) (tv : Value) (w : World) (h : IntsAt w tv ts) :
    Calls Tryz.prog 74 #[tv] w fun e w' => ∃ fv, e = .returned fv ∧ RuleV w' j (.compares ts) fv ∧ Keeps (fun _ => False) w w' := by
  obtain ⟨to, tc, rfl⟩ := RowAt.form h
  have hk : Keeps (fun _ => False) w (w.alloc (.cells #[.slice to ts.length tc] 45)) := (Keeps.refl _ w).alloc _
  have h1 : (w.alloc (.cells #[.slice to ts.length tc] 45)).cell? ⟨w.heap.size, 0, none⟩ = some (.slice to ts.length tc) := by rw [cell_of_blk (heap_alloc_new w _)]; rfl
  have HR : Hid (RuleV (w.alloc (.cells #[.slice to ts.length tc] 45)) j (.compares ts) (.func (.func 98) #[] #[.pointer (some ⟨w.heap.size, 0, none⟩)])) :=
    ⟨_, _, rfl, by simp, h1, h.keepF hk⟩
  have HK := hide hk
  have hmf : ∀ (fn : Fn) (first cap : Array Value) (w : World), (Instr.makeFunc fn first cap).run Tryz.prog w = .ok (.func fn first cap) w := fun _ _ _ _ => rfl
  clear h h1 hk
  go_enter Tryz.func74, Tryz.ntmps74
  go_wp2_with fail
  go_ret
  exact ⟨_, rfl, unhide HR, unhide HK⟩
/-- Rules that were made so far. -/
structure Bun (W0 : World) (j : Nat) (L : List (RuleA × Value)) (w : World) : Prop where
  kept : Keeps (fun _ => False) W0 w
  all : ∀ p ∈ L, RuleV w j p.1 p.2
theorem Bun.snoc {W0 : World} {j : Nat} {L : List (RuleA × Value)} {w w' : World} (h : Bun W0 j L w) (hk : Keeps (fun _ => False) w w') {r : RuleA} {fv : Value} (hr : RuleV w' j r fv) : Bun W0 j (L ++ [(r, fv)]) w' :=
  ⟨h.kept.trans hk, fun p hp => by
    rcases List.mem_append.1 hp with hp | hp
    · exact (h.all p hp).keepF hk
    · obtain rfl : p = (r, fv) := by simpa using hp
      exact hr⟩
theorem takes_named {W0 w' : World} {j : Nat} {L : List (RuleA × Value)} {is : Int} {ts : List Int} {fv : Value} {e : Ending} (he : e = .returned fv) (hr : RuleV w' j (.takes is ts) fv) (h : Bun W0 j (L ++ [(.takes is ts, fv)]) w') :
    ∃ tb ib, e = .returned (.func (.func 92) #[] #[.pointer (some ⟨tb, 0, none⟩), .pointer (some ⟨ib, 0, none⟩)]) ∧ Bun W0 j (L ++ [(.takes is ts, (.func (.func 92) #[] #[.pointer (some ⟨tb, 0, none⟩), .pointer (some ⟨ib, 0, none⟩)]))]) w' := by
  obtain ⟨tb, ib, _, rfl, _⟩ := hr
  exact ⟨tb, ib, he, h⟩
theorem compares_named {W0 w' : World} {j : Nat} {L : List (RuleA × Value)} {ts : List Int} {fv : Value} {e : Ending} (he : e = .returned fv) (hr : RuleV w' j (.compares ts) fv) (h : Bun W0 j (L ++ [(.compares ts, fv)]) w') :
    ∃ tb, e = .returned (.func (.func 98) #[] #[.pointer (some ⟨tb, 0, none⟩)]) ∧ Bun W0 j (L ++ [(.compares ts, (.func (.func 98) #[] #[.pointer (some ⟨tb, 0, none⟩)]))]) w' := by
  obtain ⟨tb, _, rfl, _⟩ := hr
  exact ⟨tb, he, h⟩
section
variable {W0 : World} {j : Nat} {L : List (RuleA × Value)} {w : World}
theorem takes0 (h : Bun W0 j L w) (is : Int) : Calls Tryz.prog 71 #[.int .i64 is, .slice none 0 0] w fun e w' => ∃ tb ib, e = .returned (.func (.func 92) #[] #[.pointer (some ⟨tb, 0, none⟩), .pointer (some ⟨ib, 0, none⟩)]) ∧ Bun W0 j (L ++ [(.takes is [], (.func (.func 92) #[] #[.pointer (some ⟨tb, 0, none⟩), .pointer (some ⟨ib, 0, none⟩)]))]) w' :=
  (takes_v j is [] _ w (ints_nil w)).mono fun _ _ ⟨_, he, hr, hk⟩ => takes_named he hr (h.snoc hk hr)
theorem takes1 (h : Bun W0 j L w) (is t : Int) : Calls Tryz.prog 71 #[.int .i64 is, .slice (some ⟨w.heap.size, 0, none⟩) 1 1] (w.alloc (.cells #[.int .i64 t] 3)) fun e w' => ∃ tb ib, e = .returned (.func (.func 92) #[] #[.pointer (some ⟨tb, 0, none⟩), .pointer (some ⟨ib, 0, none⟩)]) ∧ Bun W0 j (L ++ [(.takes is [t], (.func (.func 92) #[] #[.pointer (some ⟨tb, 0, none⟩), .pointer (some ⟨ib, 0, none⟩)]))]) w' :=
  (takes_v j is [t] _ _ (ints_new w [t] 3 1 rfl)).mono fun _ _ ⟨_, he, hr, hk⟩ => takes_named he hr (h.snoc (((Keeps.refl _ w).alloc _).trans hk) hr)
theorem takes2 (h : Bun W0 j L w) (is t u : Int) : Calls Tryz.prog 71 #[.int .i64 is, .slice (some ⟨w.heap.size, 0, none⟩) 2 2] (w.alloc (.cells #[.int .i64 t, .int .i64 u] 3)) fun e w' => ∃ tb ib, e = .returned (.func (.func 92) #[] #[.pointer (some ⟨tb, 0, none⟩), .pointer (some ⟨ib, 0, none⟩)]) ∧ Bun W0 j (L ++ [(.takes is [t, u], (.func (.func 92) #[] #[.pointer (some ⟨tb, 0, none⟩), .pointer (some ⟨ib, 0, none⟩)]))]) w' :=
  (takes_v j is [t, u] _ _ (ints_new w [t, u] 3 2 rfl)).mono fun _ _ ⟨_, he, hr, hk⟩ => takes_named he hr (h.snoc (((Keeps.refl _ w).alloc _).trans hk) hr)
theorem compares2 (h : Bun W0 j L w) (t u : Int) : Calls Tryz.prog 74 #[.slice (some ⟨w.heap.size, 0, none⟩) 2 2] (w.alloc (.cells #[.int .i64 t, .int .i64 u] 3)) fun e w' => ∃ tb, e = .returned (.func (.func 98) #[] #[.pointer (some ⟨tb, 0, none⟩)]) ∧ Bun W0 j (L ++ [(.compares [t, u], (.func (.func 98) #[] #[.pointer (some ⟨tb, 0, none⟩)]))]) w' :=
  (compares_v j [t, u] _ _ (ints_new w [t, u] 3 2 rfl)).mono fun _ _ ⟨_, he, hr, hk⟩ => compares_named he hr (h.snoc (((Keeps.refl _ w).alloc _).trans hk) hr)
theorem compares3 (h : Bun W0 j L w) (t u v : Int) : Calls Tryz.prog 74 #[.slice (some ⟨w.heap.size, 0, none⟩) 3 3] (w.alloc (.cells #[.int .i64 t, .int .i64 u, .int .i64 v] 3)) fun e w' => ∃ tb, e = .returned (.func (.func 98) #[] #[.pointer (some ⟨tb, 0, none⟩)]) ∧ Bun W0 j (L ++ [(.compares [t, u, v], (.func (.func 98) #[] #[.pointer (some ⟨tb, 0, none⟩)]))]) w' :=
  (compares_v j [t, u, v] _ _ (ints_new w [t, u, v] 3 3 rfl)).mono fun _ _ ⟨_, he, hr, hk⟩ => compares_named he hr (h.snoc (((Keeps.refl _ w).alloc _).trans hk) hr)
end
/-- A table of rules, as a judge keeps it. -/
def RulesAt (w : World) (j tab : Nat) : Prop := ∀ (m : Nat) (r : RuleA), (ruleL[m]?).join = some r → ∃ fv, w.cell? ⟨tab, m, none⟩ = some fv ∧ RuleV w j r fv
theorem rules_of {w : World} {j : Nat} {Ps : List (RuleA × Value)} {z : Value} (h : ∀ p ∈ Ps, RuleV w j p.1 p.2) (e : ruleL = none :: Ps.map (fun p => some p.1)) (t : TypeId) :
    RulesAt (w.alloc (.cells (z :: Ps.map Prod.snd).toArray t)) j w.heap.size := by
  intro m r hr
  rw [e] at hr
  cases m with
  | zero => simp at hr
  | succ i =>
    simp only [List.getElem?_cons_succ, List.getElem?_map] at hr
    cases hp : Ps[i]? with
    | none => rw [hp] at hr; cases hr
    | some p =>
      rw [hp] at hr
      have hr' : p.1 = r := by simpa using hr
      refine ⟨p.2, ?_, ?_⟩
      · rw [cell_of_blk (heap_alloc_new w _)]
        simp [hp]
      · rw [← hr']
        exact (h p (List.mem_of_getElem? hp)).keepF ((Keeps.refl _ w).alloc _)

theorem rules_cells {w : World} {j : Nat} {cs : Array Value} (h : ∀ (m : Nat) (r : RuleA), (ruleL[m]?).join = some r → ∃ fv, cs[m]? = some fv ∧ RuleV w j r fv) (t : TypeId) : RulesAt (w.alloc (.cells cs t)) j w.heap.size := by
  intro m r hr
  obtain ⟨fv, h1, h2⟩ := h m r hr
  exact ⟨fv, by rw [cell_of_blk (heap_alloc_new w _)]; exact h1, h2.keepF ((Keeps.refl _ w).alloc _)⟩
end Go.Proofs.YtoempeobaknkcaaGreatDoor
