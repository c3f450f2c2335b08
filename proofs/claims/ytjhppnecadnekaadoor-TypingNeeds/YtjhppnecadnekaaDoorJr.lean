import Derived.Test.YtjhppnecadnekaaDoorJp
import Derived.Test.YtjhppnecadnekaaDoorJq
import Derived.Test.YtjhppnecadnekaaDoorNd
import Derived.Test.YtjhppnecadnekaaDoorJl
namespace Go.Proofs.YtjhppnecadnekaaDoor
open Go.RowKit Go.Maps

theorem StIn.inKeep {A : Nat → Prop} {F : Nat → Prop} {w w' : World} {l : SL} {b o : Nat} (h : StIn (inZ A) w l b o) (hk : Keeps F w w') (hF : ∀ k, k < w.heap.size → A k → ¬ F k) : StIn (inZ A) w' l b o :=
  StIn.keep (Q := fun _ => True) (fun _ _ _ _ => trivial) hk (fun _ k _ hl hg => ⟨hF k hl hg, hg⟩) trivial h
theorem SlS.inKeep {A : Nat → Prop} {F : Nat → Prop} {w w' : World} {up : Nat} {v : Value} {l : SL} (h : SlS (inZ A) w up v l) (hk : Keeps F w w') (hF : ∀ k, k < w.heap.size → A k → ¬ F k) : SlS (inZ A) w' up v l :=
  SlS.keep (Q := fun _ => True) (fun _ _ _ _ => trivial) hk (fun _ k _ hl hg => ⟨hF k hl hg, hg⟩) trivial h
theorem StIn.inMono {A B : Nat → Prop} {w : World} (hAB : ∀ k, k < w.heap.size → A k → B k) : ∀ {l : SL} {b o : Nat}, StIn (inZ A) w l b o → StIn (inZ B) w l b o
  | .nil, _, _, _ => trivial
  | .cons op f ex th el rest, b, o, ⟨h1, h2, h3, h4, ⟨v, h5, h5'⟩, ⟨ao, cap, h6, h7, h8⟩, ⟨ao2, cap2, k6, k7, k8⟩, h9⟩ =>
    ⟨h1, hAB _ h1 h2, h3, h4, ⟨v, h5, h5'.inMono hAB⟩, ⟨ao, cap, h6, h7, fun h0 => by
      obtain ⟨b', o', e, _, hr⟩ := h8 h0
      exact ⟨b', o', e, trivial, hr.inMono hAB⟩⟩, ⟨ao2, cap2, k6, k7, fun h0 => by
      obtain ⟨b', o', e, _, hr⟩ := k8 h0
      exact ⟨b', o', e, trivial, hr.inMono hAB⟩⟩, h9.inMono hAB⟩
theorem SlS.inMono {A B : Nat → Prop} {w : World} {up up' : Nat} {v : Value} {l : SL} (h : SlS (inZ A) w up v l) (hAB : ∀ k, k < w.heap.size → A k → B k) : SlS (inZ B) w up' v l := by
  obtain ⟨ao, cap, e, hc, hr⟩ := h
  refine ⟨ao, cap, e, hc, fun h0 => ?_⟩
  obtain ⟨b, o, e1, _, hx⟩ := hr h0
  exact ⟨b, o, e1, trivial, hx.inMono hAB⟩
theorem SsIn.inKeep {A F : Nat → Prop} {w w' : World} (hk : Keeps F w w') (hF : ∀ k, k < w.heap.size → A k → ¬ F k) : ∀ {l : SL} {xs : List Value}, SsIn (inZ A) w l xs → SsIn (inZ A) w' l xs
  | .nil, _, h => h
  | .cons _ _ _ _ _ _, _, ⟨xv, tv, ev, xs', e, h1, h2, h3, h⟩ => ⟨xv, tv, ev, xs', e, h1.inKeep hk hF, h2.inKeep hk hF, h3.inKeep hk hF, h.inKeep hk hF⟩
theorem SsIn.inMono {A B : Nat → Prop} {w : World} (hAB : ∀ k, k < w.heap.size → A k → B k) : ∀ {l : SL} {xs : List Value}, SsIn (inZ A) w l xs → SsIn (inZ B) w l xs
  | .nil, _, h => h
  | .cons _ _ _ _ _ _, _, ⟨xv, tv, ev, xs', e, h1, h2, h3, h⟩ => ⟨xv, tv, ev, xs', e, h1.inMono hAB, h2.inMono hAB, h3.inMono hAB, h.inMono hAB⟩
theorem SsIn.stInZ {A B : Nat → Prop} {w : World} {b : Nat} (hb : b < w.heap.size) (hB : B b) (hAB : ∀ k, k < w.heap.size → A k → B k) : ∀ {l : SL} {xs : List Value} {o : Nat}, SsIn (inZ A) w l xs → (∀ j x, xs[j]? = some x → w.cell? ⟨b, o + j, none⟩ = some x) → StIn (inZ B) w l b o
  | .nil, _, _, _, _ => trivial
  | .cons op f x t e r, _, o, ⟨xv, tv, ev, xs', ee, h1, h2, h3, h4⟩, hc => by
    subst ee
    obtain ⟨ao, cap, et, hcap, hr⟩ := h2.inMono (up' := b) hAB
    obtain ⟨ao2, cap2, ee2, hcap2, hr2⟩ := h3.inMono (up' := b) hAB
    refine ⟨hb, hB, hc 0 _ rfl, hc 1 _ rfl, ⟨xv, hc 2 _ rfl, h1.inMono hAB⟩, ⟨ao, cap, by rw [← et]; exact hc 3 _ rfl, hcap, hr⟩, ⟨ao2, cap2, by rw [← ee2]; exact hc 4 _ rfl, hcap2, hr2⟩, SsIn.stInZ hb hB hAB h4 (fun j x hx => ?_)⟩
    rw [show o + 5 + j = o + (j + 5) by omega]
    exact hc (j + 5) x (by simpa using hx)
/-- What a copy of statements leaves. -/
def CPostS (l : SL) (w : World) (e : Ending) (w' : World) : Prop := ∃ v', e = .returned v' ∧ SlS (inZ (fun k => w.heap.size ≤ k)) w' 0 v' l ∧ Keeps (fun _ => False) w w'

set_option maxRecDepth 100000 in
set_option maxHeartbeats 8000000 in
theorem copyStmts_v (Z : Zone) (N : Nat) : ∀ (l : SL), l.size < N → l.size ≤ 4294967294 → ∀ (w : World) (up : Nat) (v : Value), SlS Z w up v l → Calls Tryd.prog 23 #[v] w (CPostS l w) := by
  induction N with
  | zero => intro l h; omega
  | succ N ih =>
    intro l hsz hlen' w up v hS
    have hlen : l.len ≤ 4294967294 := by have := SL.len_le l; omega
    obtain ⟨ao, cap, b, off, rfl, hcap, ha, hx⟩ := hS.open
    obtain ⟨i0, hi, hz0, hz1, hz2⟩ := info_parts Tryd.info64
    have IH := hide ih
    have HX := hide hx
    have HA := hide ha
    clear hS ih hx ha
    go_enter Tryd.func23, Tryd.ntmps23
    go_wp2_with fail
    go_loopw [3, 4] (fun o i wr => ∃ (pre rest : SL) (k : Nat) (xs : List Value) (A : Nat → Prop), i = .int .i64 k ∧ l = pre.app rest ∧ k = pre.len ∧ wr.ownsRow w.heap.size 64 5 o k xs ∧ SsIn (inZ A) wr pre xs ∧ (∀ q, A q → w.heap.size ≤ q ∧ q < wr.heap.size ∧ o.ownBlock ≠ some q) ∧ Keeps (fun _ => False) w wr ∧ StIn Z w rest b (off + k * 5)) (fun _ i _ => l.len - (intOf i).toNat)
    case atStart => exact ⟨.nil, l, 0, [], fun _ => False, rfl, rfl, rfl, World.ownsRow_nil w w.heap.size 64 5, rfl, fun q h => h.elim, Keeps.refl _ _, by simpa using unhide HX⟩
    case round =>
      obtain ⟨pre, rest, k, xs, A, rfl, happ, hkp, hown, hcs, hAq, hkeep, hr⟩ := hrel
      obtain ⟨oo, oc, rfl⟩ := (rowAt_own hown).form
      have hll := congrArg SL.len happ
      have hls := congrArg SL.size happ
      rw [SL.len_app] at hll
      rw [SL.size_app] at hls
      have HO := hide hown
      have HCS := hide hcs
      have HAQ := hide hAq
      have HK := hide hkeep
      have HAPP := hide happ
      cases rest with
      | nil =>
        rw [SL.app_nil] at happ
        subst happ
        simp only [SL.len, SL.size] at hll hls
        have i1 : ¬ (k : Int) < (l.len : Int) := by omega
        subst hkp
        clear hown hcs hAq hkeep hr hll hls HAPP
        go_wp2_with fail
        go_ret
        have hrow := rowAt_own (unhide HO)
        refine ⟨_, rfl, ⟨oo, oc, rfl, hrow.room _ _ _ rfl, fun h0 => ?_⟩, unhide HK⟩
        obtain ⟨g, goff, gc, e, hg, hgc⟩ := hrow.cells (by omega)
        simp at e
        obtain ⟨rfl, rfl⟩ := e
        have hge : w.heap.size ≤ g := ((unhide HO).lt g rfl).1
        exact ⟨g, goff, rfl, trivial, SsIn.stInZ hg hge (fun q _ h => ((unhide HAQ) q h).1) (unhide HCS) hgc⟩
      | cons op f x t el rest =>
        obtain ⟨h1, h2, h3, h4, ⟨xv, h5, hxs⟩, ⟨tao, tcap, h6, h7, h8⟩, ⟨eao, ecap, j6, j7, j8⟩, h9⟩ := hr
        simp only [SL.len, SL.size] at hll hls
        have hkl : k + (rest.len + 1) = l.len := by omega
        obtain ⟨xao, xcap, rfl, hxl⟩ := hxs.head
        have hst : x.size < N ∧ x.size ≤ 4294967294 ∧ t.size < N ∧ t.size ≤ 4294967294 ∧ el.size < N ∧ el.size ≤ 4294967294 := by omega
        have HKP := hide hkp
        have HST := hide hst
        clear hll hls hkp hst
        obtain ⟨rfl, hp⟩ := (unhide HA) (by omega)
        have HXS : Hid (SlE Z w b (.slice xao x.len xcap) x) := hxs
        have HTS : Hid (SlS Z w b (.slice tao t.len tcap) t) := ⟨tao, tcap, rfl, h7, h8⟩
        have HES : Hid (SlS Z w b (.slice eao el.len ecap) el) := ⟨eao, ecap, rfl, j7, j8⟩
        have HR := hide h9
        have i1 : (k : Int) < (l.len : Int) := by omega
        have ix0 : (0 : Int) ≤ (k : Int) := by omega
        have QX : ∀ W, Keeps (fun _ => False) w W → W.cell? ⟨b, off + k * 5, none⟩ = some (.int .i64 op) ∧ W.cell? ⟨b, off + k * 5 + 1, none⟩ = some (str f) ∧ W.cell? ⟨b, off + k * 5 + 2, none⟩ = some (.slice xao x.len xcap) ∧ W.cell? ⟨b, off + k * 5 + 3, none⟩ = some (.slice tao t.len tcap) ∧ W.cell? ⟨b, off + k * 5 + 4, none⟩ = some (.slice eao el.len ecap) := fun W hk =>
          ⟨(hk.cell h1 id).trans h3, (hk.cell h1 id).trans h4, (hk.cell h1 id).trans h5, (hk.cell h1 id).trans h6, (hk.cell h1 id).trans j6⟩
        have q0 := QX wr hkeep
        have hB0 : w.heap.size ≤ wr.heap.size := hkeep.size
        have HB0 := hide hB0
        obtain ⟨HBk, hkbb, hkc⟩ := boxedT wr #[.int .i64 op, str f, .slice xao x.len xcap, .slice tao t.len tcap, .slice eao el.len ecap] 64
        have HBX := hide (heap_alloc_new wr (.cells #[.int .i64 op, str f, .slice xao x.len xcap, .slice tao t.len tcap, .slice eao el.len ecap] 64))
        have HKw0 : Hid (Keeps (fun _ => False) w (wr.alloc (.cells #[.int .i64 op, str f, .slice xao x.len xcap, .slice tao t.len tcap, .slice eao el.len ecap] 64))) := hkeep.trans (unhide HBk)
        have qq := QX _ (unhide HKw0)
        have HQX := hide QX
        have HCX := hide (copyExprs_v Z (x.size + 1) x (by omega) (unhide HST).2.1 (wr.alloc (.cells #[.int .i64 op, str f, .slice xao x.len xcap, .slice tao t.len tcap, .slice eao el.len ecap] 64)) b _ ((unhide HXS).keepF (unhide HKw0)))
        have HCT := hide (fun (w' : World) (hk : Keeps (fun _ => False) w w') => And.intro (unhide IH t (unhide HST).2.2.1 (unhide HST).2.2.2.1 w' b _ ((unhide HTS).keepF hk)) (unhide IH el (unhide HST).2.2.2.2.1 (unhide HST).2.2.2.2.2 w' b _ ((unhide HES).keepF hk)))
        have mk1 : True := trivial
        clear hown hcs hAq hkeep h1 h2 h3 h4 h5 h6 h8 h9 j6 j8 happ hkc hxs QX
        go_wp2_with (first
          | (clear mk1; go_at_call 39; refine (unhide HCX).mono ?_; rintro e w1 ⟨xv1, rfl, hs1, hk1⟩; obtain ⟨xo1, xc1, rfl, _⟩ := hs1.head; have hb1 := (hk1.block _ hkbb id).trans (unhide HBX); have m2 := cell_of_blk hb1 2; simp at m2; have g2 := frozen_of_blk hb1 2; have hn1 : (w1.setCell ⟨wr.heap.size, 2, none⟩ (.slice xo1 x.len xc1)).heap[wr.heap.size]? = some (.cells #[.int .i64 op, str f, .slice xo1 x.len xc1, .slice tao t.len tcap, .slice eao el.len ecap] 64 (0, 0)) := (by simpa using heap_setCell_at (o := 2) hb1 (.slice xo1 x.len xc1)); have HN1 := hide hn1; have hset1 : Keeps (fun q => q = wr.heap.size) w1 (w1.setCell ⟨wr.heap.size, 2, none⟩ (.slice xo1 x.len xc1)) := keeps_set _ _ _ _; have HS1 := hide hset1; have HKw1 := hide ((unhide HKw0).narrow (hk1.any.trans hset1) (fun q e => by omega)); have q1 := unhide HQX _ (unhide HKw1); have HX1 := hide hs1; have HK1 := hide hk1; have hz1' := hk1.size; clear hs1 hk1 hb1 hn1 hset1; have mk2 : True := trivial)
          | (clear mk2; go_at_call 23; refine (unhide HCT _ (unhide HKw1)).1.mono ?_; rintro e w2 ⟨tv2, rfl, hs2, hk2⟩; obtain ⟨to2, tc2, rfl, _⟩ := hs2.head; have hb2 := (hk2.block _ (lt_of_block (unhide HN1)) id).trans (unhide HN1); have m3 := cell_of_blk hb2 3; simp at m3; have g3 := frozen_of_blk hb2 3; have hn2 : (w2.setCell ⟨wr.heap.size, 3, none⟩ (.slice to2 t.len tc2)).heap[wr.heap.size]? = some (.cells #[.int .i64 op, str f, .slice xo1 x.len xc1, .slice to2 t.len tc2, .slice eao el.len ecap] 64 (0, 0)) := (by simpa using heap_setCell_at (o := 3) hb2 (.slice to2 t.len tc2)); have HN2 := hide hn2; have hset2 : Keeps (fun q => q = wr.heap.size) w2 (w2.setCell ⟨wr.heap.size, 3, none⟩ (.slice to2 t.len tc2)) := keeps_set _ _ _ _; have HS2 := hide hset2; have HKw2 := hide ((unhide HKw1).narrow (hk2.any.trans hset2) (fun q e => by omega)); have q2 := unhide HQX _ (unhide HKw2); have HX2 := hide hs2; have HK2 := hide hk2; have hz2' := hk2.size; clear hs2 hk2 hb2 hn2 hset2; have mk3 : True := trivial)
          | (clear mk3; go_at_call 23; refine (unhide HCT _ (unhide HKw2)).2.mono ?_; rintro e w3 ⟨ev3, rfl, hs3, hk3⟩; obtain ⟨eo3, ec3, rfl, _⟩ := hs3.head; have hb3 := (hk3.block _ (lt_of_block (unhide HN2)) id).trans (unhide HN2); have m4 := cell_of_blk hb3 4; simp at m4; have g4 := frozen_of_blk hb3 4; have hn3 : (w3.setCell ⟨wr.heap.size, 4, none⟩ (.slice eo3 el.len ec3)).heap[wr.heap.size]? = some (.cells #[.int .i64 op, str f, .slice xo1 x.len xc1, .slice to2 t.len tc2, .slice eo3 el.len ec3] 64 (0, 0)) := (by simpa using heap_setCell_at (o := 4) hb3 (.slice eo3 el.len ec3)); have HN3 := hide hn3; have r0 := cell_of_blk hn3 0; have r1 := cell_of_blk hn3 1; have r2 := cell_of_blk hn3 2; have r3 := cell_of_blk hn3 3; have r4 := cell_of_blk hn3 4; simp at r0 r1 r2 r3 r4; have hset3 : Keeps (fun q => q = wr.heap.size) w3 (w3.setCell ⟨wr.heap.size, 4, none⟩ (.slice eo3 el.len ec3)) := keeps_set _ _ _ _; have HS3 := hide hset3; have HKw3 := hide ((unhide HKw2).narrow (hk3.any.trans hset3) (fun q e => by omega)); have HX3 := hide hs3; have HK3 := hide hk3; have hz3' := hk3.size; clear hs3 hk3 hb3 hn3 hset3; have hkr : Keeps (fun q => q = wr.heap.size) wr ((w3.setCell ⟨wr.heap.size, 4, none⟩ (.slice eo3 el.len ec3)).alloc (.cells #[.int .i64 op, str f, .slice xo1 x.len xc1, .slice to2 t.len tc2, .slice eo3 el.len ec3] 64)) := ((((((((Keeps.refl _ wr).alloc (.cells #[.int .i64 op, str f, .slice xao x.len xcap, .slice tao t.len tcap, .slice eao el.len ecap] 64)).trans (unhide HK1).any).trans (unhide HS1)).trans (unhide HK2).any).trans (unhide HS2)).trans (unhide HK3).any).trans (unhide HS3)).alloc _; have HOX := hide (ownsRow_kept (unhide HO) hkr (fun q e h => by have := ((unhide HO).lt q e).2; omega)); have HNB : Hid (((w3.setCell ⟨wr.heap.size, 4, none⟩ (.slice eo3 el.len ec3)).alloc (.cells #[.int .i64 op, str f, .slice xo1 x.len xc1, .slice to2 t.len tc2, .slice eo3 el.len ec3] 64)).heap[w3.heap.size]? = some (.cells #[.int .i64 op, str f, .slice xo1 x.len xc1, .slice to2 t.len tc2, .slice eo3 el.len ec3] 64 (0, 0))) := (by have h := heap_alloc_new (w3.setCell ⟨wr.heap.size, 4, none⟩ (.slice eo3 el.len ec3)) (.cells #[.int .i64 op, str f, .slice xo1 x.len xc1, .slice to2 t.len tc2, .slice eo3 el.len ec3] 64); simpa [Hid] using h); clear hkr; have mk4 : True := trivial)
          | (clear mk4; at_builtin; refine wpList_append_lies _ rfl _ _ _ rfl w.heap.size 64 i0 _ 5 96 Tryd.underlying25 hi hz0 hz1 hz2 rfl (by omega) (.slice oo k oc) k xs rfl (unhide HOX) ⟨w3.heap.size, 0, none⟩ 1 1 [.int .i64 op, str f, .slice xo1 x.len xc1, .slice to2 t.len tc2, .slice eo3 el.len ec3] rfl rfl (World.news_of_block (cs := #[.int .i64 op, str f, .slice xo1 x.len xc1, .slice to2 t.len tc2, .slice eo3 el.len ec3]) (t := 64) (fr := (0, 0)) (unhide HNB)) (by simp [Value.oneCell']) (by omega) (by unfold maxLen; omega) (by omega) (by have := unhide HB0; simp at hz1' hz2' hz3' ⊢; omega) (w3.heap.size + 1) (by simp) ?_; intro g6 c6 w6 hown6 hgrow hat hlt6; have HO6 := hide hown6; have HGR := hide hgrow; have HAT := hide hat; clear hown6 hgrow hat))
        go_roundw
        case rel =>
          have hgr := unhide HGR
          have hB0 := unhide HB0
          have hol : ∀ q, (Value.slice oo k oc).ownBlock = some q → w.heap.size ≤ q ∧ q < wr.heap.size := fun q e => (unhide HO).lt q e
          have hz : wr.heap.size + 1 ≤ w1.heap.size ∧ w1.heap.size ≤ w2.heap.size ∧ w2.heap.size ≤ w3.heap.size := by simp at hz1' hz2' hz3'; omega
          have k36 : Keeps (fun q => q = wr.heap.size ∨ (Value.slice oo k oc).ownBlock = some q) w3 w6 := (((unhide HS3).mono (fun q _ e => Or.inl e)).alloc _).grown hgr (fun q e _ => Or.inr e)
          have k26 : Keeps (fun q => q = wr.heap.size ∨ (Value.slice oo k oc).ownBlock = some q) w2 w6 := ((unhide HS2).mono (fun q _ e => Or.inl e)).trans ((unhide HK3).any.trans k36)
          have k16 : Keeps (fun q => q = wr.heap.size ∨ (Value.slice oo k oc).ownBlock = some q) w1 w6 := ((unhide HS1).mono (fun q _ e => Or.inl e)).trans ((unhide HK2).any.trans k26)
          have kr6 : Keeps (fun q => q = wr.heap.size ∨ (Value.slice oo k oc).ownBlock = some q) wr w6 := ((Keeps.refl _ wr).alloc _).trans ((unhide HK1).any.trans k16)
          have kw6 : Keeps (fun _ => False) w w6 := (unhide HK).narrow kr6 (fun q e => e.elim (fun h => by omega) (fun h => (hol q h).1))
          have far : ∀ q, wr.heap.size + 1 ≤ q → ¬ (q = wr.heap.size ∨ (Value.slice oo k oc).ownBlock = some q) := fun q hq e => e.elim (fun h => by omega) (fun h => by have := hol q h; omega)
          have s1 := SsIn.inMono (B := fun q => A q ∨ (wr.heap.size + 1 ≤ q ∧ q < w3.heap.size)) (fun _ _ h => Or.inl h) ((unhide HCS).inKeep kr6 (fun q _ h e => e.elim (fun h' => by have := (unhide HAQ) q h; omega) (fun h' => ((unhide HAQ) q h).2.2 h')))
          have sx : SlE (inZ (fun q => A q ∨ (wr.heap.size + 1 ≤ q ∧ q < w3.heap.size))) w6 0 (.slice xo1 x.len xc1) x :=
            (((unhide HX1).inMono (up' := 0) (B := fun q => wr.heap.size + 1 ≤ q ∧ q < w1.heap.size) (fun q hq h => ⟨by simpa using h, hq⟩)).inKeep k16 (fun q _ h => far q h.1)).inMono (fun _ _ h => Or.inr ⟨h.1, by have := h.2; omega⟩)
          have st : SlS (inZ (fun q => A q ∨ (wr.heap.size + 1 ≤ q ∧ q < w3.heap.size))) w6 0 (.slice to2 t.len tc2) t :=
            (((unhide HX2).inMono (up' := 0) (B := fun q => wr.heap.size + 1 ≤ q ∧ q < w2.heap.size) (fun q hq h => ⟨by simp at h; omega, hq⟩)).inKeep k26 (fun q _ h => far q h.1)).inMono (fun _ _ h => Or.inr ⟨h.1, by have := h.2; omega⟩)
          have se : SlS (inZ (fun q => A q ∨ (wr.heap.size + 1 ≤ q ∧ q < w3.heap.size))) w6 0 (.slice eo3 el.len ec3) el :=
            (((unhide HX3).inMono (up' := 0) (B := fun q => wr.heap.size + 1 ≤ q ∧ q < w3.heap.size) (fun q hq h => ⟨by simp at h; omega, hq⟩)).inKeep k36 (fun q _ h => far q h.1)).inMono (fun _ _ h => Or.inr h)
          have s2 : SsIn (inZ (fun q => A q ∨ (wr.heap.size + 1 ≤ q ∧ q < w3.heap.size))) w6 (.cons op f x t el .nil) [.int .i64 op, str f, .slice xo1 x.len xc1, .slice to2 t.len tc2, .slice eo3 el.len ec3] := ⟨_, _, _, [], rfl, sx, st, se, rfl⟩
          have hs6 : w3.heap.size + 1 ≤ w6.heap.size := by have := hgr.size; simp at this; omega
          refine ⟨pre.app (.cons op f x t el .nil), rest, k + 1, _, _, by go_num, ?_, ?_, unhide HO6, s1.app s2, fun q hq => ?_, kw6, ?_⟩
          · rw [app_oneS]; exact unhide HAPP
          · rw [SL.len_app, unhide HKP]; rfl
          · rcases hq with hq | hq
            · obtain ⟨a1, a2, a3⟩ := (unhide HAQ) q hq
              refine ⟨a1, by omega, fun e => ?_⟩
              have e' : g6 = q := by simpa [Value.ownBlock] using e
              rcases unhide HAT with h | h
              · exact a3 (by rw [h, e'])
              · omega
            · refine ⟨by omega, by omega, fun e => ?_⟩
              have e' : g6 = q := by simpa [Value.ownBlock] using e
              rcases unhide HAT with h | h
              · have := hol _ h; omega
              · omega
          · rw [show off + (k + 1) * 5 = off + k * 5 + 5 by omega]
            exact unhide HR
        case measure => simp [intOf]; omega
end Go.Proofs.YtjhppnecadnekaaDoor
namespace Go.Proofs.YtjhppnecadnekaaDoor
open Go.RowKit Go.Maps

/-- An error and a number, as a value. -/
abbrev chkV (p : Int × Nat) : Value := .tuple #[.int .i64 p.1, .int .i64 (p.2 : Int)]

set_option maxRecDepth 100000 in
set_option maxHeartbeats 4000000 in
theorem tcheck_bad (Z : Zone) (S : List FieldA) (l : SL) (hsz : l.size ≤ 4294967294) (sv pv : Value) (w : World) (up : Nat) (hT : Types w) (hF : Forms w) (hf : FldsAt w sv S) (hp : SlS Z w up pv l) (E : Int) (hE : E ≠ 0)
    (h : schemaB S = false ∧ E = 60 ∨ schemaB S = true ∧ checkS l = E) :
    Calls Tryd.prog 24 #[.agg #[sv], pv] w fun e w' => e = .returned (chkV (E, 0)) ∧ Keeps (fun _ => False) w w' := by
  obtain ⟨ao, cap, rfl, hc⟩ := hp.head
  obtain ⟨so, sc, rfl⟩ := RowAt.form hf
  obtain ⟨HB, hxb, hxc⟩ := boxedT w #[.slice so S.length sc] 24
  have c0 := hxc 0 (.slice so S.length sc) rfl
  have HCS := hide (checkSchema_v S (.slice so S.length sc) _ (hT.keepF (unhide HB)) (hf.keepF (unhide HB)))
  have HCE := fun w' (hk : Keeps (fun _ => False) w w') => hide (check_v Z l hsz w' up (.slice ao l.len cap) (hF.keepF hk) (hp.keepF hk))
  clear hT hF hf hp hxc
  rcases h with ⟨h1, rfl⟩ | ⟨h1, h2⟩
  · rw [errS_bad h1] at HCS
    clear h1 HCE
    go_enter Tryd.func24, Tryd.ntmps24
    go_wp2_with (go_at_call 40; refine (unhide HCS).mono ?_; rintro e w1 ⟨rfl, hk1⟩; have HKa := hide ((unhide HB).trans hk1); clear hk1)
    refine bodyPost_ret (v := .tuple #[.int .i64 60, .int .i64 0]) (by simp [results, go_sem]) rfl ?_
    exact ⟨rfl, unhide HKa⟩
  · rw [errS_good h1] at HCS
    rw [h2] at HCE
    have n0 : (E != 0) = true := by simpa using hE
    clear h1 h2 hE
    go_enter Tryd.func24, Tryd.ntmps24
    go_wp2_with (first
      | (go_at_call 40; refine (unhide HCS).mono ?_; rintro e w1 ⟨rfl, hk1⟩; have HKa := hide ((unhide HB).trans hk1); clear hk1)
      | (go_at_call 41; refine (unhide (HCE _ (unhide HKa))).mono ?_; rintro e w2 ⟨rfl, hk1⟩; have HKa := hide ((unhide HKa).trans hk1); clear hk1))
    refine bodyPost_ret (v := .tuple #[.int .i64 E, .int .i64 0]) (by simp [results, go_sem]) rfl ?_
    exact ⟨rfl, unhide HKa⟩

set_option maxRecDepth 100000 in
set_option maxHeartbeats 8000000 in
theorem tcheck_fit (Z : Zone) (S : List FieldA) (l : SL) (hsz : l.size ≤ 4294967294) (sv pv : Value) (w : World) (up : Nat) (hT : Types w) (hF : Forms w) (hf : FldsAt w sv S) (hp : SlS Z w up pv l) (hS : schemaB S = true) (hC : checkS l = 0) :
    Calls Tryd.prog 24 #[.agg #[sv], pv] w fun e w' => e = .returned (chkV (firstBad S (flatS l) 0)) ∧ Keeps (fun _ => False) w w' := by
  have hwl : wellS l = true := by
    unfold checkS at hC
    split at hC
    · cases hC
    · rename_i h; simpa using h
  have hnd : (S.map FieldA.name).Nodup := by
    unfold schemaB at hS
    simp only [Bool.and_eq_true, decide_eq_true_eq] at hS
    exact hS.1.2
  have hnl : (flatS l).len ≤ 4294967294 := by rw [flatS_len]; exact Nat.le_trans (countS_le l) hsz
  obtain ⟨ao, cap, rfl, hc⟩ := hp.head
  obtain ⟨so, sc, rfl⟩ := RowAt.form hf
  obtain ⟨HB, hxb, hxc⟩ := boxedT w #[.slice so S.length sc] 24
  have c0 := hxc 0 (.slice so S.length sc) rfl
  have SB : ∀ w', Keeps (fun _ => False) (w.alloc (.cells #[.slice so S.length sc] 24)) w' → w'.cell? ⟨w.heap.size, 0, none⟩ = some (.slice so S.length sc) := fun w' hk => (hk.cell hxb id).trans c0
  have HSB := hide SB
  have HCS := hide (checkSchema_v S (.slice so S.length sc) _ (hT.keepF (unhide HB)) (hf.keepF (unhide HB)))
  have HCE := fun w' (hk : Keeps (fun _ => False) w w') => hide (check_v Z l hsz w' up (.slice ao l.len cap) (hF.keepF hk) (hp.keepF hk))
  have HNJ := fun w' (hk : Keeps (fun _ => False) w w') => hide (newJudge_v S (.slice so S.length sc) w' (hf.keepF hk) hS)
  have HNU := fun w' (hk : Keeps (fun _ => False) w w') => hide (numbered_v w'.heap.size (l.size + 1) l (by omega) hsz w' 0 (.slice ao l.len cap) (Nat.le_refl _) ((hp.keepF hk).arg (Nat.le_refl _) 0))
  rw [errS_good hS] at HCS
  rw [hC] at HCE
  have HW := hide (flat_well (N := 4294967294) l hsz hwl)
  clear hT hF hf hp hxc SB hS hC hwl
  go_enter Tryd.func24, Tryd.ntmps24
  go_wp2_with (first
    | (go_at_call 40; refine (unhide HCS).mono ?_; rintro e w1 ⟨rfl, hk1⟩; have HKa := hide ((unhide HB).trans hk1); have HKb := hide hk1; have y1 := unhide HSB _ hk1; clear hk1)
    | (go_at_call 41; refine (unhide (HCE _ (unhide HKa))).mono ?_; rintro e w2 ⟨rfl, hk1⟩; have HKa := hide ((unhide HKa).trans hk1); have HKb := hide ((unhide HKb).trans hk1); have y2 := unhide HSB _ (unhide HKb); clear hk1)
    | (go_at_call 42; refine (unhide (HNJ _ (unhide HKa))).mono ?_; rintro e w3 ⟨j, mb, nn, tab, rfl, hJ, hSt, hk1⟩; have HJ := hide hJ; have HSt := hide hSt; have HKa := hide ((unhide HKa).trans hk1); clear hJ hSt hk1)
    | (go_at_call 43; refine (unhide (HNU _ (unhide HKa))).mono ?_; rintro e w4 ⟨fo, fc, n, xs, rfl, hn, hown, hss, hk1⟩; obtain ⟨g, goff, hg, hst⟩ := num_open hn (rowAt_own hown) hss; have HNL := hide hn; have HG := hide hg; have HST := hide hst; have HK4 := hide hk1; have HKa := hide ((unhide HKa).trans hk1); clear hn hown hss hg hst hk1))
  have hn2 : n ≤ 4294967294 := by rw [unhide HNL]; exact hnl
  clear hnl HSB HCS HCE HNJ HNU y1 y2 c0
  go_loopw [24] (fun i wr => ∃ (rest : SL) (k : Nat), i = .int .i64 k ∧ k + rest.len = n ∧ Hid (firstBad S rest k = firstBad S (flatS l) 0) ∧ wellF 4294967294 rest ∧ Keeps (fun _ => False) w4 wr ∧ StIn (argZ w4.heap.size) w4 rest g (goff + k * 5)) (fun i _ => n - (intOf i).toNat)
  case atStart => exact ⟨flatS l, 0, rfl, by rw [Nat.zero_add]; exact (unhide HNL).symm, rfl, unhide HW, Keeps.refl _ _, by simpa using unhide HST⟩
  case round =>
    obtain ⟨rest, k, rfl, hkl, HS, hwf, hkeep, hr⟩ := hrel
    have HK := hide hkeep
    cases rest with
    | nil =>
      simp only [SL.len, Nat.add_zero] at hkl
      have i1 : ¬ (k : Int) < (n : Int) := by omega
      clear hr hkeep hwf
      go_wp2_with fail
      refine bodyPost_ret (v := .tuple #[.int .i64 0, .int .i64 0]) (by simp [results, go_sem]) rfl ?_
      exact ⟨by rw [← unhide HS]; rfl, (unhide HKa).trans (unhide HK)⟩
    | cons op f x t el rest =>
      obtain ⟨h1, h2, h3, h4, ⟨xv, h5, hxs⟩, ⟨tao, tcap, h6, h7, h8⟩, ⟨eao, ecap, j6, j7, j8⟩, h9⟩ := hr
      obtain ⟨hh, hwx, hxz, hwr⟩ := hwf
      simp only [SL.len] at hkl
      obtain ⟨xao, xcap, rfl, hxl⟩ := hxs.head
      obtain rfl := (unhide HG) (by omega)
      have HR := hide h9
      have HWR := hide hwr
      have i1 : (k : Int) < (n : Int) := by omega
      have ix0 : (0 : Int) ≤ (k : Int) := by omega
      have q0 := (hkeep.cell h1 id).trans h3
      have q1 := (hkeep.cell h1 id).trans h4
      have q2 := (hkeep.cell h1 id).trans h5
      have q3 := (hkeep.cell h1 id).trans h6
      have q4 := (hkeep.cell h1 id).trans j6
      obtain ⟨HBk, hkbb, hkc⟩ := boxedT wr #[.int .i64 op, str f, .slice xao x.len xcap, .slice tao t.len tcap, .slice eao el.len ecap] 64
      have k0 := hkc 0 (.int .i64 op) rfl
      have k1 := hkc 1 (str f) rfl
      have k2 := hkc 2 (.slice xao x.len xcap) rfl
      have k3 := hkc 3 (.slice tao t.len tcap) rfl
      have k4 := hkc 4 (.slice eao el.len ecap) rfl
      have hk4 := ((unhide HK4).trans hkeep).trans (unhide HBk)
      have HC := hide (stmtJ_v (argZ w4.heap.size) j mb nn tab S hnd op f x t el _ (.slice tao t.len tcap) (.slice eao el.len ecap) g _ ((unhide HJ).keepF hk4) ((unhide HSt).keepF (unhide HJ).map.lt hk4) (hxs.keepF (hkeep.trans (unhide HBk))) ⟨_, _, _, _, _, _, rfl, rfl⟩ hh hwx hxz)
      have hst : firstBad S (.cons op f x t el rest) k = if ownP S op f x ≠ 0 then (ownP S op f x, k) else firstBad S rest (k + 1) := rfl
      rw [hst] at HS
      obtain ⟨R, hR⟩ : ∃ R, R = ownP S op f x := ⟨_, rfl⟩
      rw [← hR] at HC HS
      clear hkeep h2 h3 h4 h5 h6 h8 h9 j6 j8 hxs hkc hk4 hst hR hh hwx hwr
      by_cases hR0 : R = 0
      · subst hR0
        rw [if_neg (by simp)] at HS
        go_wp2_with (go_at_call 44; refine (unhide HC).mono ?_; rintro e w5 ⟨rfl, hk5⟩; have HK5 := hide (((unhide HK).trans (unhide HBk)).trans hk5); clear hk5)
        go_roundw
        case rel =>
          refine ⟨rest, k + 1, by go_num, by omega, unhide HS, unhide HWR, unhide HK5, ?_⟩
          rw [show goff + (k + 1) * 5 = goff + k * 5 + 5 by omega]
          exact unhide HR
        case measure => simp [intOf]; omega
      · have n0 : (R != 0) = true := by simpa using hR0
        rw [if_pos hR0] at HS
        clear hR0
        go_wp2_with (go_at_call 44; refine (unhide HC).mono ?_; rintro e w5 ⟨rfl, hk5⟩; have HK5 := hide (((unhide HK).trans (unhide HBk)).trans hk5); clear hk5)
        refine bodyPost_ret (v := .tuple #[.int .i64 R, .int .i64 (k : Int)]) (by simp [results, go_sem]) rfl ?_
        exact ⟨by rw [← unhide HS], (unhide HKa).trans (unhide HK5)⟩
theorem tcheck_v (Z : Zone) (S : List FieldA) (l : SL) (hsz : l.size ≤ 4294967294) (sv pv : Value) (w : World) (up : Nat) (hT : Types w) (hF : Forms w) (hf : FldsAt w sv S) (hp : SlS Z w up pv l) :
    Calls Tryd.prog 24 #[.agg #[sv], pv] w fun e w' => e = .returned (chkV (checkP S l)) ∧ Keeps (fun _ => False) w w' := by
  unfold checkP
  cases hS : schemaB S with
  | false =>
    rw [errS_bad hS, if_pos (by decide)]
    exact tcheck_bad Z S l hsz sv pv w up hT hF hf hp 60 (by decide) (Or.inl ⟨hS, rfl⟩)
  | true =>
    rw [errS_good hS, if_neg (by simp)]
    by_cases hE : checkS l = 0
    · rw [if_neg (by simpa using hE)]
      exact tcheck_fit Z S l hsz sv pv w up hT hF hf hp hS hE
    · rw [if_pos hE]
      exact tcheck_bad Z S l hsz sv pv w up hT hF hf hp _ hE (Or.inr ⟨hS, rfl⟩)
end Go.Proofs.YtjhppnecadnekaaDoor
namespace Go.Proofs.YtjhppnecadnekaaDoor
open Go.RowKit Go.Maps

set_option maxRecDepth 100000 in
set_option maxHeartbeats 4000000 in
/-- The law's own call of Check, on twins. -/
theorem lawCheck_v (Z : Zone) (S : List FieldA) (hlS : S.length ≤ 4398046511104) (l : SL) (hsz : l.size ≤ 4294967294) (sv pv : Value) (w : World) (up : Nat) (hT : Types w) (hF : Forms w) (hf : FldsAt w sv S) (hp : SlS Z w up pv l) :
    Calls Tryd.prog 9 #[.agg #[sv], pv] w fun e w' => e = .returned (chkV (checkP S l)) ∧ Keeps (fun _ => False) w w' := by
  obtain ⟨ao, cap, rfl, hc⟩ := hp.head
  obtain ⟨so, sc, rfl⟩ := RowAt.form hf
  obtain ⟨HB, hxb, hxc⟩ := boxedT w #[.slice so S.length sc] 24
  have c0 := hxc 0 (.slice so S.length sc) rfl
  have SB : ∀ w', Keeps (fun _ => False) (w.alloc (.cells #[.slice so S.length sc] 24)) w' → w'.cell? ⟨w.heap.size, 0, none⟩ = some (.slice so S.length sc) := fun w' hk => (hk.cell hxb id).trans c0
  have HSB := hide SB
  have HCP := hide (copySchema_big _ (.slice so S.length sc) S (hf.keepF (unhide HB)) hlS)
  have HCT := fun w' (hk : Keeps (fun _ => False) w w') => hide (copyStmts_v Z (l.size + 1) l (by omega) hsz w' up (.slice ao l.len cap) (hp.keepF hk))
  have HT := hide hT
  have HFM := hide hF
  have HF := hide hf
  have HP := hide hp
  obtain ⟨⟨E, at'⟩, hpv⟩ : ∃ p, p = checkP S l := ⟨_, rfl⟩
  rw [← hpv]
  have HPV := hide hpv.symm
  clear hT hF hf hp SB hxc hpv
  go_enter Tryd.func9, Tryd.ntmps9
  go_wp2_with (first
    | (go_at_call 22; refine (unhide HCP).mono ?_; rintro e w1 ⟨v', rfl, hown, hk1⟩; obtain ⟨vo, vc, rfl⟩ := (rowAt_own hown).form; have hka := hk1.alloc (.cells #[.slice vo S.length vc] 24); have HFC := hide (RowAt.keepF (rowAt_own hown) ((Keeps.refl _ w1).alloc (.cells #[.slice vo S.length vc] 24)) : RowAt _ _ S.length (fcs S)); have HB2 := hide (heap_alloc_new w1 (.cells #[.slice vo S.length vc] 24)); have y2 := cell_of_blk (unhide HB2) 0; simp at y2; have y1 := unhide HSB _ hka; have HKa := hide ((unhide HB).trans hka); have HKb := hide hka; clear hown hk1 hka)
    | (go_at_call 23; refine (unhide (HCT _ (unhide HKa))).mono ?_; rintro e w2 ⟨pv2, rfl, hs2, hk2⟩; obtain ⟨po, pc, rfl, hpc⟩ := hs2.head; have HPC := hide hs2; have HFC := hide (RowAt.keepF (unhide HFC) hk2); have HB2 := hide ((hk2.block _ (lt_of_block (unhide HB2)) id).trans (unhide HB2)); have y2 := cell_of_blk (unhide HB2) 0; simp at y2; have HKa := hide ((unhide HKa).trans hk2); have HKb := hide ((unhide HKb).trans hk2); have y1 := unhide HSB _ (unhide HKb); clear hs2 hk2)
    | (go_at_call 24; refine (tcheck_v _ S l hsz _ _ _ 0 ((unhide HT).keepF (unhide HKa)) ((unhide HFM).keepF (unhide HKa)) (unhide HFC) (unhide HPC)).mono ?_; rintro e w3 ⟨rfl, hk3⟩; rw [unhide HPV]; have HFC := hide (RowAt.keepF (unhide HFC) hk3); have HPC := hide ((unhide HPC).keepF hk3); have HB2 := hide ((hk3.block _ (lt_of_block (unhide HB2)) id).trans (unhide HB2)); have y2 := cell_of_blk (unhide HB2) 0; simp at y2; have HKa := hide ((unhide HKa).trans hk3); have HKb := hide ((unhide HKb).trans hk3); have y1 := unhide HSB _ (unhide HKb); clear hk3)
    | (go_at_call 25; refine (eqSchema_any _ _ _ S S (unhide HFC) ((unhide HF).keepF (unhide HKa)) (by unfold maxLen; omega)).mono ?_; rintro e w4 ⟨rfl, hk4⟩; rw [decide_eq_true rfl]; have HPC := hide ((unhide HPC).keepF hk4); have HKa := hide ((unhide HKa).trans hk4); clear hk4)
    | (go_at_call 26; refine (eqStmts_same _ Z (l.size + 1) l (by omega) hsz _ 0 up _ _ (unhide HPC) ((unhide HP).keepF (unhide HKa))).mono ?_; rintro e w5 ⟨rfl, hk5⟩; have HKa := hide ((unhide HKa).trans hk5); clear hk5))
  refine bodyPost_ret (v := .tuple #[.int .i64 E, .int .i64 (at' : Int)]) (by simp [results, go_sem]) rfl ?_
  exact ⟨rfl, unhide HKa⟩
end Go.Proofs.YtjhppnecadnekaaDoor
