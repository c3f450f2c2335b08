import Derived.Test.YtoempeobaknkcaaGreatDoorVn
namespace Go.Proofs.YtoempeobaknkcaaGreatDoor
open Go.RowKit Go.Maps

/-- What a copy of statements leaves, told by its row: nothing below it lies in the row's own block. -/
def CPostSR (l : SL) (w : World) (e : Ending) (w' : World) : Prop := ∃ v' xs A, e = .returned v' ∧ w'.ownsRow w.heap.size 53 5 v' l.len xs ∧ SsIn (inZ A) w' l xs ∧ (∀ q, A q → w.heap.size ≤ q ∧ q < w'.heap.size ∧ v'.ownBlock ≠ some q) ∧ Keeps (fun _ => False) w w'

set_option maxRecDepth 100000 in
set_option maxHeartbeats 8000000 in
theorem copyStmtsR_v (Z : Zone) (l : SL) (hlen' : l.size ≤ 4294967294) (w : World) (up : Nat) (v : Value) (hS : SlS Z w up v l) : Calls Tryz.prog 20 #[v] w (CPostSR l w) := by
  have hlen : l.len ≤ 4294967294 := by have := SL.len_le l; omega
  obtain ⟨ao, cap, b, off, rfl, hcap, ha, hx⟩ := hS.open
  obtain ⟨i0, hi, hz0, hz1, hz2⟩ := info_parts Tryz.info53
  have HX := hide hx
  have HA := hide ha
  clear hS hx ha
  go_enter Tryz.func20, Tryz.ntmps20
  go_wp2_with fail
  go_loopw [3, 4] (fun o i wr => ∃ (pre rest : SL) (k : Nat) (xs : List Value) (A : Nat → Prop), i = .int .i64 k ∧ l = pre.app rest ∧ k = pre.len ∧ wr.ownsRow w.heap.size 53 5 o k xs ∧ SsIn (inZ A) wr pre xs ∧ (∀ q, A q → w.heap.size ≤ q ∧ q < wr.heap.size ∧ o.ownBlock ≠ some q) ∧ Keeps (fun _ => False) w wr ∧ StIn Z w rest b (off + k * 5)) (fun _ i _ => l.len - (intOf i).toNat)
  case atStart => exact ⟨.nil, l, 0, [], fun _ => False, rfl, rfl, rfl, World.ownsRow_nil w w.heap.size 53 5, rfl, fun q h => h.elim, Keeps.refl _ _, by simpa using unhide HX⟩
  case round =>
    obtain ⟨pre, rest, k, xs, A, rfl, happ, hkp, hown, hcs, hAq, hkeep, hr⟩ := hrel
    obtain ⟨oo, oc, rfl⟩ := (rowAt_own hown).form
    have hll := congrArg SL.len happ
    have hls := congrArg SL.size happ
    rw [SL.len_app] at hll
    rw [SL.size_app] at hls
    have HO := hide hown
    have HCS := hide hcs
    have HAQ := hide hAq
    have HK := hide hkeep
    have HAPP := hide happ
    cases rest with
    | nil =>
      rw [SL.app_nil] at happ
      subst happ
      simp only [SL.len, SL.size] at hll hls
      have i1 : ¬ (k : Int) < (l.len : Int) := by omega
      subst hkp
      clear hown hcs hAq hkeep hr hll hls HAPP
      go_wp2_with fail
      go_ret
      exact ⟨_, xs, A, rfl, unhide HO, unhide HCS, unhide HAQ, unhide HK⟩
    | cons op f x t el rest =>
      obtain ⟨h1, h2, h3, h4, ⟨xv, h5, hxs⟩, ⟨tao, tcap, h6, h7, h8⟩, ⟨eao, ecap, j6, j7, j8⟩, h9⟩ := hr
      simp only [SL.len, SL.size] at hll hls
      have hkl : k + (rest.len + 1) = l.len := by omega
      obtain ⟨xao, xcap, rfl, hxl⟩ := hxs.head
      have hst : x.size ≤ 4294967294 ∧ t.size ≤ 4294967294 ∧ el.size ≤ 4294967294 := by omega
      have HKP := hide hkp
      have HST := hide hst
      clear hll hls hkp hst
      obtain ⟨rfl, hp⟩ := (unhide HA) (by omega)
      have HXS : Hid (SlE Z w b (.slice xao x.len xcap) x) := hxs
      have HTS : Hid (SlS Z w b (.slice tao t.len tcap) t) := ⟨tao, tcap, rfl, h7, h8⟩
      have HES : Hid (SlS Z w b (.slice eao el.len ecap) el) := ⟨eao, ecap, rfl, j7, j8⟩
      have HR := hide h9
      have i1 : (k : Int) < (l.len : Int) := by omega
      have ix0 : (0 : Int) ≤ (k : Int) := by omega
      have QX : ∀ W, Keeps (fun _ => False) w W → W.cell? ⟨b, off + k * 5, none⟩ = some (.int .i64 op) ∧ W.cell? ⟨b, off + k * 5 + 1, none⟩ = some (str f) ∧ W.cell? ⟨b, off + k * 5 + 2, none⟩ = some (.slice xao x.len xcap) ∧ W.cell? ⟨b, off + k * 5 + 3, none⟩ = some (.slice tao t.len tcap) ∧ W.cell? ⟨b, off + k * 5 + 4, none⟩ = some (.slice eao el.len ecap) := fun W hk =>
        ⟨(hk.cell h1 id).trans h3, (hk.cell h1 id).trans h4, (hk.cell h1 id).trans h5, (hk.cell h1 id).trans h6, (hk.cell h1 id).trans j6⟩
      have q0 := QX wr hkeep
      have hB0 : w.heap.size ≤ wr.heap.size := hkeep.size
      have HB0 := hide hB0
      obtain ⟨HBk, hkbb, hkc⟩ := boxedT wr #[.int .i64 op, str f, .slice xao x.len xcap, .slice tao t.len tcap, .slice eao el.len ecap] 53
      have HBX := hide (heap_alloc_new wr (.cells #[.int .i64 op, str f, .slice xao x.len xcap, .slice tao t.len tcap, .slice eao el.len ecap] 53))
      have HKw0 : Hid (Keeps (fun _ => False) w (wr.alloc (.cells #[.int .i64 op, str f, .slice xao x.len xcap, .slice tao t.len tcap, .slice eao el.len ecap] 53))) := hkeep.trans (unhide HBk)
      have qq := QX _ (unhide HKw0)
      have HQX := hide QX
      have HCX := hide (copyExprs_v Z (x.size + 1) x (by omega) (unhide HST).1 (wr.alloc (.cells #[.int .i64 op, str f, .slice xao x.len xcap, .slice tao t.len tcap, .slice eao el.len ecap] 53)) b _ ((unhide HXS).keepF (unhide HKw0)))
      have HCT := hide (fun (w' : World) (hk : Keeps (fun _ => False) w w') => And.intro (copyStmts_v Z (t.size + 1) t (by omega) (unhide HST).2.1 w' b _ ((unhide HTS).keepF hk)) (copyStmts_v Z (el.size + 1) el (by omega) (unhide HST).2.2 w' b _ ((unhide HES).keepF hk)))
      have mk1 : True := trivial
      clear hown hcs hAq hkeep h1 h2 h3 h4 h5 h6 h8 h9 j6 j8 happ hkc hxs QX
      go_wp2_with (first
        | (clear mk1; go_at_call 39; refine (unhide HCX).mono ?_; rintro e w1 ⟨xv1, rfl, hs1, hk1⟩; obtain ⟨xo1, xc1, rfl, _⟩ := hs1.head; have hb1 := (hk1.block _ hkbb id).trans (unhide HBX); have m2 := cell_of_blk hb1 2; simp at m2; have g2 := frozen_of_blk hb1 2; have hn1 : (w1.setCell ⟨wr.heap.size, 2, none⟩ (.slice xo1 x.len xc1)).heap[wr.heap.size]? = some (.cells #[.int .i64 op, str f, .slice xo1 x.len xc1, .slice tao t.len tcap, .slice eao el.len ecap] 53 (0, 0)) := (by simpa using heap_setCell_at (o := 2) hb1 (.slice xo1 x.len xc1)); have HN1 := hide hn1; have hset1 : Keeps (fun q => q = wr.heap.size) w1 (w1.setCell ⟨wr.heap.size, 2, none⟩ (.slice xo1 x.len xc1)) := keeps_set _ _ _ _; have HS1 := hide hset1; have HKw1 := hide ((unhide HKw0).narrow (hk1.any.trans hset1) (fun q e => by omega)); have q1 := unhide HQX _ (unhide HKw1); have HX1 := hide hs1; have HK1 := hide hk1; have hz1' := hk1.size; clear hs1 hk1 hb1 hn1 hset1; have mk2 : True := trivial)
        | (clear mk2; go_at_call 20; refine (unhide HCT _ (unhide HKw1)).1.mono ?_; rintro e w2 ⟨tv2, rfl, hs2, hk2⟩; obtain ⟨to2, tc2, rfl, _⟩ := hs2.head; have hb2 := (hk2.block _ (lt_of_block (unhide HN1)) id).trans (unhide HN1); have m3 := cell_of_blk hb2 3; simp at m3; have g3 := frozen_of_blk hb2 3; have hn2 : (w2.setCell ⟨wr.heap.size, 3, none⟩ (.slice to2 t.len tc2)).heap[wr.heap.size]? = some (.cells #[.int .i64 op, str f, .slice xo1 x.len xc1, .slice to2 t.len tc2, .slice eao el.len ecap] 53 (0, 0)) := (by simpa using heap_setCell_at (o := 3) hb2 (.slice to2 t.len tc2)); have HN2 := hide hn2; have hset2 : Keeps (fun q => q = wr.heap.size) w2 (w2.setCell ⟨wr.heap.size, 3, none⟩ (.slice to2 t.len tc2)) := keeps_set _ _ _ _; have HS2 := hide hset2; have HKw2 := hide ((unhide HKw1).narrow (hk2.any.trans hset2) (fun q e => by omega)); have q2 := unhide HQX _ (unhide HKw2); have HX2 := hide hs2; have HK2 := hide hk2; have hz2' := hk2.size; clear hs2 hk2 hb2 hn2 hset2; have mk3 : True := trivial)
        | (clear mk3; go_at_call 20; refine (unhide HCT _ (unhide HKw2)).2.mono ?_; rintro e w3 ⟨ev3, rfl, hs3, hk3⟩; obtain ⟨eo3, ec3, rfl, _⟩ := hs3.head; have hb3 := (hk3.block _ (lt_of_block (unhide HN2)) id).trans (unhide HN2); have m4 := cell_of_blk hb3 4; simp at m4; have g4 := frozen_of_blk hb3 4; have hn3 : (w3.setCell ⟨wr.heap.size, 4, none⟩ (.slice eo3 el.len ec3)).heap[wr.heap.size]? = some (.cells #[.int .i64 op, str f, .slice xo1 x.len xc1, .slice to2 t.len tc2, .slice eo3 el.len ec3] 53 (0, 0)) := (by simpa using heap_setCell_at (o := 4) hb3 (.slice eo3 el.len ec3)); have HN3 := hide hn3; have r0 := cell_of_blk hn3 0; have r1 := cell_of_blk hn3 1; have r2 := cell_of_blk hn3 2; have r3 := cell_of_blk hn3 3; have r4 := cell_of_blk hn3 4; simp at r0 r1 r2 r3 r4; have hset3 : Keeps (fun q => q = wr.heap.size) w3 (w3.setCell ⟨wr.heap.size, 4, none⟩ (.slice eo3 el.len ec3)) := keeps_set _ _ _ _; have HS3 := hide hset3; have HKw3 := hide ((unhide HKw2).narrow (hk3.any.trans hset3) (fun q e => by omega)); have HX3 := hide hs3; have HK3 := hide hk3; have hz3' := hk3.size; clear hs3 hk3 hb3 hn3 hset3; have hkr : Keeps (fun q => q = wr.heap.size) wr ((w3.setCell ⟨wr.heap.size, 4, none⟩ (.slice eo3 el.len ec3)).alloc (.cells #[.int .i64 op, str f, .slice xo1 x.len xc1, .slice to2 t.len tc2, .slice eo3 el.len ec3] 53)) := ((((((((Keeps.refl _ wr).alloc (.cells #[.int .i64 op, str f, .slice xao x.len xcap, .slice tao t.len tcap, .slice eao el.len ecap] 53)).trans (unhide HK1).any).trans (unhide HS1)).trans (unhide HK2).any).trans (unhide HS2)).trans (unhide HK3).any).trans (unhide HS3)).alloc _; have HOX := hide (ownsRow_kept (unhide HO) hkr (fun q e h => by have := ((unhide HO).lt q e).2; omega)); have HNB : Hid (((w3.setCell ⟨wr.heap.size, 4, none⟩ (.slice eo3 el.len ec3)).alloc (.cells #[.int .i64 op, str f, .slice xo1 x.len xc1, .slice to2 t.len tc2, .slice eo3 el.len ec3] 53)).heap[w3.heap.size]? = some (.cells #[.int .i64 op, str f, .slice xo1 x.len xc1, .slice to2 t.len tc2, .slice eo3 el.len ec3] 53 (0, 0))) := (by have h := heap_alloc_new (w3.setCell ⟨wr.heap.size, 4, none⟩ (.slice eo3 el.len ec3)) (.cells #[.int .i64 op, str f, .slice xo1 x.len xc1, .slice to2 t.len tc2, .slice eo3 el.len ec3] 53); simpa [Hid] using h); clear hkr; have mk4 : True := trivial)
        | (clear mk4; at_builtin; refine wpList_append_lies _ rfl _ _ _ rfl w.heap.size 53 i0 _ 5 96 Tryz.underlying25 hi hz0 hz1 hz2 rfl (by omega) (.slice oo k oc) k xs rfl (unhide HOX) ⟨w3.heap.size, 0, none⟩ 1 1 [.int .i64 op, str f, .slice xo1 x.len xc1, .slice to2 t.len tc2, .slice eo3 el.len ec3] rfl rfl (World.news_of_block (cs := #[.int .i64 op, str f, .slice xo1 x.len xc1, .slice to2 t.len tc2, .slice eo3 el.len ec3]) (t := 53) (fr := (0, 0)) (unhide HNB)) (by simp [Value.oneCell']) (by omega) (by unfold maxLen; omega) (by omega) (by have := unhide HB0; simp at hz1' hz2' hz3' ⊢; omega) (w3.heap.size + 1) (by simp) ?_; intro g6 c6 w6 hown6 hgrow hat hlt6; have HO6 := hide hown6; have HGR := hide hgrow; have HAT := hide hat; clear hown6 hgrow hat))
      go_roundw
      case rel =>
        have hgr := unhide HGR
        have hB0 := unhide HB0
        have hol : ∀ q, (Value.slice oo k oc).ownBlock = some q → w.heap.size ≤ q ∧ q < wr.heap.size := fun q e => (unhide HO).lt q e
        have hz : wr.heap.size + 1 ≤ w1.heap.size ∧ w1.heap.size ≤ w2.heap.size ∧ w2.heap.size ≤ w3.heap.size := by simp at hz1' hz2' hz3'; omega
        have k36 : Keeps (fun q => q = wr.heap.size ∨ (Value.slice oo k oc).ownBlock = some q) w3 w6 := (((unhide HS3).mono (fun q _ e => Or.inl e)).alloc _).grown hgr (fun q e _ => Or.inr e)
        have k26 : Keeps (fun q => q = wr.heap.size ∨ (Value.slice oo k oc).ownBlock = some q) w2 w6 := ((unhide HS2).mono (fun q _ e => Or.inl e)).trans ((unhide HK3).any.trans k36)
        have k16 : Keeps (fun q => q = wr.heap.size ∨ (Value.slice oo k oc).ownBlock = some q) w1 w6 := ((unhide HS1).mono (fun q _ e => Or.inl e)).trans ((unhide HK2).any.trans k26)
        have kr6 : Keeps (fun q => q = wr.heap.size ∨ (Value.slice oo k oc).ownBlock = some q) wr w6 := ((Keeps.refl _ wr).alloc _).trans ((unhide HK1).any.trans k16)
        have kw6 : Keeps (fun _ => False) w w6 := (unhide HK).narrow kr6 (fun q e => e.elim (fun h => by omega) (fun h => (hol q h).1))
        have far : ∀ q, wr.heap.size + 1 ≤ q → ¬ (q = wr.heap.size ∨ (Value.slice oo k oc).ownBlock = some q) := fun q hq e => e.elim (fun h => by omega) (fun h => by have := hol q h; omega)
        have s1 := SsIn.inMono (B := fun q => A q ∨ (wr.heap.size + 1 ≤ q ∧ q < w3.heap.size)) (fun _ _ h => Or.inl h) ((unhide HCS).inKeep kr6 (fun q _ h e => e.elim (fun h' => by have := (unhide HAQ) q h; omega) (fun h' => ((unhide HAQ) q h).2.2 h')))
        have sx : SlE (inZ (fun q => A q ∨ (wr.heap.size + 1 ≤ q ∧ q < w3.heap.size))) w6 0 (.slice xo1 x.len xc1) x :=
          (((unhide HX1).inMono (up' := 0) (B := fun q => wr.heap.size + 1 ≤ q ∧ q < w1.heap.size) (fun q hq h => ⟨by simpa using h, hq⟩)).inKeep k16 (fun q _ h => far q h.1)).inMono (fun _ _ h => Or.inr ⟨h.1, by have := h.2; omega⟩)
        have st : SlS (inZ (fun q => A q ∨ (wr.heap.size + 1 ≤ q ∧ q < w3.heap.size))) w6 0 (.slice to2 t.len tc2) t :=
          (((unhide HX2).inMono (up' := 0) (B := fun q => wr.heap.size + 1 ≤ q ∧ q < w2.heap.size) (fun q hq h => ⟨by simp at h; omega, hq⟩)).inKeep k26 (fun q _ h => far q h.1)).inMono (fun _ _ h => Or.inr ⟨h.1, by have := h.2; omega⟩)
        have se : SlS (inZ (fun q => A q ∨ (wr.heap.size + 1 ≤ q ∧ q < w3.heap.size))) w6 0 (.slice eo3 el.len ec3) el :=
          (((unhide HX3).inMono (up' := 0) (B := fun q => wr.heap.size + 1 ≤ q ∧ q < w3.heap.size) (fun q hq h => ⟨by simp at h; omega, hq⟩)).inKeep k36 (fun q _ h => far q h.1)).inMono (fun _ _ h => Or.inr h)
        have s2 : SsIn (inZ (fun q => A q ∨ (wr.heap.size + 1 ≤ q ∧ q < w3.heap.size))) w6 (.cons op f x t el .nil) [.int .i64 op, str f, .slice xo1 x.len xc1, .slice to2 t.len tc2, .slice eo3 el.len ec3] := ⟨_, _, _, [], rfl, sx, st, se, rfl⟩
        have hs6 : w3.heap.size + 1 ≤ w6.heap.size := by have := hgr.size; simp at this; omega
        refine ⟨pre.app (.cons op f x t el .nil), rest, k + 1, _, _, by go_num, ?_, ?_, unhide HO6, s1.app s2, fun q hq => ?_, kw6, ?_⟩
        · rw [app_oneS]; exact unhide HAPP
        · rw [SL.len_app, unhide HKP]; rfl
        · rcases hq with hq | hq
          · obtain ⟨a1, a2, a3⟩ := (unhide HAQ) q hq
            refine ⟨a1, by omega, fun e => ?_⟩
            have e' : g6 = q := by simpa [Value.ownBlock] using e
            rcases unhide HAT with h | h
            · exact a3 (by rw [h, e'])
            · omega
          · refine ⟨by omega, by omega, fun e => ?_⟩
            have e' : g6 = q := by simpa [Value.ownBlock] using e
            rcases unhide HAT with h | h
            · have := hol _ h; omega
            · omega
        · rw [show off + (k + 1) * 5 = off + k * 5 + 5 by omega]
          exact unhide HR
      case measure => simp [intOf]; omega
end Go.Proofs.YtoempeobaknkcaaGreatDoor
