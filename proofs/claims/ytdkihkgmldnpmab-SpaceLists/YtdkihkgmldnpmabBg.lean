import Derived.Test.YtdkihkgmldnpmabBf
namespace Go.Proofs.Ytdkihkgmldnpmab
open Go.RowKit Go.Maps

set_option maxRecDepth 100000 in
set_option maxHeartbeats 8000000 in
theorem bytes_any (w : World) (B : Nat) (b : Book) (hb : BookAt w B b) (hB : B ≤ w.heap.size) (ao : Option Addr) (n cap : Nat) (l : List Int) (hl : l.length = n) (hrow : w.ownsRow B 5 1 (.slice ao n cap) n (bs l)) (hout : ∀ k, (Value.slice ao n cap).ownBlock = some k → ¬ b.all k)
    (hlen : n + 64 ≤ 140737488355328) (hn : b.n ≤ 8589934592) :
    Calls Try.prog 13 #[.pointer (some ⟨b.K, 0, none⟩), .slice ao n cap] w fun e w' => e = .returned (.tuple #[]) ∧ ∃ b', BookAt w' B b' ∧ b'.K = b.K ∧ b'.n = b.n + 1 ∧ Keeps (fun k => b.own k ∨ (Value.slice ao n cap).ownBlock = some k) w w' ∧ (∀ k, b'.all k → b.all k ∨ (Value.slice ao n cap).ownBlock = some k ∨ w.heap.size ≤ k) := by
  obtain ⟨i0, hi, hz0, hz1, hz2⟩ := info_parts Try.info5
  obtain ⟨i1, hi1, hy0, hy1, hy2⟩ := info_parts Try.info37
  have hblk := hb.blk
  have c4 : w.cell? ⟨b.K, 4, none⟩ = some (.int .i64 b.n) := cell_of_blk hblk 4
  have fD : ∀ j, w.frozen? ⟨b.K, j, none⟩ = false := frozen_of_blk hblk
  have hDlt := lt_of_block hblk
  have hn1 : (b.n : Int) ≤ 8589934592 := by omega
  obtain ⟨N1, hN1, hN2, hN3⟩ : ∃ N1 : Int, N1 = (b.n : Int) + 1 ∧ 0 ≤ N1 ∧ N1 ≤ 8589934593 := ⟨_, rfl, by omega, by omega⟩
  obtain ⟨w1, hw1⟩ : ∃ w1, w1 = w.setCell ⟨b.K, 4, none⟩ (.int .i64 ((b.n : Int) + 1)) := ⟨_, rfl⟩
  have k1 : Keeps (fun k => k = b.K) w w1 := by rw [hw1]; exact kD _ _ _ _
  have hblk1 : w1.heap[b.K]? = some (.cells #[b.lv, b.wv, b.bv, b.vv, .int .i64 N1] 35 (0, 0)) := by rw [hw1, hN1, heap_setCell_at hblk]; rfl
  have hnD : (Value.slice ao n cap).ownBlock ≠ some b.K := fun e => hout b.K e (Or.inl (Or.inl rfl))
  have hrow1 := ownsRow_kept hrow k1 (fun k hk e => hnD (e ▸ hk))
  have hsz1 : w1.heap.size = w.heap.size := by rw [hw1]; simp
  have HB := hide hb
  have HR := hide hrow1
  have HW1 := hide hw1
  have HK1 := hide k1
  have HBLK1 := hide hblk1
  have HN1 := hide hN1
  obtain ⟨M, hM, hM1, hM2⟩ : ∃ M : Int, ((b.n : Int) + 1) % 100 + 1 = M ∧ 1 ≤ M ∧ M ≤ 100 := ⟨_, rfl, by omega, by omega⟩
  have hB1 : B ≤ w1.heap.size := by omega
  have hK1 : b.K < w1.heap.size := by omega
  clear hb hrow hblk hw1 k1 hblk1 hrow1 hN1
  go_enter Try.func13, Try.ntmps13
  go_wp2_with fail
  rw [← unhide HW1]
  go_loopw [6, 7] (fun wv i wr => ∃ (k : Nat), k ≤ n ∧ i = .int .i64 k ∧ wr.ownsRow B 5 1 (.slice ao n cap) n (bs (List.replicate k M ++ l.drop k)) ∧ wr.ownsRow w1.heap.size 5 1 wv k (bs (List.replicate k M)) ∧ Keeps (fun q => (Value.slice ao n cap).ownBlock = some q) w1 wr) (fun _ i _ => n - (intOf i).toNat)
  case atStart => exact ⟨0, Nat.zero_le _, rfl, by simpa using unhide HR, by simpa [bs] using World.ownsRow_nil w1 w1.heap.size 5 1, Keeps.refl _ _⟩
  case round =>
    obtain ⟨k, hk, rfl, ho1, ho2, hkeep⟩ := hrel
    by_cases hlt : k < n
    · obtain ⟨g, cap', e1, hg1, hg2⟩ := ho1.form (by omega)
      simp at e1
      obtain ⟨rfl, rfl⟩ := e1
      have i1 : (k : Int) < (n : Int) := by omega
      have i2 : (0 : Int) ≤ (k : Int) := by omega
      have cg : (wr.cell? ⟨g, k, none⟩).isSome = true := by
        obtain ⟨u, hu⟩ : ∃ u, (bs (List.replicate k M ++ l.drop k))[k]? = some u := ⟨_, List.getElem?_eq_getElem (by simp [bs]; omega)⟩
        rw [(rowC ho1).2.2 k u hu]; rfl
      obtain ⟨ug, cg'⟩ := Option.isSome_iff_exists.1 cg
      have fg : wr.frozen? ⟨g, k, none⟩ = false := rowFrozen ho1 k
      have hgK : g ≠ b.K := fun e => hnD (by rw [e]; rfl)
      have hKg : b.K ≠ g := fun e => hgK e.symm
      have m4 : wr.cell? ⟨b.K, 4, none⟩ = some (.int .i64 N1) := by rw [hkeep.cell hK1 (fun e => hgK (by simpa [Value.ownBlock] using e)), cell_of_blk (unhide HBLK1)]; rfl
      have hu5 : ∀ q, u6.ownBlock = some q → q ≠ g := fun q hq e => by
        have := (ho2.lt q hq).1
        have : g < w1.heap.size := (((unhide HR).lt g rfl)).2
        omega
      obtain ⟨w2, hw2⟩ : ∃ w2, w2 = wr.setCell ⟨g, k, none⟩ (.int .u8 M) := ⟨_, rfl⟩
      have hs2 := rowSet ho1 k (.int .u8 M)
      have hx2 := mark_bs l k M (by omega)
      rw [hx2, ← hw2] at hs2
      have hk2 : Keeps (fun q => q = g) wr w2 := by rw [hw2]; exact kD _ _ _ _
      have ho2' := ownsRow_kept ho2 hk2 (fun q hq => hu5 q hq)
      have hsz2 : w2.heap.size = wr.heap.size := by rw [hw2]; simp
      have HS2 := hide hs2
      have HO2 := hide ho2'
      have HK := hide (hkeep.trans (hk2.mono (fun q _ e => by rw [e]; rfl)))
      have hnb : ((wr.setCell ⟨g, k, none⟩ (.int .u8 M)).alloc (.cells #[.int .u8 M] 5)).heap[wr.heap.size]? = some (.cells #[.int .u8 M] 5 (0, 0)) := by rw [← hw2, ← hsz2]; exact heap_alloc_new w2 _
      rw [hw2] at HS2 HO2 HK
      have HNB := hide hnb
      clear ho1 ho2 hkeep hs2 ho2' hk2 hw2 hx2 cg hsz2 hnb
      go_wp2_with (at_builtin; refine wpList_append_lies _ rfl _ _ _ rfl w1.heap.size 5 i0 _ 1 1 Try.underlying37 hi hz0 hz1 hz2 rfl (by omega) u6 k (bs (List.replicate k M)) rfl ((unhide HO2).alloc _) ⟨wr.heap.size, 0, none⟩ 1 1 [.int .u8 M] rfl rfl (World.news_of_block (cs := #[.int .u8 M]) (t := 5) (fr := (0, 0)) (unhide HNB)) (by simp [Value.oneCell']) (by omega) (by unfold maxLen; omega) (by omega) (by have := (unhide HK).size; simp at this ⊢; omega) (wr.heap.size + 1) (by simp) ?_; intro g' cap'' w3 hown1 hgrow hat hlt1)
      go_roundw
      case rel =>
        refine ⟨k + 1, by omega, by go_num, ?_, ?_, ((unhide HK).alloc _).grown hgrow (fun q e hq => by have := ((unhide HO2).lt q e).1; omega)⟩
        · refine ownsRow_grown ((unhide HS2).alloc _) hgrow (fun q hq e => ?_)
          cases hq
          exact hu5 g e rfl
        · rw [List.replicate_succ', bs_append]
          simpa [bs] using hown1
      case measure => simp [intOf]; omega
    · obtain rfl : n = k := by omega
      clear hlt
      have hdn : List.replicate n M ++ l.drop n = List.replicate n M := by rw [List.drop_of_length_le (by omega), List.append_nil]
      rw [hdn] at ho1
      obtain ⟨o5, c5, rfl, hf5⟩ := own_form ho2
      have hb := unhide HB
      have hown : ∀ q, b.own q → ¬ (Value.slice ao n cap).ownBlock = some q := fun q h1 h2 => hout q h2 (Or.inl h1)
      have hDw1 : b.K < w1.heap.size := by omega
      have hblk2 : wr.heap[b.K]? = some (.cells #[b.lv, b.wv, b.bv, b.vv, .int .i64 N1] 35 (0, 0)) := (hkeep.block _ hDw1 hnD).trans (unhide HBLK1)
      have nbD : b.bv.ownBlock ≠ some b.K := fun e => by obtain ⟨c, h1⟩ := (rowBlock hb.rb e).2; rw [hb.blk] at h1; cases h1
      have nvD : b.vv.ownBlock ≠ some b.K := fun e => by obtain ⟨c, h1⟩ := (rowBlock hb.rv e).2; rw [hb.blk] at h1; cases h1
      have rb2 := ownsRow_kept (ownsRow_kept hb.rb (unhide HK1) (fun q hq e => nbD (e ▸ hq))) hkeep (fun q hq => hown q (Or.inr (Or.inr (Or.inr (Or.inl hq)))))
      have rv2 := ownsRow_kept (ownsRow_kept hb.rv (unhide HK1) (fun q hq e => nvD (e ▸ hq))) hkeep (fun q hq => hown q (Or.inr (Or.inr (Or.inr (Or.inr hq)))))
      have abv := hb.abv
      have lv : b.vl.length ≤ 2 * b.n := by have := hb.nbv; have := hb.nb'; omega
      have lb := hb.nb'
      have hsz2 := hkeep.size
      have g0 := cell_of_blk hblk2 2
      have g1' := cell_of_blk hblk2 3
      simp at g0 g1'
      have fD2 : ∀ j, wr.frozen? ⟨b.K, j, none⟩ = false := frozen_of_blk hblk2
      have hDlt2 := lt_of_block hblk2
      have RB2 := hide rb2
      have RV2 := hide rv2
      have HO1 := hide ho1
      have HO2 := hide ho2
      have HKP := hide hkeep
      have HBLK2 := hide hblk2
      have HABV := hide abv
      have HNB := hide nbD
      have HNV := hide nvD
      clear hb ho1 ho2 hkeep hblk2 rb2 rv2 abv nbD nvD hdn c4 fD
      go_wp2_with (first
        | (at_builtin
           refine wpList_append_lies _ rfl _ _ _ rfl B 37 i1 _ 1 24 Try.underlying33 hi1 hy0 hy1 hy2 rfl (by omega) b.bv b.bl.length b.bl rfl ((unhide RB2).alloc _) ⟨wr.heap.size, 0, none⟩ 1 1 [.slice ao n cap] rfl rfl (World.news_of_block (cs := #[.slice ao n cap]) (t := 37) (fr := (0, 0)) (heap_alloc_new wr _)) (by simp [Value.oneCell']) (by omega) (by unfold maxLen; omega) (by omega) (by simp; omega) (wr.heap.size + 1) (by simp) ?_
           intro g1 cap1 w3 hrb1 hgr1 hat1 hlt1
           have fs := field_step 2 (unhide HBLK2) (unhide HNB) hrb1 hgr1 hat1
           have c30 := cell_of_blk fs.1 2
           have c31 := cell_of_blk fs.1 3
           simp at c30 c31
           have f3 : ∀ j, w3.frozen? ⟨b.K, j, none⟩ = false := frozen_of_blk fs.1
           have hDlt3 := lt_of_block fs.1
           have FS := hide fs
           have HAT1 := hide hat1
           have RV4 := hide (ownsRow_kept (unhide RV2) fs.2.2.2 (fun q hq h => h.elim (fun e => unhide HNV (e ▸ hq)) (fun e => unhide HABV q e hq)))
           have hs3 : wr.heap.size + 1 ≤ w3.heap.size := by have := hgr1.size; simp at this; omega
           clear fs hrb1 hgr1 hat1 g0 g1')
        | (at_builtin
           refine wpList_append_lies _ rfl _ _ _ rfl B 37 i1 _ 1 24 Try.underlying33 hi1 hy0 hy1 hy2 rfl (by omega) b.vv b.vl.length b.vl rfl ((unhide RV4).alloc _) ⟨w3.heap.size, 0, none⟩ 1 1 [.slice o5 n c5] rfl rfl (World.news_of_block (cs := #[.slice o5 n c5]) (t := 37) (fr := (0, 0)) (by have := heap_alloc_new (w3.setCell ⟨b.K, 2, none⟩ (.slice (some ⟨g1, 0, none⟩) (b.bl.length + 1) cap1)) (.cells #[.slice o5 n c5] 37); simpa using this)) (by simp [Value.oneCell']) (by omega) (by unfold maxLen; omega) (by omega) (by simp; omega) (w3.heap.size + 1) (by simp) ?_
           intro g2 cap2 w5 hrv1 hgr2 hat2 hlt2
           have fs2 := field_step 3 (unhide FS).2.1 (unhide HNV) hrv1 hgr2 (by simpa using hat2)
           have c51 := cell_of_blk fs2.1 3
           simp at c51
           have f5 : ∀ j, w5.frozen? ⟨b.K, j, none⟩ = false := frozen_of_blk fs2.1
           have hDlt5 := lt_of_block fs2.1
           have FS2 := hide fs2
           have HAT2 := hide hat2
           have hs5 : w3.heap.size + 1 ≤ w5.heap.size := by have := hgr2.size; simp at this; omega
           clear fs2 hrv1 hgr2 hat2))
      obtain ⟨w4, hw4⟩ : ∃ w4, w4 = w3.setCell ⟨b.K, 2, none⟩ (.slice (some ⟨g1, 0, none⟩) (b.bl.length + 1) cap1) := ⟨_, rfl⟩
      obtain ⟨w6, hw6⟩ : ∃ w6, w6 = w5.setCell ⟨b.K, 3, none⟩ (.slice (some ⟨g2, 0, none⟩) (b.vl.length + 1) cap2) := ⟨_, rfl⟩
      rw [← hw4] at FS FS2
      rw [← hw6] at FS2
      rw [← hw6]
      have hb := unhide HB
      have kp1 : Keeps (fun k => (k = b.K ∨ b.bv.ownBlock = some k ∨ b.vv.ownBlock = some k)) wr w4 := (unhide FS).2.2.2.mono (fun k _ h => h.imp id Or.inl)
      have kp2 : Keeps (fun k => (k = b.K ∨ b.bv.ownBlock = some k ∨ b.vv.ownBlock = some k)) w4 w6 := (unhide FS2).2.2.2.mono (fun k _ h => h.imp id Or.inr)
      have kp := kp1.trans kp2
      have hbvlt : ∀ q, b.bv.ownBlock = some q → q < w.heap.size := fun q h => (hb.rb.lt q h).2
      have hvvlt : ∀ q, b.vv.ownBlock = some q → q < w.heap.size := fun q h => (hb.rv.lt q h).2
      have ng1D : g1 ≠ b.K := by
        rcases unhide HAT1 with h | h
        · exact fun e => unhide HNB (e ▸ h)
        · omega
      have ng1v : b.vv.ownBlock ≠ some g1 := by
        rcases unhide HAT1 with h | h
        · exact unhide HABV g1 h
        · intro e; have := hvvlt g1 e; omega
      have ng12 : g1 ≠ g2 := by
        rcases unhide HAT2 with h | h
        · intro e; exact ng1v (e ▸ h)
        · omega
      have rb6 : w6.ownsRow B 37 1 (.slice (some ⟨g1, 0, none⟩) (b.bl.length + 1) cap1) (b.bl.length + 1) (b.bl ++ [.slice ao n cap]) := ownsRow_kept (unhide FS).2.2.1 (unhide FS2).2.2.2 (fun q hq h => by
        cases hq
        exact h.elim (fun e => ng1D e) (fun e => ng1v e))
      have rv6 := (unhide FS2).2.2.1
      have blk6 : w6.heap[b.K]? = some (.cells #[b.lv, b.wv, .slice (some ⟨g1, 0, none⟩) (b.bl.length + 1) cap1, .slice (some ⟨g2, 0, none⟩) (b.vl.length + 1) cap2, .int .i64 N1] 35 (0, 0)) := (unhide FS2).2.1
      have hlo : ∀ q, (Value.slice ao n cap).ownBlock = some q → ¬ (q = b.K ∨ b.bv.ownBlock = some q ∨ b.vv.ownBlock = some q) := fun q h1 h2 => hown q (h2.elim Or.inl (fun h2 => h2.elim (fun h2 => Or.inr (Or.inr (Or.inr (Or.inl h2)))) (fun h2 => Or.inr (Or.inr (Or.inr (Or.inr h2)))))) h1
      have row6 := ownsRow_kept (unhide HO1) kp hlo
      have hof : ∀ q, (Value.slice o5 n c5).ownBlock = some q → w1.heap.size ≤ q := fun q h => ((unhide HO2).lt q h).1
      have five6 := ownsRow_kept (unhide HO2) kp (fun q h1 h2 => by
        have := hof q h1
        rcases h2 with h2 | h2 | h2
        · omega
        · have := hbvlt q h2; omega
        · have := hvvlt q h2; omega)
      have K6 : Keeps (fun k => (k = b.K ∨ b.bv.ownBlock = some k ∨ b.vv.ownBlock = some k) ∨ (Value.slice ao n cap).ownBlock = some k) w w6 :=
        ((unhide HK1).mono (fun k _ e => Or.inl (Or.inl e))).trans (((unhide HKP).mono (fun k _ e => Or.inr e)).trans (kp.mono (fun k _ e => Or.inl e)))
      have hsz6 : wr.heap.size ≤ w6.heap.size := kp.size
      have hg1lt : g1 < w6.heap.size := ((rowBlock rb6 rfl).2).elim (fun c h => lt_of_block h)
      have hg2lt : g2 < w6.heap.size := ((rowBlock rv6 rfl).2).elim (fun c h => lt_of_block h)
      have hlr : ∀ q, (Value.slice ao n cap).ownBlock = some q → q < w1.heap.size := fun q h => ((unhide HR).lt q h).2
      have HG12 := hide (show g1 ≠ g2 ∧ g1 ≠ b.K ∧ (b.bv.ownBlock = some g1 ∨ w.heap.size ≤ g1) ∧ (b.vv.ownBlock = some g2 ∨ w.heap.size ≤ g2) ∧ g2 ≠ b.K from ⟨ng12, ng1D, (unhide HAT1).imp id (fun h => by omega), (unhide HAT2).imp id (fun h => by omega), by
        rcases unhide HAT2 with h | h
        · exact fun e => unhide HNV (e ▸ h)
        · omega⟩)
      have HRB6 := hide rb6
      have HRV6 := hide rv6
      have HBLK6 := hide blk6
      have HROW6 := hide row6
      have HFIVE6 := hide five6
      have HK6 := hide K6
      have HOF := hide hof
      have HF5 := hide hf5
      have HLR := hide hlr
      have hw16 : w1.heap.size ≤ w6.heap.size := by omega
      clear hb kp1 kp2 kp hbvlt hvvlt ng1D ng1v ng12 rb6 rv6 blk6 hlo row6 hof five6 K6 hf5 hlr FS FS2 hw4 hw6 RV4 RB2 RV2 HO1 HO2 HKP HBLK2 HAT1 HAT2 c30 c31 f3 hDlt3 c51 f5 hDlt5 hs3 hs5 hlt1 hlt2 fD2 hDlt2 hsz2 hsz6 hown hDw1 hk
      have HCP := hide (copyBytes_any w6 (.slice o5 n c5) (List.replicate n M) (cells_row (unhide HFIVE6) (by simp [bs])) (by simp; omega))
      rw [List.length_replicate] at HCP
      refine (unhide HCP).mono ?_
      rintro e wr ⟨v7, rfl, hown, hkeep⟩
      have HO := hide hown
      have HK := hide hkeep
      clear hown hkeep HCP
      go_wp2_with fail
      go_loopw [8, 9, 10] (fun gv vv i wx => ∃ k : Nat, k ≤ 64 ∧ i = .int .i64 k ∧ wx.ownsRow B 5 1 gv (n + k) (bs (List.replicate n M ++ List.replicate k (M + 100))) ∧ wx.ownsRow w6.heap.size 5 1 vv (n + k) (bs (List.replicate n M ++ List.replicate k (M + 100))) ∧ (∀ q, gv.ownBlock = some q → (Value.slice ao n cap).ownBlock = some q ∨ w6.heap.size ≤ q) ∧ (∀ q, gv.ownBlock = some q → vv.ownBlock ≠ some q) ∧ Cells wx (.slice ao n cap) (bs (List.replicate n M)) ∧ (∀ q, (Value.slice ao n cap).ownBlock = some q → ∃ c, wx.heap[q]? = some (.cells c 5 (0, 0))) ∧ Keeps (fun q => (Value.slice ao n cap).ownBlock = some q) w6 wx) (fun _ _ i _ => 64 - (intOf i).toNat)
      case atStart =>
        have r6 := ownsRow_kept (unhide HROW6) (unhide HK) (fun _ _ => id)
        refine ⟨0, by omega, rfl, by simpa using r6, by simpa using unhide HO, fun q h => Or.inl h, fun q h1 h2 => ?_, cells_row r6 (by simp [bs]), fun q h => (rowBlock r6 h).2, (unhide HK).mono (fun _ _ f => f.elim)⟩
        have := unhide HLR q h1
        have := ((unhide HO).lt q h2).1
        omega
      case round =>
        obtain ⟨k, hk64, rfl, hg, hv, hgq, hgv, hrd, hty, hkx⟩ := hrel
        by_cases hlt : k < 64
        · have i1' : (k : Int) < 64 := by omega
          have i0' : (0 : Int) ≤ (k : Int) := by omega
          have m4 : wr.cell? ⟨b.K, 4, none⟩ = some (.int .i64 N1) := by rw [hkx.cell (lt_of_block (unhide HBLK6)) hnD, cell_of_blk (unhide HBLK6)]; rfl
          have hao : ∀ a, ao = some a → a.off = 0 ∧ a.block < wr.heap.size := fun a e => by
            obtain ⟨o', c', e', h'⟩ := own_form (unhide HROW6)
            simp at e'
            obtain ⟨rfl, rfl⟩ := e'
            refine ⟨(h' a e).1, ?_⟩
            have := unhide HLR a.block (by rw [e]; rfl)
            have := hkx.size
            omega
          have hrd' : Cells (wr.alloc (.cells #[.int .u8 (M + 100)] 5)) (.slice ao n cap) (bs (List.replicate n M)) := hrd.keepL (F := fun q => q < wr.heap.size) (G := fun _ => False) (fun b off m c e _ => (hao ⟨b, off, none⟩ (by simp at e; exact e.1)).2) ((Keeps.refl _ wr).alloc _) (fun _ _ => id)
          have hx6 := hkx.size
          have HG := hide hg
          have HV := hide hv
          have HGQ := hide hgq
          have HGV := hide hgv
          have HRD := hide hrd'
          have HKX := hide hkx
          have HAO := hide hao
          have HTY := hide hty
          clear hg hv hgq hgv hrd hrd' hkx hao hty
          go_wp2_with (first
            | (at_builtin
               refine wpList_append_two _ rfl _ _ _ rfl B 5 i0 _ 1 1 Try.underlying37 hi hz0 hz1 hz2 rfl (by omega) u8 (n + k) (bs (List.replicate n M ++ List.replicate k (M + 100))) rfl ((unhide HG).alloc _) ⟨wr.heap.size, 0, none⟩ 1 1 [.int .u8 (M + 100)] rfl rfl (World.news_of_block (cs := #[.int .u8 (M + 100)]) (t := 5) (fr := (0, 0)) (heap_alloc_new wr _)) (by simp [Value.oneCell']) (by omega) (by unfold maxLen; omega) (by omega) (by simp; omega) (wr.heap.size + 1) (by simp) ?_
               intro g' cap' wy hown' hcase hlt'
               have hgr : ∃ row, (wr.alloc (.cells #[.int .u8 (M + 100)] 5)).grownBy wy row ∧ ∀ q, row = some q → q = g' ∧ u8.ownBlock = some q := by
                 rcases hcase with ⟨h1, h2⟩ | ⟨h1, h2⟩
                 · exact ⟨_, h2, fun q e => by cases e; exact ⟨rfl, h1⟩⟩
                 · exact ⟨_, h2, fun q e => by cases e⟩
               obtain ⟨row, hgr, hrow⟩ := hgr
               have hvy := ownsRow_grown ((unhide HV).alloc (.cells #[.int .u8 (M + 100)] 5)) hgr (fun q hq e => unhide HGV q (hrow q e).2 hq)
               have hbs := more_bs n k M (M + 100)
               rw [hbs] at hown'
               have hrdy := cells_grown (more := bs (List.replicate (k + 1) (M + 100))) (unhide HRD) (fun a e => ⟨(unhide HAO a e).1, by have := (unhide HAO a e).2; simp; omega⟩) (by rw [← bs_append]; exact hown') hgr (fun q e => (hrow q e).1)
               have hkxy : Keeps (fun q => (Value.slice ao n cap).ownBlock = some q) w6 wy := ((unhide HKX).alloc _).grown hgr (fun q e hq => (unhide HGQ q (hrow q e).2).elim id (fun h => by omega))
               have m4y : wy.cell? ⟨b.K, 4, none⟩ = some (.int .i64 N1) := by rw [hkxy.cell (lt_of_block (unhide HBLK6)) hnD, cell_of_blk (unhide HBLK6)]; rfl
               have hgqy : (Value.slice ao n cap).ownBlock = some g' ∨ w6.heap.size ≤ g' := by
                 rcases hcase with ⟨h1, _⟩ | ⟨h1, _⟩
                 · exact unhide HGQ g' h1
                 · right; omega
               have hgvy : u9.ownBlock ≠ some g' := by
                 rcases hcase with ⟨h1, _⟩ | ⟨h1, _⟩
                 · exact unhide HGV g' h1
                 · intro e; have := ((unhide HV).lt g' e).2; omega
               have htyy : ∀ q, (Value.slice ao n cap).ownBlock = some q → ∃ c, wy.heap[q]? = some (.cells c 5 (0, 0)) := fun q hq => by
                 by_cases e : q = g'
                 · subst e; exact (rowBlock hown' rfl).2
                 · obtain ⟨c, hc⟩ := unhide HTY q hq
                   refine ⟨c, ?_⟩
                   rw [hgr.block q (by have := lt_of_block hc; simp; omega) (fun e' => e (hrow q e'.symm).1), Below.heap_alloc _ _ _ (lt_of_block hc)]
                   exact hc
               have HTYY := hide htyy
               have HGY := hide hown'
               have HVY := hide hvy
               have HRY := hide hrdy
               have HKY := hide hkxy
               have HGQY := hide hgqy
               have HGVY := hide hgvy
               have HBS := hide hbs
               have hwy : w6.heap.size ≤ wy.heap.size := hkxy.size
               clear hown' hcase hgr hrow hvy hrdy hkxy hgqy hgvy hbs htyy)
            | (at_builtin
               refine wpList_append_lies _ rfl _ _ _ rfl w6.heap.size 5 i0 _ 1 1 Try.underlying37 hi hz0 hz1 hz2 rfl (by omega) u9 (n + k) (bs (List.replicate n M ++ List.replicate k (M + 100))) rfl ((unhide HVY).alloc _) ⟨wy.heap.size, 0, none⟩ 1 1 [.int .u8 (M + 100)] rfl rfl (World.news_of_block (cs := #[.int .u8 (M + 100)]) (t := 5) (fr := (0, 0)) (heap_alloc_new wy _)) (by simp [Value.oneCell']) (by omega) (by unfold maxLen; omega) (by omega) (by simp; omega) (wy.heap.size + 1) (by simp) ?_
               intro g'' cap'' wz hown'' hgrow'' hat'' hlt''))
          go_roundw
          case rel =>
            have hz : Keeps (fun q => u9.ownBlock = some q) wy wz := ((Keeps.refl _ wy).alloc _).grown hgrow'' (fun q e _ => e)
            refine ⟨k + 1, by omega, by go_num, ownsRow_kept (unhide HGY) hz (fun q hq e => ?_), by rw [← unhide HBS]; exact hown'', fun q hq => by cases hq; exact unhide HGQY, fun q hq e => ?_, (unhide HRY).keepL (F := fun q => (Value.slice ao n cap).ownBlock = some q) (fun b off m c e _ => by rw [e]; rfl) hz (fun q hq => ?_), fun q hq => ?_, ((unhide HKY).alloc _).grown hgrow'' (fun q e hq => by have := ((unhide HVY).lt q e).1; omega)⟩
            · cases hq; exact unhide HGVY e
            · cases hq
              simp [Value.ownBlock] at e
              rcases hat'' with h | h
              · exact unhide HGVY (e ▸ h)
              · omega
            · have := unhide HLR q hq
              intro e
              have := ((unhide HVY).lt q e).1
              omega
            · obtain ⟨c, hc⟩ := unhide HTYY q hq
              refine ⟨c, (hz.block q (lt_of_block hc) (fun e => ?_)).trans hc⟩
              have := unhide HLR q hq
              have := ((unhide HVY).lt q e).1
              omega
          case measure => simp [intOf]; omega
        · obtain rfl : k = 64 := by omega
          clear hlt hk64
          obtain ⟨o7, c7, rfl, hf7⟩ := own_form hg
          obtain ⟨o8, c8, rfl, hf8⟩ := own_form hv
          have hx6 := hkx.size
          have hDx : b.K < w6.heap.size := lt_of_block (unhide HBLK6)
          have hblkx : wr.heap[b.K]? = some (.cells #[b.lv, b.wv, .slice (some ⟨g1, 0, none⟩) (b.bl.length + 1) cap1, .slice (some ⟨g2, 0, none⟩) (b.vl.length + 1) cap2, .int .i64 N1] 35 (0, 0)) := (hkx.block _ hDx hnD).trans (unhide HBLK6)
          have rbx := ownsRow_kept (unhide HRB6) hkx (fun q hq e => row_ne (unhide HROW6) (unhide HRB6) (by decide) e hq)
          have rvx := ownsRow_kept (unhide HRV6) hkx (fun q hq e => row_ne (unhide HROW6) (unhide HRV6) (by decide) e hq)
          have fivex := ownsRow_kept (unhide HFIVE6) hkx (fun q hq e => by have := unhide HOF q hq; have := unhide HLR q e; omega)
          have q0 := cell_of_blk hblkx 2
          have q1' := cell_of_blk hblkx 3
          simp at q0 q1'
          have fDx : ∀ j, wr.frozen? ⟨b.K, j, none⟩ = false := frozen_of_blk hblkx
          have hDltx := lt_of_block hblkx
          have hg1x : g1 < wr.heap.size := by omega
          have hg2x : g2 < wr.heap.size := by omega
          have HRBX := hide rbx
          have HRVX := hide rvx
          have HFIVEX := hide fivex
          have HBLKX := hide hblkx
          have HG := hide hg
          have HV := hide hv
          have HGQ := hide hgq
          have HRD := hide hrd
          have HTY := hide hty
          have HKX := hide hkx
          clear hg hv hgq hgv hrd hty hkx rbx rvx fivex hblkx
          go_wp2_with (first
            | (at_builtin
               refine wpList_append_lies _ rfl _ _ _ rfl B 37 i1 _ 1 24 Try.underlying33 hi1 hy0 hy1 hy2 rfl (by omega) (.slice (some ⟨g1, 0, none⟩) (b.bl.length + 1) cap1) (b.bl.length + 1) (b.bl ++ [.slice ao n cap]) rfl ((unhide HRBX).alloc _) ⟨wr.heap.size, 0, none⟩ 1 1 [.slice o7 (n + 64) c7] rfl rfl (World.news_of_block (cs := #[.slice o7 (n + 64) c7]) (t := 37) (fr := (0, 0)) (heap_alloc_new wr _)) (by simp [Value.oneCell']) (by omega) (by unfold maxLen; omega) (by omega) (by simp; omega) (wr.heap.size + 1) (by simp) ?_
               intro g3 cap3 w7 hrb3 hgr3 hat3 hlt3
               have fs := field_step 2 (unhide HBLKX) (by simp [Value.ownBlock]; exact (unhide HG12).2.1) hrb3 hgr3 hat3
               have c70 := cell_of_blk fs.1 2
               have c71 := cell_of_blk fs.1 3
               simp at c70 c71
               have f7 : ∀ j, w7.frozen? ⟨b.K, j, none⟩ = false := frozen_of_blk fs.1
               have hDlt7 := lt_of_block fs.1
               have FS := hide fs
               have HAT3 := hide hat3
               have RV8 := hide (ownsRow_kept (unhide HRVX) fs.2.2.2 (fun q hq h => by
                 cases hq
                 exact h.elim (fun e => (unhide HG12).2.2.2.2 e) (fun e => (unhide HG12).1 (by simpa [Value.ownBlock] using e))))
               have hs7 : wr.heap.size + 1 ≤ w7.heap.size := by have := hgr3.size; simp at this; omega
               clear fs hrb3 hgr3 hat3 q0 q1')
            | (at_builtin
               refine wpList_append_lies _ rfl _ _ _ rfl B 37 i1 _ 1 24 Try.underlying33 hi1 hy0 hy1 hy2 rfl (by omega) (.slice (some ⟨g2, 0, none⟩) (b.vl.length + 1) cap2) (b.vl.length + 1) (b.vl ++ [.slice o5 n c5]) rfl ((unhide RV8).alloc _) ⟨w7.heap.size, 0, none⟩ 1 1 [.slice o8 (n + 64) c8] rfl rfl (World.news_of_block (cs := #[.slice o8 (n + 64) c8]) (t := 37) (fr := (0, 0)) (by have := heap_alloc_new (w7.setCell ⟨b.K, 2, none⟩ (.slice (some ⟨g3, 0, none⟩) (b.bl.length + 1 + 1) cap3)) (.cells #[.slice o8 (n + 64) c8] 37); simpa using this)) (by simp [Value.oneCell']) (by omega) (by unfold maxLen; omega) (by omega) (by simp; omega) (w7.heap.size + 1) (by simp) ?_
               intro g4 cap4 w9 hrv4 hgr4 hat4 hlt4
               have fs2 := field_step 3 (unhide FS).2.1 (by simp [Value.ownBlock]; exact (unhide HG12).2.2.2.2) hrv4 hgr4 (by simpa using hat4)
               have c91 := cell_of_blk fs2.1 3
               simp at c91
               have f9 : ∀ j, w9.frozen? ⟨b.K, j, none⟩ = false := frozen_of_blk fs2.1
               have hDlt9 := lt_of_block fs2.1
               have FS2 := hide fs2
               have HAT4 := hide hat4
               have hs9 : w7.heap.size + 1 ≤ w9.heap.size := by have := hgr4.size; simp at this; omega
               clear fs2 hrv4 hgr4 hat4))
          go_end0
          obtain ⟨w8, hw8⟩ : ∃ w8, w8 = w7.setCell ⟨b.K, 2, none⟩ (.slice (some ⟨g3, 0, none⟩) (b.bl.length + 1 + 1) cap3) := ⟨_, rfl⟩
          obtain ⟨w10, hw10⟩ : ∃ w10, w10 = w9.setCell ⟨b.K, 3, none⟩ (.slice (some ⟨g4, 0, none⟩) (b.vl.length + 1 + 1) cap4) := ⟨_, rfl⟩
          rw [← hw8] at FS FS2
          rw [← hw10] at FS2
          rw [← hw10]
          have hb := unhide HB
          obtain ⟨n12, n1D, at1, at2, n2D⟩ := unhide HG12
          have ka := (unhide FS).2.2.2
          have kb := (unhide FS2).2.2.2
          simp only [Value.ownBlock, Option.some.injEq] at ka kb
          have hsx := (unhide HKX).size
          have hsz : w.heap.size ≤ wr.heap.size := by omega
          have KW : Keeps (fun k => (k = b.K ∨ b.bv.ownBlock = some k ∨ b.vv.ownBlock = some k) ∨ (Value.slice ao n cap).ownBlock = some k) w w10 := by
            refine (((unhide HK6).then (unhide HKX) (fun q _ h => Or.inr h)).then ka ?_).then kb ?_
            · rintro q hq (h | h)
              · exact Or.inl (Or.inl h)
              · subst h; exact at1.elim (fun h => Or.inl (Or.inr (Or.inl h))) (fun h => by omega)
            · rintro q hq (h | h)
              · exact Or.inl (Or.inl h)
              · subst h; exact at2.elim (fun h => Or.inl (Or.inr (Or.inr h))) (fun h => by omega)
          have kab : Keeps (fun k => k = b.K ∨ g1 = k ∨ g2 = k) wr w10 := (ka.mono (fun q _ h => h.imp id Or.inl)).trans (kb.mono (fun q _ h => h.imp id Or.inr))
          have n5 : ∀ {q : Nat} {c : Array Value}, wr.heap[q]? = some (.cells c 5 (0, 0)) → ¬ (q = b.K ∨ g1 = q ∨ g2 = q) := by
            rintro q c h (rfl | rfl | rfl)
            · exact blk_ne h (unhide HBLKX) (by decide) rfl
            · obtain ⟨_, c', h'⟩ := rowBlock (unhide HRBX) rfl; exact blk_ne h h' (by decide) rfl
            · obtain ⟨_, c', h'⟩ := rowBlock (unhide HRVX) rfl; exact blk_ne h h' (by decide) rfl
          have rowK : ∀ {v m xs B'}, wr.ownsRow B' 5 1 v m xs → w10.ownsRow B' 5 1 v m xs := fun h => ownsRow_kept h kab (fun q hq => by obtain ⟨_, c, h'⟩ := rowBlock h hq; exact n5 h')
          have at3 : g3 = g1 ∨ wr.heap.size < g3 := (unhide HAT3).imp (fun h => by simp [Value.ownBlock] at h; exact h.symm) (fun h => by omega)
          have at4 : g4 = g2 ∨ w7.heap.size < g4 := (unhide HAT4).imp (fun h => by simp [Value.ownBlock] at h; exact h.symm) (fun h => by omega)
          have n34 : g3 ≠ g4 := by
            rcases at3 with h | h <;> rcases at4 with h' | h' <;> omega
          have n3D : g3 ≠ b.K := by rcases at3 with h | h <;> omega
          have rb10 : w10.ownsRow B 37 1 (.slice (some ⟨g3, 0, none⟩) (b.bl.length + 1 + 1) cap3) (b.bl.length + 1 + 1) (b.bl ++ [.slice ao n cap] ++ [.slice o7 (n + 64) c7]) := ownsRow_kept (unhide FS).2.2.1 kb (fun q hq h => by
            cases hq
            rcases h with h | h
            · exact n3D h
            · have h2 : g2 = g3 := h
              rcases at3 with h' | h' <;> omega)
          have rv10 := (unhide FS2).2.2.1
          have r7 := rowK (unhide HG)
          have r8 := rowK (unhide HV)
          have r5 := rowK (unhide HFIVEX)
          have hty := unhide HTY
          have hl2 : (List.replicate n M ++ List.replicate 64 (M + 100)).length = n + 64 := by simp
          refine ⟨rfl, _, hb.putB (P := fun k => (Value.slice ao n cap).ownBlock = some k) KW hout (p1 := .slice ao n cap) (p2 := .slice o7 (n + 64) c7) (q1 := .slice o5 n c5) (q2 := .slice o8 (n + 64) c8) (l1 := List.replicate n M) (l2 := List.replicate n M ++ List.replicate 64 (M + 100)) (x' := .slice (some ⟨g3, 0, none⟩) (b.bl.length + 1 + 1) cap3) (y' := .slice (some ⟨g4, 0, none⟩) (b.vl.length + 1 + 1) cap4) (by rw [← unhide HN1]; exact (unhide FS2).2.1) (by simpa using rb10) (by simpa using rv10) ?_
            (fun k => (Value.slice ao n cap).ownBlock = some k ∨ (Value.slice o5 n c5).ownBlock = some k ∨ (Value.slice o7 (n + 64) c7).ownBlock = some k ∨ (Value.slice o8 (n + 64) c8).ownBlock = some k) ?_
            ((unhide HRD).keepL (F := fun q => (Value.slice ao n cap).ownBlock = some q) (fun b off m c e _ => by rw [e]; rfl) kab (fun q hq => by obtain ⟨c, h⟩ := hty q hq; exact n5 h))
            (cells_row r5 (by simp [bs])) (cells_row r7 (by simp [bs])) (cells_row r8 (by simp [bs])) (by simp; omega) (by rw [hl2]; omega) ?_ ?_ ?_ ?_, rfl, rfl, KW.mono (fun k _ h => h.elim (fun h => Or.inl (h.elim Or.inl (fun h => h.elim (fun h => Or.inr (Or.inr (Or.inr (Or.inl h)))) (fun h => Or.inr (Or.inr (Or.inr (Or.inr h))))))) Or.inr), ?_⟩
          · intro k h1 h2
            simp [Value.ownBlock] at h1 h2
            omega
          · rintro k (h | h | h | h)
            · obtain ⟨c, h'⟩ := hty k h
              exact ⟨((unhide HR).lt k h).1, c, (kab.block k (lt_of_block h') (n5 h')).trans h'⟩
            · obtain ⟨h1, h2⟩ := rowBlock r5 h; exact ⟨by omega, h2⟩
            · exact rowBlock r7 h
            · obtain ⟨h1, h2⟩ := rowBlock r8 h; exact ⟨by omega, h2⟩
          · exact fun b off m c e _ => Or.inl (by rw [e]; rfl)
          · exact fun b off m c e _ => Or.inr (Or.inl (by rw [e]; rfl))
          · exact fun b off m c e _ => Or.inr (Or.inr (Or.inl (by rw [e]; rfl)))
          · exact fun b off m c e _ => Or.inr (Or.inr (Or.inr (by rw [e]; rfl)))
          · rintro k ((h | h | h | h | h) | h | h | h | h | h)
            · exact Or.inl (Or.inl (Or.inl h))
            · exact Or.inl (Or.inl (Or.inr (Or.inl h)))
            · exact Or.inl (Or.inl (Or.inr (Or.inr (Or.inl h))))
            · simp [Value.ownBlock] at h
              rcases at3 with h' | h'
              · rcases at1 with h1 | h1
                · exact Or.inl (Or.inl (Or.inr (Or.inr (Or.inr (Or.inl (by rw [← h, h']; exact h1))))))
                · exact Or.inr (Or.inr (by omega))
              · exact Or.inr (Or.inr (by omega))
            · simp [Value.ownBlock] at h
              rcases at4 with h' | h'
              · rcases at2 with h1 | h1
                · exact Or.inl (Or.inl (Or.inr (Or.inr (Or.inr (Or.inr (by rw [← h, h']; exact h1))))))
                · exact Or.inr (Or.inr (by omega))
              · exact Or.inr (Or.inr (by omega))
            · exact Or.inl (Or.inr h)
            · exact Or.inr (Or.inl h)
            · exact Or.inr (Or.inr (by have := unhide HOF k h; omega))
            · exact (unhide HGQ k h).elim (fun h => Or.inr (Or.inl h)) (fun h => Or.inr (Or.inr (by omega)))
            · exact Or.inr (Or.inr (by have := (r8.lt k h).1; omega))

end Go.Proofs.Ytdkihkgmldnpmab
