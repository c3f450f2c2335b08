import Derived.Test.YtjmbcelkhiopeaaRc
namespace Go.Proofs.Ytjmbcelkhiopeaa
open Go.RowKit Go.Maps

def RS.wrote (R : RS) (a : Nat) (v : Value) (l : List Int) (lv : Value) (fuse : Int) (gone : Bool) (wr : Int) : RS :=
  { R with lv := lv, log := R.log ++ [⟨a, v, l⟩], fuse := fuse, gone := gone, wr := wr }

/-- What the reference's Write leaves. -/
theorem refWrote_at {w w1 w2 w' : World} {B : Nat} {R : RS} (h : RefAt w B R) {a g cap' : Nat} {l : List Int} {v' : Value} {Y : Obj} (ha : a < R.secs) (hl : l.length = R.size) (hB : B ≤ w.heap.size)
    (hk1 : Keeps (fun _ => False) w w1) (hv : w1.ownsRow w.heap.size 5 1 v' R.size (bs l))
    (hown2 : w2.ownsRow B 60 2 (.slice (some ⟨g, 0, none⟩) (R.log.length + 1) cap') (R.log.length + 1) (lcells R.log ++ [.int .i64 a, v']))
    (hgrow : (w1.alloc Y).grownBy w2 R.lv.ownBlock) (hat : R.lv.ownBlock = some g ∨ g = w1.heap.size + 1)
    (fuse : Int) (gone : Bool) (wr : Int) (hD : w'.heap[R.D]? = some (.cells (R.wrote a v' l (.slice (some ⟨g, 0, none⟩) (R.log.length + 1) cap') fuse gone wr).cells 103 (0, 0))) (hk : Keeps (fun k => k = R.D) w2 w') :
    RefAt w' B (R.wrote a v' l (.slice (some ⟨g, 0, none⟩) (R.log.length + 1) cap') fuse gone wr) ∧ Keeps R.own w w' ∧
      (∀ k, (Value.slice (some ⟨g, 0, none⟩) (R.log.length + 1) cap').ownBlock = some k → R.lv.ownBlock = some k ∨ w.heap.size ≤ k) ∧ (∀ k, v'.ownBlock = some k → w.heap.size ≤ k) := by
  have hDlt := lt_of_block h.blk
  have hk2 : Keeps R.own w w2 := ((hk1.mono (fun _ _ f => f.elim)).alloc Y).grown hgrow (fun k e _ => Or.inr e)
  have hk' : Keeps R.own w w' := ⟨hk.os.trans hk2.os, hk.tape.trans hk2.tape, hk.output.trans hk2.output, Nat.le_trans hk2.size hk.size, fun k hkk hF => by
    rw [hk.block k (Nat.lt_of_lt_of_le hkk hk2.size) (fun e => hF (Or.inl e))]; exact hk2.block k hkk hF⟩
  have hlne : ∀ (b : Nat) (c : Array Value) (t : TypeId) (fr : Nat × Nat), w.heap[b]? = some (Obj.cells c t fr) → t ≠ 60 → R.lv.ownBlock ≠ some b := by
    intro b c t fr hb ht e
    rcases h.row.2 with ⟨hv, _⟩ | ⟨g', cap', cur, hv, _, hg, _⟩
    · rw [hv] at e; simp [Value.ownBlock] at e
    · rw [hv] at e; simp [Value.ownBlock] at e; subst e; rw [hb] at hg; simp at hg; exact ht hg.2.1
  -- a row of bytes that was there stands
  have stand : ∀ (v : Value) (n : Nat) (xs : List Value), w.ownsRow B 5 1 v n xs → w'.ownsRow B 5 1 v n xs := by
    intro v n xs hr
    refine ownsRow_kept hr hk' (fun b hb hF => ?_)
    rcases hr.2 with ⟨hv, _⟩ | ⟨g', c', cur, hv, _, hg, _⟩
    · rw [hv] at hb; simp [Value.ownBlock] at hb
    · rw [hv] at hb; simp [Value.ownBlock] at hb; subst hb
      rcases hF with hF | hF
      · rw [hF, h.blk] at hg; simp at hg
      · exact hlne _ _ _ _ hg (by decide) hF
  have hs1 := hk1.size
  have hz2 : w1.heap.size + 1 ≤ w2.heap.size := by have := hgrow.size; simpa using this
  refine ⟨⟨hD, ?_, h.blen, ?_, ?_, by show R.firm ≤ (R.log ++ [_]).length; have := h.firm; simp; omega, h.lo, h.secs1, h.secs2, h.size1, h.size2⟩, hk', ?_, fun k e => (hv.lt k e).1⟩
  · exact h.base.elim Or.inl (fun h' => Or.inr (stand _ _ _ h'))
  · have e : (R.wrote a v' l (.slice (some ⟨g, 0, none⟩) (R.log.length + 1) cap') fuse gone wr).log.length = R.log.length + 1 := by simp [RS.wrote]
    rw [e]
    show w'.ownsRow B 60 2 (.slice (some ⟨g, 0, none⟩) (R.log.length + 1) cap') _ (lcells (R.log ++ [⟨a, v', l⟩]))
    rw [lcells_snoc]
    refine ownsRow_kept hown2 hk (fun b hb hF => ?_)
    simp [Value.ownBlock] at hb
    subst hb
    rcases hat with hat | hat
    · exact hlne _ _ _ _ h.blk (by decide) (by rw [hat, hF])
    · omega
  · intro x hx
    have hx' : x ∈ R.log ∨ x = ⟨a, v', l⟩ := by simpa [RS.wrote] using hx
    rcases hx' with hx' | rfl
    · obtain ⟨a1, a2, a3⟩ := h.each x hx'
      exact ⟨a1, a2, stand _ _ _ a3⟩
    · refine ⟨hl, ha, ?_⟩
      rcases hv.2 with ⟨hv', hn⟩ | ⟨g', c', cur, hv', hb', hg', rest⟩
      · have := h.size1; omega
      · have hg'lt := lt_of_block hg'
        refine ⟨hv.1, Or.inr ⟨g', c', cur, hv', by omega, ?_, rest⟩⟩
        rw [hk.block g' (by omega) (by omega), hgrow.block g' (by simp; omega) (fun e => by have := (h.row.lt _ e.symm).2; omega), Below.heap_alloc _ _ _ hg'lt]
        exact hg'
  · intro k hk3
    simp [Value.ownBlock] at hk3
    subst hk3
    rcases hat with hat | hat
    · exact Or.inl hat
    · exact Or.inr (by omega)

set_option maxRecDepth 100000 in
set_option maxHeartbeats 2000000 in
theorem refWrite_ok (w : World) (B : Nat) (R : RS) (h : RefAt w B R) (hB : B ≤ w.heap.size) (a : Nat) (bv : Value) (l : List Int) (ha : a < R.secs) (hl : l.length = R.size) (hR : Reads w bv l) (hb : ∀ b off n c, bv = .slice (some ⟨b, off, none⟩) n c → 0 < l.length → b < w.heap.size)
    (hgone : R.gone = false) (hf1 : -1 ≤ R.fuse) (hf2 : R.fuse ≤ 9223372036854775807) (hll : R.log.length ≤ 4294967295) (hw1 : 0 ≤ R.wr) (hw2 : R.wr ≤ 4294967295) :
    Calls Try.prog 48 #[.pointer (some ⟨R.D, 0, none⟩), .int .i64 a, bv] w fun e w' => e = .returned (.int .i64 (if R.fuse = 0 then 10 else 0)) ∧ ∃ v' lv',
      RefAt w' B (R.wrote a v' l lv' (if R.fuse ≤ 0 then R.fuse else R.fuse - 1) (decide (R.fuse = 0)) (if R.fuse = 0 then R.wr else R.wr + 1)) ∧ Keeps R.own w w' ∧ (∀ k, lv'.ownBlock = some k → R.lv.ownBlock = some k ∨ w.heap.size ≤ k) ∧ (∀ k, v'.ownBlock = some k → w.heap.size ≤ k) := by
  obtain ⟨i0, hi0, hz0, hz1, hz2⟩ := info_parts Try.info60
  obtain ⟨bo, bc, rfl⟩ := hR.form
  obtain ⟨lo, lc, hlv⟩ := h.form
  have c0 : w.cell? ⟨R.D, 0, none⟩ = some (.int .i64 R.secs) := by rw [cell_of_blk h.blk]; rfl
  have c1 : w.cell? ⟨R.D, 1, none⟩ = some (.int .i64 R.size) := by rw [cell_of_blk h.blk]; rfl
  have c6 : w.cell? ⟨R.D, 6, none⟩ = some (.bool false) := by rw [cell_of_blk h.blk, ← hgone]; rfl
  have HCP := hide (copyBytes_any w _ l hR hb (by rw [hl]; have := h.size2; omega))
  have H := hide h
  have HLV := hide hlv
  have HL := hide hl
  have h0 : (0 : Int) ≤ (a : Int) := by omega
  have h1 : (a : Int) < (R.secs : Int) := by omega
  have hne : ((l.length : Int) != (R.size : Int)) = false := by rw [hl]; simp
  clear h hlv hl hR hb
  go_enter Try.func48, Try.ntmps48
  go_wp2_with fail
  refine (unhide HCP).mono ?_
  rintro e w1 ⟨v', rfl, hrow, hk1⟩
  rw [unhide HL] at hrow
  obtain ⟨vg, vc, rfl, hvg, hvl⟩ := hrow.form (by have := (unhide H).size1; omega)
  have hb1 : w1.heap[R.D]? = some (.cells R.cells 103 (0, 0)) := by rw [hk1.block _ (lt_of_block (unhide H).blk) id]; exact (unhide H).blk
  have d3 : w1.cell? ⟨R.D, 3, none⟩ = some (.slice lo R.log.length lc) := by rw [cell_of_blk hb1, ← unhide HLV]; rfl
  have hrow1 : w1.ownsRow B 60 2 (.slice lo R.log.length lc) R.log.length (lcells R.log) := by rw [← unhide HLV]; exact ownsRow_kept (unhide H).row hk1 (fun _ _ => id)
  have hDl := lt_of_block hb1
  have hneD : (Value.slice lo R.log.length lc).ownBlock ≠ some R.D := fun e => by
    rcases hrow1.2 with ⟨hv, _⟩ | ⟨g, cap', cur, hv, _, hg, _⟩
    · rw [hv] at e; simp [Value.ownBlock] at e
    · rw [hv] at e; simp [Value.ownBlock] at e; subst e; rw [hb1] at hg; simp at hg
  have hs1 := hk1.size
  have HROW := hide hrow
  have HK1 := hide hk1
  have HR1 := hide hrow1
  have HB1 := hide hb1
  have HND := hide hneD
  clear hrow hk1 hrow1 hb1 hneD HCP hvg hvl
  have hlvo : (Value.slice lo R.log.length lc).ownBlock = R.lv.ownBlock := by rw [unhide HLV]
  have HLVO := hide hlvo
  clear hlvo
  by_cases hl0 : R.fuse = 0
  · have HZ := hide hl0
    have h0 : (R.fuse == 0) = true := by rw [hl0]; rfl
    clear hl0
    go_wp2_with (at_builtin; refine wpList_append_lies _ rfl _ _ _ rfl B 60 i0 _ 2 32 Try.underlying41 hi0 hz0 hz1 hz2 rfl (by omega) (.slice lo R.log.length lc) R.log.length (lcells R.log) rfl ((unhide HR1).alloc _) ⟨w1.heap.size, 0, none⟩ 1 1 [.int .i64 a, .slice (some ⟨vg, 0, none⟩) R.size vc] rfl rfl (World.news_of_block (cs := #[.int .i64 a, .slice (some ⟨vg, 0, none⟩) R.size vc]) (t := 60) (fr := (0, 0)) (heap_alloc_new w1 _)) (by simp [Value.oneCell']) (by omega) (by unfold maxLen; omega) (by omega) (by simp; omega) (w1.heap.size + 1) (by simp) ?_; intro g cap' w2 hown2 hgrow hat hlt; have hblk2 : w2.heap[R.D]? = some (.cells R.cells 103 (0, 0)) := (hgrow.block R.D (Nat.lt_of_lt_of_le hDl (by simp)) (Ne.symm (unhide HND))).trans ((Below.heap_alloc _ _ _ hDl).trans (unhide HB1)); have e3 : w2.cell? ⟨R.D, 3, none⟩ = some (.slice lo R.log.length lc) := (cell_of_blk hblk2 3).trans (congrArg some (unhide HLV)); have e5 : w2.cell? ⟨R.D, 5, none⟩ = some (.int .i64 R.fuse) := cell_of_blk hblk2 5; have e6 : w2.cell? ⟨R.D, 6, none⟩ = some (.bool R.gone) := cell_of_blk hblk2 6; have e8 : w2.cell? ⟨R.D, 8, none⟩ = some (.int .i64 R.wr) := cell_of_blk hblk2 8; have f3 := frozen_of_blk hblk2 3; have f5 := frozen_of_blk hblk2 5; have f6 := frozen_of_blk hblk2 6; have f8 := frozen_of_blk hblk2 8; have HB2 := hide hblk2; have HO2 := hide hown2; have HG2 := hide hgrow; have HA2 := hide hat; clear hblk2 hown2 hgrow hat)
    go_ret
    rw [unhide HLVO] at HG2 HA2
    refine ⟨rfl, _, _, refWrote_at (unhide H) ha (unhide HL) hB (unhide HK1) (unhide HROW) (unhide HO2) (unhide HG2) (unhide HA2) _ _ _ ?_ ?_⟩
    · rw [heap_setCell_at (heap_setCell_at (unhide HB2) _) _]; simp [RS.cells, RS.wrote, unhide HZ]
    · exact (kD _ _ _ _).trans (kD _ _ _ _)
  · have h0 : (R.fuse == 0) = false := beq_eq_false_iff_ne.2 hl0
    have HZ := hide hl0
    clear hl0
    by_cases hp : 0 < R.fuse
    · go_wp2_with (at_builtin; refine wpList_append_lies _ rfl _ _ _ rfl B 60 i0 _ 2 32 Try.underlying41 hi0 hz0 hz1 hz2 rfl (by omega) (.slice lo R.log.length lc) R.log.length (lcells R.log) rfl ((unhide HR1).alloc _) ⟨w1.heap.size, 0, none⟩ 1 1 [.int .i64 a, .slice (some ⟨vg, 0, none⟩) R.size vc] rfl rfl (World.news_of_block (cs := #[.int .i64 a, .slice (some ⟨vg, 0, none⟩) R.size vc]) (t := 60) (fr := (0, 0)) (heap_alloc_new w1 _)) (by simp [Value.oneCell']) (by omega) (by unfold maxLen; omega) (by omega) (by simp; omega) (w1.heap.size + 1) (by simp) ?_; intro g cap' w2 hown2 hgrow hat hlt; have hblk2 : w2.heap[R.D]? = some (.cells R.cells 103 (0, 0)) := (hgrow.block R.D (Nat.lt_of_lt_of_le hDl (by simp)) (Ne.symm (unhide HND))).trans ((Below.heap_alloc _ _ _ hDl).trans (unhide HB1)); have e3 : w2.cell? ⟨R.D, 3, none⟩ = some (.slice lo R.log.length lc) := (cell_of_blk hblk2 3).trans (congrArg some (unhide HLV)); have e5 : w2.cell? ⟨R.D, 5, none⟩ = some (.int .i64 R.fuse) := cell_of_blk hblk2 5; have e6 : w2.cell? ⟨R.D, 6, none⟩ = some (.bool R.gone) := cell_of_blk hblk2 6; have e8 : w2.cell? ⟨R.D, 8, none⟩ = some (.int .i64 R.wr) := cell_of_blk hblk2 8; have f3 := frozen_of_blk hblk2 3; have f5 := frozen_of_blk hblk2 5; have f6 := frozen_of_blk hblk2 6; have f8 := frozen_of_blk hblk2 8; have HB2 := hide hblk2; have HO2 := hide hown2; have HG2 := hide hgrow; have HA2 := hide hat; clear hblk2 hown2 hgrow hat)
      go_ret
      rw [unhide HLVO] at HG2 HA2
      refine ⟨rfl, _, _, refWrote_at (unhide H) ha (unhide HL) hB (unhide HK1) (unhide HROW) (unhide HO2) (unhide HG2) (unhide HA2) _ _ _ ?_ ?_⟩
      · rw [heap_setCell_at (heap_setCell_at (heap_setCell_at (unhide HB2) _) _) _]; simp [RS.cells, RS.wrote, hgone]
      · exact ((kD _ _ _ _).trans (kD _ _ _ _)).trans (kD _ _ _ _)
    · go_wp2_with (at_builtin; refine wpList_append_lies _ rfl _ _ _ rfl B 60 i0 _ 2 32 Try.underlying41 hi0 hz0 hz1 hz2 rfl (by omega) (.slice lo R.log.length lc) R.log.length (lcells R.log) rfl ((unhide HR1).alloc _) ⟨w1.heap.size, 0, none⟩ 1 1 [.int .i64 a, .slice (some ⟨vg, 0, none⟩) R.size vc] rfl rfl (World.news_of_block (cs := #[.int .i64 a, .slice (some ⟨vg, 0, none⟩) R.size vc]) (t := 60) (fr := (0, 0)) (heap_alloc_new w1 _)) (by simp [Value.oneCell']) (by omega) (by unfold maxLen; omega) (by omega) (by simp; omega) (w1.heap.size + 1) (by simp) ?_; intro g cap' w2 hown2 hgrow hat hlt; have hblk2 : w2.heap[R.D]? = some (.cells R.cells 103 (0, 0)) := (hgrow.block R.D (Nat.lt_of_lt_of_le hDl (by simp)) (Ne.symm (unhide HND))).trans ((Below.heap_alloc _ _ _ hDl).trans (unhide HB1)); have e3 : w2.cell? ⟨R.D, 3, none⟩ = some (.slice lo R.log.length lc) := (cell_of_blk hblk2 3).trans (congrArg some (unhide HLV)); have e5 : w2.cell? ⟨R.D, 5, none⟩ = some (.int .i64 R.fuse) := cell_of_blk hblk2 5; have e6 : w2.cell? ⟨R.D, 6, none⟩ = some (.bool R.gone) := cell_of_blk hblk2 6; have e8 : w2.cell? ⟨R.D, 8, none⟩ = some (.int .i64 R.wr) := cell_of_blk hblk2 8; have f3 := frozen_of_blk hblk2 3; have f5 := frozen_of_blk hblk2 5; have f6 := frozen_of_blk hblk2 6; have f8 := frozen_of_blk hblk2 8; have HB2 := hide hblk2; have HO2 := hide hown2; have HG2 := hide hgrow; have HA2 := hide hat; clear hblk2 hown2 hgrow hat)
      go_ret
      rw [unhide HLVO] at HG2 HA2
      refine ⟨rfl, _, _, refWrote_at (unhide H) ha (unhide HL) hB (unhide HK1) (unhide HROW) (unhide HO2) (unhide HG2) (unhide HA2) _ _ _ ?_ ?_⟩
      · rw [heap_setCell_at (heap_setCell_at (unhide HB2) _) _]; simp [RS.cells, RS.wrote, hgone]
      · exact (kD _ _ _ _).trans (kD _ _ _ _)

end Go.Proofs.Ytjmbcelkhiopeaa
