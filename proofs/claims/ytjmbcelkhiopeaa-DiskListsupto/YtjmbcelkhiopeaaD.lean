import Derived.Test.YtjmbcelkhiopeaaC
import Derived.Deep.RegionHeld3
import Derived.Deep.RegionLaw
import Derived.BigRegion
import Derived.Deep.DrawnRows
namespace Go.Proofs.Ytjmbcelkhiopeaa
open Go.RowKit Go.Maps
attribute [local go_sem ↓] Go.wp_at_zero Go.wp_at_succ

theorem law3 : Keyed Try.prog 3 := int_keyed Try.underlying3
theorem Try.info60 : (Try.prog.info? 60).map (fun i => (i.zero, i.size, i.bytes)) = some (some (.agg #[.int .i64 0, .slice none 0 0]), 2, 32) := by kernel_rfl


theorem wf64 (a : Nat) (h : a ≤ 2147483647) : (Lit.int .i64 (a : Int)).wf = true := by
  have e := wrap64_wf (a : Int)
  rwa [IntWalk.wrap64_in _ (by omega)] at e

theorem map_ne_cell {w : World} {P : Program} {k : TypeId} {R : Value → Option (DataW Unit × List MemPlace)} {mb n : Nat} {M : DataW Unit} (hm : w.ownsMap P k R mb n M) {b o : Nat} {v : Value} (hc : w.cell? ⟨b, o, none⟩ = some v) : b ≠ mb := by
  intro e
  subst e
  obtain ⟨es, clock, hb, _⟩ := hm
  simp [World.cell?, hb] at hc

theorem keeps_turned {w w1 : World} {b : Nat} (h : w.mapTurned w1 b) : Keeps (fun k => k = b) w w1 :=
  (Keeps.refl _ _).grown h.grown (fun k e _ => by simpa using e.symm)

/-- What Write leaves: the disk behind it. -/
def DS.wrote (S : DS) (a g : Nat) (l : List Int) (wv : Value) (left : Int) (dead : Bool) (wr : Int) : DS :=
  { S with wv := wv, ws := S.ws ++ [⟨a, g, l⟩], mn := S.mn + 1, M := S.M.put (.int .i64 a) (i64 S.ws.length), left := left, dead := dead, wr := wr }

theorem wcells_snoc (size : Nat) (ws : List Wr) (x : Wr) : wcells size (ws ++ [x]) = wcells size ws ++ [.int .i64 x.sec, .slice (some ⟨x.blk, 0, none⟩) size size] := by
  simp [wcells]

theorem kD (w : World) (D o : Nat) (v : Value) : Keeps (fun k => k = D) w (w.setCell ⟨D, o, none⟩ v) :=
  Keeps.setCell (F := fun k => k = D) (p := ⟨D, o, none⟩) (Keeps.refl _ w) (fun _ => rfl) v

theorem size_turned {w w1 : World} {b : Nat} (h : w.mapTurned w1 b) : w1.heap.size = w.heap.size := by
  obtain ⟨es, clock, es', clock', _, rfl⟩ := h
  simp [ChangeMaps.setBlock]

theorem wrote_at {w w1 w2 w' : World} {B : Nat} {S : DS} (h : DiskAt w B S) {a g cap' : Nat} {l : List Int} (ha : a < S.secs) (hl : l.length = S.size)
    (hturn : w.drew.mapTurned w1 S.mb) (hmap1 : w1.ownsMap Try.prog 3 (plainElem Try.prog 3) S.mb (S.mn + 1) (S.M.put (.int .i64 a) (i64 S.ws.length)))
    {Y : Obj} (hown2 : w2.ownsRow B 60 2 (.slice (some ⟨g, 0, none⟩) (S.ws.length + 1) cap') (S.ws.length + 1) (wcells S.size S.ws ++ [.int .i64 a, .slice (some ⟨w1.heap.size, 0, none⟩) S.size S.size]))
    (hgrow : ((w1.alloc (.cells (bs l).toArray 5)).alloc Y).drew.grownBy w2 S.wv.ownBlock) (hat : S.wv.ownBlock = some g ∨ g = w1.heap.size + 2)
    (left : Int) (dead : Bool) (wr : Int) (hD : w'.heap[S.D]? = some (.cells (S.wrote a w.heap.size l (.slice (some ⟨g, 0, none⟩) (S.ws.length + 1) cap') left dead wr).cells 89 (0, 0))) (hk : Keeps (fun k => k = S.D) w2 w') :
    DiskAt w' B (S.wrote a w.heap.size l (.slice (some ⟨g, 0, none⟩) (S.ws.length + 1) cap') left dead wr) ∧ Keeps S.own w w' ∧
      (∀ k, (Value.slice (some ⟨g, 0, none⟩) (S.ws.length + 1) cap').ownBlock = some k → S.wv.ownBlock = some k ∨ w.heap.size ≤ k) := by
  have hsz1 : w1.heap.size = w.heap.size := (size_turned hturn : w1.heap.size = w.drew.heap.size)
  have hDlt := lt_of_block h.blk
  have hdlt := lt_of_block h.dblk
  have hk1 : Keeps S.own w w1 := (Keeps.refl _ _).drew.trans ((keeps_turned hturn).mono (fun k _ e => Or.inr (Or.inr (Or.inl e))))
  have hk2 : Keeps S.own w w2 := (((hk1.alloc (.cells (bs l).toArray 5)).alloc Y).drew).grown hgrow (fun k e _ => Or.inr (Or.inr (Or.inr e)))
  have hk' : Keeps S.own w w' := ⟨hk.os.trans hk2.os, hk.tape.trans hk2.tape, hk.output.trans hk2.output, Nat.le_trans hk2.size hk.size, fun k hkk hF => by
    rw [hk.block k (Nat.lt_of_lt_of_le hkk hk2.size) (fun e => hF (Or.inl e))]; exact hk2.block k hkk hF⟩
  have hwne : ∀ b c t fr, w.heap[b]? = some (.cells c t fr) → t ≠ 60 → S.wv.ownBlock ≠ some b := by
    intro b c t fr hb ht e
    rcases h.row.2 with ⟨hv, _⟩ | ⟨g', cap', cur, hv, _, hg, _⟩
    · rw [hv] at e; simp [Value.ownBlock] at e
    · rw [hv] at e; simp [Value.ownBlock] at e; subst e; rw [hb] at hg; simp at hg; exact ht hg.2.1
  have hmne : ∀ b c t fr, w.heap[b]? = some (.cells c t fr) → b ≠ S.mb := by
    intro b c t fr hb e
    obtain ⟨es, clock, hb', _⟩ := h.map
    rw [e, hb'] at hb; cases hb
  -- a block of cells of another type than the waiting list's, other than D, stands
  have stand : ∀ b c t fr, w.heap[b]? = some (.cells c t fr) → t ≠ 60 → b ≠ S.D → w'.heap[b]? = some (.cells c t fr) := by
    intro b c t fr hb ht hbD
    have hlt := lt_of_block hb
    have e1 : w1.heap[b]? = w.heap[b]? := (keeps_turned hturn).block b hlt (hmne b c t fr hb)
    rw [hk.block b (Nat.lt_of_lt_of_le hlt hk2.size) hbD, hgrow.block b (by simp; omega) (fun e => hwne b c t fr hb ht e.symm)]
    show ((w1.alloc (.cells (bs l).toArray 5)).alloc Y).heap[b]? = _
    rw [Below.heap_alloc _ _ _ (by simp; omega), Below.heap_alloc _ _ _ (by omega), e1, hb]
  have hnew : w'.heap[w.heap.size]? = some (.cells (bs l).toArray 5 (0, 0)) := by
    have hlt2 : w.heap.size < w2.heap.size := by have := hgrow.size; simp at this; omega
    rw [hk.block _ hlt2 (by omega), hgrow.block _ (by simp; omega) (fun e => by
      have := h.row.lt _ e.symm; omega)]
    show ((w1.alloc (.cells (bs l).toArray 5)).alloc Y).heap[_]? = _
    rw [Below.heap_alloc _ _ _ (by simp; omega), ← hsz1]
    exact heap_alloc_new w1 _
  have hmb1 := lt_of_block (h.map).choose_spec.choose_spec.1
  refine ⟨?_, hk', ?_⟩
  · refine ⟨hD, ?_, h.dlen, ?_, ?_, ?_, ?_, h.lo, h.secs1, h.secs2, h.size1, h.size2⟩
    · refine stand _ _ _ _ h.dblk (by decide) ?_
      intro e
      have := h.dblk; rw [show S.db = S.D from e, h.blk] at this; simp at this
    · have e : (S.wrote a w.heap.size l (.slice (some ⟨g, 0, none⟩) (S.ws.length + 1) cap') left dead wr).ws.length = S.ws.length + 1 := by simp [DS.wrote]
      rw [e]
      show w'.ownsRow B 60 2 (.slice (some ⟨g, 0, none⟩) (S.ws.length + 1) cap') _ (wcells S.size (S.ws ++ [⟨a, w.heap.size, l⟩]))
      rw [wcells_snoc]
      rw [hsz1] at hown2
      refine ⟨hown2.1, ?_⟩
      rcases hown2.2 with hn | ⟨g', cap2, cur, hv, hb, hg, rest⟩
      · exact Or.inl hn
      · refine Or.inr ⟨g', cap2, cur, hv, hb, ?_, rest⟩
        have hgD : g' ≠ S.D := by
          intro e
          simp at hv
          rcases hat with hat | hat
          · exact hwne _ _ _ _ h.blk (by decide) (by rw [hat, hv.1, e])
          · rw [← e, ← hv.1] at hDlt; omega
        rw [hk.block g' (lt_of_block hg) hgD]; exact hg
    · intro x hx
      have hx' : x ∈ S.ws ∨ x = ⟨a, w.heap.size, l⟩ := by simpa [DS.wrote] using hx
      rcases hx' with hx' | rfl
      · obtain ⟨a1, a2, a3, a4⟩ := h.each x hx'
        refine ⟨a1, a2, stand _ _ _ _ a3 (by decide) ?_, a4⟩
        intro e
        rw [e, h.blk] at a3; simp at a3
      · exact ⟨hl, ha, hnew, by show w.heap.size ≠ S.db; omega⟩
    · obtain ⟨es, clock, hb, r⟩ := hmap1
      refine ⟨es, clock, ?_, r⟩
      show w'.heap[S.mb]? = _
      have hmD : S.mb ≠ S.D := fun e => hmne _ _ _ _ h.blk e.symm
      rw [hk.block _ (Nat.lt_of_lt_of_le hmb1 hk2.size) hmD, hgrow.block _ (by simp; omega) (fun e => by
        rcases h.row.2 with ⟨hv, _⟩ | ⟨g', cap', cur, hv, _, hg, _⟩
        · rw [hv] at e; simp [Value.ownBlock] at e
        · rw [hv] at e; simp [Value.ownBlock] at e
          exact hmne _ _ _ _ hg e.symm)]
      show ((w1.alloc (.cells (bs l).toArray 5)).alloc Y).heap[_]? = _
      rw [Below.heap_alloc _ _ _ (by simp; omega), Below.heap_alloc _ _ _ (by omega), hb]
    · have := h.says.put h.map.isMap ⟨a, w.heap.size, l⟩
      exact this
  · intro k hk3
    simp [Value.ownBlock] at hk3
    subst hk3
    rcases hat with hat | hat
    · exact Or.inl hat
    · exact Or.inr (by omega)

set_option maxRecDepth 100000 in
set_option maxHeartbeats 2000000 in
theorem write_ok (w : World) (B : Nat) (S : DS) (h : DiskAt w B S) (a b off cap : Nat) (l : List Int) (ha : a < S.secs) (hl : l.length = S.size)
    (hc : ∀ j x, l[j]? = some x → w.cell? ⟨b, off + j, none⟩ = some (.int .u8 x)) (hdead : S.dead = false) (hleft : -1 ≤ S.left) (hleft2 : S.left ≤ 9223372036854775807) (hmn : S.mn ≤ 2147483647) (hws : S.ws.length ≤ 2147483647)
    (hwr1 : 0 ≤ S.wr) (hwr2 : S.wr ≤ 2147483647) :
    Calls Try.prog 12 #[.pointer (some ⟨S.D, 0, none⟩), .int .i64 a, .slice (some ⟨b, off, none⟩) S.size cap] w fun e w' => e = .returned (.int .i64 (if S.left = 0 then 10 else 0)) ∧ ∃ wv',
      DiskAt w' B (S.wrote a w.heap.size l wv' (if S.left ≤ 0 then S.left else S.left - 1) (decide (S.left = 0)) (if S.left = 0 then S.wr else S.wr + 1)) ∧ Keeps S.own w w' ∧ (∀ k, wv'.ownBlock = some k → S.wv.ownBlock = some k ∨ w.heap.size ≤ k) := by
  obtain ⟨ao, wc, hwv⟩ := h.form
  obtain ⟨D, db, mb, mn, secs, size, dur, wv, ws, M, left, dead, r, wr, f⟩ := S
  simp only at *
  subst hdead hwv
  have hsz := h.size1
  have hsz2 := h.size2
  simp only at hsz hsz2
  have hmb := h.map
  simp only at hmb
  have hcb : w.cell? ⟨b, off + 0, none⟩ = some (.int .u8 (l[0]'(by omega))) := hc 0 _ (List.getElem?_eq_getElem (by omega))
  have hblt : b < w.heap.size := World.block_lt_of_cell? w _ hcb
  have hbm := map_ne_cell hmb hcb
  clear hcb
  have c0 := cell_of_blk h.blk 0
  have c1 := cell_of_blk h.blk 1
  have c3 := cell_of_blk h.blk 3
  have c4 := cell_of_blk h.blk 4
  have c6 := cell_of_blk h.blk 6
  simp only [DS.cells, dcells] at c0 c1 c3 c4 c6
  simp at c0 c1 c3 c4 c6
  have hwx : (Lit.int .i64 (a : Int)).wf = true := wf64 a (by have := h.secs2; simp only at this; omega)
  have hwl : (Lit.int .i64 (ws.length : Int)).wf = true := wf64 _ hws
  have hkey := keyOf_int_mk Try.underlying3 hwx
  obtain ⟨w1, hrun, hmap1, hturn⟩ := World.ownsMap.store (w := w.drew) hmb law3 Try.underlying87 (by unfold maxLen; omega) hkey (plainElem_int Try.underlying3 hwl)
  have hk1 : Keeps (fun k => k = mb) w w1 := (Keeps.refl _ _).drew.trans (keeps_turned hturn)
  have hDm : D ≠ mb := map_ne_cell hmb c0
  have c3' : w1.cell? ⟨D, 3, none⟩ = some (.slice ao ws.length wc) := by rw [hk1.cell (lt_of_block h.blk) hDm]; exact c3
  have hrow1 : w1.ownsRow B 60 2 (.slice ao ws.length wc) ws.length (wcells size ws) := h.row.drew.kept hturn.grown (by
    rcases h.row.2 with ⟨hv, _⟩ | ⟨g, cap', cur, hv, _, hg, _⟩
    · simp only at hv; rw [hv]; exact Or.inl rfl
    · simp only at hv; rw [hv]; right; simp only [Value.ownBlock]; intro e; simp at e; subst e
      obtain ⟨es, clock, hb', _⟩ := hmb
      rw [hb'] at hg; cases hg)
  have hc1 : ∀ j x, l[j]? = some x → w1.cell? ⟨b, off + j, none⟩ = some (.int .u8 x) := fun j x hx => by rw [hk1.cell hblt hbm]; exact hc j x hx
  have hb1 : b < w1.heap.size := Nat.lt_of_lt_of_le hblt hk1.size
  have hD1 : D < w1.heap.size := Nat.lt_of_lt_of_le (lt_of_block h.blk) hk1.size
  have hB1 : B ≤ w1.heap.size := by have := h.lo.1; simp only at this; omega
  have f3' : w1.frozen? ⟨D, 3, none⟩ = false := by
    rw [World.frozen?_of_block (w := w) (hk1.block D (lt_of_block h.blk) hDm)]; exact frozen_of_blk h.blk 3
  have hne : (Value.slice ao ws.length wc).ownBlock ≠ some D := by
    rcases h.row.2 with ⟨hv, _⟩ | ⟨g, cap', cur, hv, _, hg, _⟩
    · simp only at hv; rw [hv]; simp [Value.ownBlock]
    · simp only at hv; rw [hv]; simp only [Value.ownBlock]; intro e; simp at e; subst e
      have := h.blk; simp only at this; rw [this] at hg; simp at hg
  obtain ⟨i0, hi0, hz0, hz1, hz2⟩ := info_parts Try.info60
  have hblk1 : w1.heap[D]? = some (.cells (DS.cells ⟨D, db, mb, mn, secs, size, dur, .slice ao ws.length wc, ws, M, left, false, r, wr, f⟩) 89 (0, 0)) := by rw [hk1.block D (lt_of_block h.blk) hDm]; exact h.blk
  have HB := hide hblk1
  have HS := hide h
  have HM := hide hmap1
  have HT := hide hturn
  have HK := hide hk1
  have HC := hide hc1
  have HL := hide hl
  have HR := hide hrow1
  have HN := hide hne
  clear hblk1 h hmap1 hturn hwl hwx hc1 hc hl hk1 hrow1 hmb hne
  go_enter Try.func12, Try.ntmps12
  go_wp2_with fail
  refine (ready_ok _ _ c6).mono ?_; rintro e w' ⟨rfl, rfl⟩
  go_wp2_with fail
  refine (has_yes _ _ _ _ c0 ha).mono ?_; rintro e w'' ⟨rfl, rfl⟩
  go_wp2_with fail
  go_region
  go_wp2_with fail
  go_region_law (first
      | (go_simp; go_at_call 41; refine (copied_any b off size cap l _ (unhide HL) (by exact hb1) (by omega) (by exact (unhide HC))).mono ?_; rintro e w' ⟨rfl, rfl⟩; have mark : True := trivial)
      | (clear mark; refine step_append_lies _ (by rfl) _ _ _ (by rfl) B 60 i0 _ 2 32 Try.underlying41 hi0 hz0 hz1 hz2 rfl (by omega) (.slice ao ws.length wc) ws.length (wcells size ws) (by rfl) ((((unhide HR).alloc _).alloc _).drew)
            ⟨w1.heap.size + 1, 0, none⟩ 1 1 [.int .i64 a, .slice (some ⟨w1.heap.size, 0, none⟩) size size] (by rfl) (by rfl) (World.news_of_block (cs := #[.int .i64 a, .slice (some ⟨w1.heap.size, 0, none⟩) size size]) (t := 60) (fr := (0, 0)) (by have q := heap_alloc_new (w1.alloc (.cells (bs l).toArray 5)) (.cells #[.int .i64 a, .slice (some ⟨w1.heap.size, 0, none⟩) size size] 60); rw [World.size_alloc] at q; exact q)) (by simp [Value.oneCell'])
            (by omega) (by unfold maxLen; omega) (by omega) (by simp; omega) (w1.heap.size + 2) (by simp) ?_; intro g cap' w2 hown2 hgrow hat hlt
         have f3'' : w2.frozen? ⟨D, 3, none⟩ = false := by (rw [hgrow.frozen_far _ (by simp; omega) (Ne.symm (unhide HN))]; simpa [World.frozen?_alloc_past, hD1, Nat.lt_succ_of_lt hD1] using f3')
         have c3'' : w2.cell? ⟨D, 3, none⟩ = some (.slice ao ws.length wc) := by (rw [hgrow.cell_far _ (by simp; omega) (Ne.symm (unhide HN))]; simpa [World.cell?_alloc_past, hD1, Nat.lt_succ_of_lt hD1] using c3')))
  all_goals
    have hblk2 : w2.heap[D]? = some (.cells (DS.cells ⟨D, db, mb, mn, secs, size, dur, .slice ao ws.length wc, ws, M, left, false, r, wr, f⟩) 89 (0, 0)) := by
      rw [hgrow.block D (by simp; omega) (Ne.symm (unhide HN))]
      show ((w1.alloc _).alloc _).heap[D]? = _
      rw [Below.heap_alloc _ _ _ (by simp; omega), Below.heap_alloc _ _ _ (by omega)]
      exact unhide HB
    have c5 : w2.cell? ⟨D, 5, none⟩ = some (.int .i64 left) := by rw [cell_of_blk hblk2]; rfl
    have c6'' : w2.cell? ⟨D, 6, none⟩ = some (.bool false) := by rw [cell_of_blk hblk2]; rfl
    have c8 : w2.cell? ⟨D, 8, none⟩ = some (.int .i64 wr) := by rw [cell_of_blk hblk2]; rfl
    have f5 := frozen_of_blk hblk2 5
    have f6 := frozen_of_blk hblk2 6
    have f8 := frozen_of_blk hblk2 8
    have HB2 := hide hblk2
    have HO2 := hide hown2
    have HG2 := hide hgrow
    have HA2 := hide hat
    clear hblk2 hown2 hgrow hat
    by_cases hl0 : left = 0
    · subst hl0
      go_wp2
      go_ret
      refine ⟨rfl, _, wrote_at (unhide HS) ha (unhide HL) (unhide HT) (unhide HM) (unhide HO2) (unhide HG2) (unhide HA2) _ _ _ ?_ ?_⟩
      · rw [heap_setCell_at (heap_setCell_at (unhide HB2) _) _]; rfl
      · exact (kD _ _ _ _).trans (kD _ _ _ _)
    · by_cases hl1 : left = -1
      · subst hl1
        go_wp2
        go_ret
        refine ⟨rfl, _, wrote_at (unhide HS) ha (unhide HL) (unhide HT) (unhide HM) (unhide HO2) (unhide HG2) (unhide HA2) _ _ _ ?_ ?_⟩
        · rw [heap_setCell_at (heap_setCell_at (unhide HB2) _) _]; rfl
        · exact (kD _ _ _ _).trans (kD _ _ _ _)
      · have h0 : (left == 0) = false := beq_eq_false_iff_ne.2 hl0
        have h1 : (left != -1) = true := by rw [bne_iff_ne]; exact hl1
        have hpos : 1 ≤ left := by omega
        have HL0 := hide hl0
        have HL1 := hide hl1
        clear hl0 hl1
        go_wp2
        go_ret
        refine ⟨rfl, _, wrote_at (unhide HS) ha (unhide HL) (unhide HT) (unhide HM) (unhide HO2) (unhide HG2) (unhide HA2) _ _ _ ?_ ?_⟩
        · rw [heap_setCell_at (heap_setCell_at (heap_setCell_at (unhide HB2) _) _) _]; rfl
        · exact ((kD _ _ _ _).trans (kD _ _ _ _)).trans (kD _ _ _ _)

end Go.Proofs.Ytjmbcelkhiopeaa
