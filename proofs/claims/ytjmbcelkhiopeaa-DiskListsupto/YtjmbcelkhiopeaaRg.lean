import Derived.Test.YtjmbcelkhiopeaaRf
namespace Go.Proofs.Ytjmbcelkhiopeaa
open Go.RowKit Go.Maps

structure RPend (w : World) (R : RS) (f k : Nat) (v : Value) (log : List LW) (w' : World) : Prop where
  at_ : LogAt w' w.heap.size v R.size log
  pair : log.map LW.pair = ((R.log.drop f).take (k - f)).map LW.pair
  len : log.length = k - f
  keeps : Keeps (fun _ => False) w w'

theorem RPend.next {w wr w1 w2 : World} {B : Nat} {R : RS} {f k : Nat} {v v' : Value} {log : List LW} {x : LW} {Y : Obj} {g cap : Nat} (I : RPend w R f k v log wr) (h : RefAt w B R) (hfk : f ≤ k) (hx : R.log[k]? = some x)
    (hk1 : Keeps (fun _ => False) wr w1) (hv : w1.ownsRow wr.heap.size 5 1 v' R.size (bs x.bytes))
    (hown2 : w2.ownsRow w.heap.size 60 2 (.slice (some ⟨g, 0, none⟩) (log.length + 1) cap) (log.length + 1) (lcells log ++ [.int .i64 x.sec, v']))
    (hgrow : (w1.alloc Y).grownBy w2 v.ownBlock) : RPend w R f (k + 1) (.slice (some ⟨g, 0, none⟩) (log.length + 1) cap) (log ++ [⟨x.sec, v', x.bytes⟩]) w2 := by
  have z0 := I.keeps.size
  have z1 := hk1.size
  have hK : Keeps (fun b => v.ownBlock = some b) wr w2 := ((hk1.mono (fun _ _ f => f.elim)).alloc Y).grown hgrow (fun q e _ => e)
  have hne5 : ∀ (u : Value) (n : Nat) (xs : List Value), wr.ownsRow w.heap.size 5 1 u n xs → ∀ b, u.ownBlock = some b → v.ownBlock ≠ some b := by
    intro u n xs hu b hb e
    rcases hu.2 with ⟨hv', _⟩ | ⟨g', c', cur, hv', _, hg, _⟩
    · rw [hv'] at hb; simp [Value.ownBlock] at hb
    · rw [hv'] at hb; simp [Value.ownBlock] at hb; subst hb
      rcases I.at_.row.2 with ⟨hv2, _⟩ | ⟨g2, c2, cur2, hv2, _, hg2, _⟩
      · rw [hv2] at e; simp [Value.ownBlock] at e
      · rw [hv2] at e; simp [Value.ownBlock] at e; subst e
        rw [hg] at hg2; simp at hg2
  refine ⟨⟨by rw [List.length_append, List.length_singleton, lcells_snoc]; exact hown2, ?_⟩, ?_, by rw [List.length_append, I.len]; simp; omega, ?_⟩
  · intro y hy
    rcases List.mem_append.1 hy with hy | hy
    · obtain ⟨a, b⟩ := I.at_.each y hy
      exact ⟨a, ownsRow_kept b hK (fun q hq => hne5 _ _ _ b q hq)⟩
    · simp at hy; subst hy
      refine ⟨(h.each x (List.mem_of_getElem? hx)).1, ?_⟩
      rcases hv.2 with ⟨hv', hn⟩ | ⟨g', c', cur, hv', hb', hg', rest⟩
      · have := h.size1; omega
      · refine ⟨hv.1, Or.inr ⟨g', c', cur, hv', by omega, ?_, rest⟩⟩
        have hlt := lt_of_block hg'
        rw [hgrow.block g' (by simp; omega) (fun e => by have := (I.at_.row.lt _ e.symm).2; omega), Below.heap_alloc _ _ _ hlt]
        exact hg'
  · have e : k + 1 - f = (k - f) + 1 := by omega
    have hd : (R.log.drop f)[k - f]? = some x := by rw [List.getElem?_drop, show f + (k - f) = k by omega]; exact hx
    rw [e, take_snoc _ _ _ hd, List.map_append, List.map_append, I.pair]; rfl
  · exact ⟨hK.os.trans I.keeps.os, hK.tape.trans I.keeps.tape, hK.output.trans I.keeps.output, Nat.le_trans z0 hK.size, fun q hq _ => by
      rw [hK.block q (by omega) (fun e => by have := (I.at_.row.lt _ e).1; omega)]; exact I.keeps.block q hq id⟩


set_option maxRecDepth 100000 in
set_option maxHeartbeats 2000000 in
theorem refPending_any (w : World) (B : Nat) (R : RS) (h : RefAt w B R) (hll : R.log.length ≤ 4294967295) :
    Calls Try.prog 54 #[.pointer (some ⟨R.D, 0, none⟩)] w fun e w' => ∃ v log, e = .returned v ∧ RPend w R R.firm R.log.length v log w' := by
  obtain ⟨i0, hi0, hz0, hz1, hz2⟩ := info_parts Try.info60
  obtain ⟨lo, lc, hlv⟩ := h.form
  have c3 : w.cell? ⟨R.D, 3, none⟩ = some (.slice lo R.log.length lc) := by rw [cell_of_blk h.blk, ← hlv]; rfl
  have c4 : w.cell? ⟨R.D, 4, none⟩ = some (.int .i64 R.firm) := cell_of_blk h.blk 4
  have hDl := lt_of_block h.blk
  have hfl := h.firm
  have hs1 := h.size1
  have HI0 : Hid (RPend w R R.firm R.firm (.slice none 0 0) [] w) := ⟨⟨World.ownsRow_nil _ _ _ _, fun x hx => (by cases hx)⟩, by simp, by simp, Keeps.refl _ _⟩
  have H := hide h
  have HLV := hide hlv
  clear h hlv
  go_enter Try.func54, Try.ntmps54
  go_wp2_with fail
  go_loopw [3, 4] (fun l i wr => ∃ (k : Nat) (log : List LW), R.firm ≤ k ∧ k ≤ R.log.length ∧ i = .int .i64 k ∧ RPend w R R.firm k l log wr) (fun _ i _ => R.log.length - (intOf i).toNat)
  case atStart => exact ⟨R.firm, [], Nat.le_refl _, hfl, rfl, unhide HI0⟩
  case round =>
    obtain ⟨k, log, hk0, hk, rfl, hI⟩ := hrel
    clear HI0
    have d3 := (hI.keeps.cell (o := 3) hDl id).trans c3
    by_cases hlt : k < R.log.length
    · obtain ⟨x, hx⟩ : ∃ x, R.log[k]? = some x := ⟨_, List.getElem?_eq_getElem hlt⟩
      obtain ⟨g0, cap0, e1, hg0, q1, q2⟩ := (unhide H).lcell hx
      have e2 := e1.symm.trans (unhide HLV)
      simp at e2
      obtain ⟨rfl, rfl⟩ := e2
      have p1 := (hI.keeps.cell (o := k * 2) hg0 id).trans q1
      have p2 := (hI.keeps.cell (o := k * 2 + 1) hg0 id).trans q2
      have hxe := (unhide H).each x (List.mem_of_getElem? hx)
      obtain ⟨r1, r2⟩ := row_reads (ownsRow_kept hxe.2.2 hI.keeps (fun _ _ => id))
      have hcp := copyBytes_any wr x.v x.bytes r1 r2 (by rw [hxe.1]; have := (unhide H).size2; omega)
      rw [hxe.1] at hcp
      have HCP := hide hcp
      have Hx := hide hx
      have HI := hide hI
      have hlg : log.length ≤ 4294967295 := by rw [hI.len]; omega
      have hwz := hI.keeps.size
      have i1 : (k : Int) < (R.log.length : Int) := by omega
      have j0 : (0 : Int) ≤ (k : Int) := by omega
      clear hx e1 q1 q2 hxe r1 r2 hcp hI
      go_wp2_with fail
      refine (unhide HCP).mono ?_
      rintro e w1 ⟨v', rfl, hrow, hk1⟩
      obtain ⟨vg, vc, rfl, hvg, hvl⟩ := hrow.form (by omega)
      have d3' := (hk1.cell (o := 3) (Nat.lt_of_lt_of_le hDl hwz) id).trans d3
      have p1' := (hk1.cell (o := k * 2) (Nat.lt_of_lt_of_le hg0 hwz) id).trans p1
      have hz1' := hk1.size
      have HROW := hide hrow
      have HK1 := hide hk1
      have HR1 := hide (ownsRow_kept (unhide HI).at_.row hk1 (fun _ _ => id))
      clear hrow hk1 HCP hvg hvl d3 p1 p2
      go_wp2_with (at_builtin; refine wpList_append_lies _ rfl _ _ _ rfl w.heap.size 60 i0 _ 2 32 Try.underlying41 hi0 hz0 hz1 hz2 rfl (by omega) u3 log.length (lcells log) rfl ((unhide HR1).alloc _) ⟨w1.heap.size, 0, none⟩ 1 1 [.int .i64 x.sec, .slice (some ⟨vg, 0, none⟩) R.size vc] rfl rfl (World.news_of_block (cs := #[.int .i64 x.sec, .slice (some ⟨vg, 0, none⟩) R.size vc]) (t := 60) (fr := (0, 0)) (heap_alloc_new w1 _)) (by simp [Value.oneCell']) (by omega) (by unfold maxLen; omega) (by omega) (by rw [World.size_alloc]; omega) (w1.heap.size + 1) (by simp) ?_; intro g cap' w2 hown2 hgrow hat hlt)
      go_roundw
      case rel => exact ⟨k + 1, _, by omega, by omega, by go_num, (unhide HI).next (unhide H) hk0 (unhide Hx) (unhide HK1) (unhide HROW) hown2 hgrow⟩
      case measure => simp [intOf]; omega
    · obtain rfl : k = R.log.length := by omega
      have HI := hide hI
      clear hI
      go_wp2
      go_ret
      exact ⟨_, log, rfl, unhide HI⟩

end Go.Proofs.Ytjmbcelkhiopeaa
