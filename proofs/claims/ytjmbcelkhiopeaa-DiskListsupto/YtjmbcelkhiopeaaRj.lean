import Derived.Test.YtjmbcelkhiopeaaRi
namespace Go.Proofs.Ytjmbcelkhiopeaa
open Go.RowKit Go.Maps
attribute [local go_sem ↓] Go.wp_at_zero Go.wp_at_succ

def rkeptTo (ks : List Bool) (firm : Nat) (log : List LW) : Nat → List LW
  | 0 => []
  | k + 1 => match log[k]? with
    | some x => if k < firm ∨ ks[k - firm]? = some true then rkeptTo ks firm log k ++ [x] else rkeptTo ks firm log k
    | none => rkeptTo ks firm log k

theorem rkeptTo_len (ks : List Bool) (firm : Nat) (log : List LW) : ∀ k, (rkeptTo ks firm log k).length ≤ k
  | 0 => by simp [rkeptTo]
  | k + 1 => by
    have := rkeptTo_len ks firm log k
    unfold rkeptTo
    split
    · split
      · simp; omega
      · omega
    · omega

/-- The survivor of the document's disk. -/
def survRS (R : RS) (D : Nat) (bv lv : Value) (log : List LW) (firm : Nat) : RS := ⟨D, R.secs, R.size, bv, R.base, lv, log, firm, -1, false, 0, 0, 0⟩

structure RSurv (w : World) (R : RS) (ks : List Bool) (D : Nat) (bv : Value) (k : Nat) (lv : Value) (log : List LW) (w' : World) : Prop where
  at_ : RefAt w' w.heap.size (survRS R D bv lv log 0)
  pair : log.map LW.pair = (rkeptTo ks R.firm R.log k).map LW.pair
  keeps : Keeps (fun _ => False) w w'

theorem RSurv.len {w : World} {R : RS} {ks : List Bool} {D : Nat} {bv : Value} {k : Nat} {lv : Value} {log : List LW} {w' : World} (h : RSurv w R ks D bv k lv log w') : log.length ≤ k := by
  have := congrArg List.length h.pair
  simp at this
  rw [this]; exact rkeptTo_len _ _ _ _

set_option maxRecDepth 100000 in
set_option maxHeartbeats 1000000 in
theorem copyBytes_nil (w : World) : Calls Try.prog 61 #[.slice none 0 0] w fun e w' => e = .returned (.slice none 0 0) ∧ w' = w := by
  go_enter Try.func61, Try.ntmps61
  go_wp2
  go_loopw [3, 4] (fun o i wr => o = .slice none 0 0 ∧ i = .int .i64 0 ∧ wr = w) (fun _ i _ => 0)
  case atStart => exact ⟨rfl, rfl, rfl⟩
  case round =>
    obtain ⟨rfl, rfl, rfl⟩ := hrel
    go_wp2
    go_ret
    exact ⟨rfl, rfl⟩

/-- The copy of the base, of either kind. -/
theorem copyBase_any {w : World} {B : Nat} {R : RS} (h : RefAt w B R) :
    Calls Try.prog 61 #[R.bv] w fun e w' => ∃ ao n c, e = .returned (.slice ao n c) ∧ ((Value.slice ao n c = .slice none 0 0 ∧ R.base = List.replicate (R.secs * R.size) 0) ∨ w'.ownsRow w.heap.size 5 1 (.slice ao n c) (R.secs * R.size) (bs R.base)) ∧ Keeps (fun _ => False) w w' := by
  rcases h.base with ⟨e1, e2⟩ | hr
  · rw [e1]
    refine (copyBytes_nil w).mono ?_
    rintro e w' ⟨rfl, rfl⟩
    exact ⟨_, _, _, rfl, Or.inl ⟨rfl, e2⟩, Keeps.refl _ _⟩
  · obtain ⟨r1, r2⟩ := row_reads hr
    have hcp := copyBytes_any w R.bv R.base r1 r2 (by rw [h.blen]; have := Nat.mul_le_mul h.secs2 h.size2; omega)
    rw [h.blen] at hcp
    refine hcp.mono ?_
    rintro e w' ⟨v', rfl, a, b⟩
    obtain ⟨g, c, rfl, -⟩ := a.form (Nat.mul_pos (by have := h.secs1; omega) (by have := h.size1; omega))
    exact ⟨_, _, _, rfl, Or.inr a, b⟩

theorem survRS_at {w w1 : World} {B : Nat} {R : RS} (h : RefAt w B R) {v' : Value} (hv : (v' = .slice none 0 0 ∧ R.base = List.replicate (R.secs * R.size) 0) ∨ w1.ownsRow w.heap.size 5 1 v' (R.secs * R.size) (bs R.base)) (hk : Keeps (fun _ => False) w w1) (ks : List Bool) :
    RSurv w R ks w1.heap.size v' 0 (.slice none 0 0) [] (w1.alloc (.cells (survRS R w1.heap.size v' (.slice none 0 0) [] 0).cells 103)) :=
  ⟨⟨heap_alloc_new w1 _, hv.elim Or.inl (fun h' => Or.inr (h'.alloc _)), h.blen, World.ownsRow_nil _ _ _ _, fun x hx => (by cases hx), Nat.le_refl _, hk.size, h.secs1, h.secs2, h.size1, h.size2⟩, rfl, hk.alloc _⟩

theorem RSurv.next {w wr w1 w2 : World} {B : Nat} {R : RS} {ks : List Bool} {D : Nat} {bv : Value} {k : Nat} {lv : Value} {log : List LW} {x : LW} {Y : Obj} {v' : Value} {g cap : Nat} (I : RSurv w R ks D bv k lv log wr) (h : RefAt w B R) (hx : R.log[k]? = some x)
    (hkt : rkeptTo ks R.firm R.log (k + 1) = rkeptTo ks R.firm R.log k ++ [x])
    (hk1 : Keeps (fun _ => False) wr w1) (hv : w1.ownsRow wr.heap.size 5 1 v' R.size (bs x.bytes))
    (hown2 : w2.ownsRow w.heap.size 60 2 (.slice (some ⟨g, 0, none⟩) (log.length + 1) cap) (log.length + 1) (lcells log ++ [.int .i64 x.sec, v']))
    (hgrow : (w1.alloc Y).drew.grownBy w2 lv.ownBlock) (hat : lv.ownBlock = some g ∨ g = w1.heap.size + 1) (hne : lv.ownBlock ≠ some D) :
    RSurv w R ks D bv (k + 1) (.slice (some ⟨g, 0, none⟩) (log.length + 1) cap) (log ++ [⟨x.sec, v', x.bytes⟩]) (w2.setCell ⟨D, 3, none⟩ (.slice (some ⟨g, 0, none⟩) (log.length + 1) cap)) := by
  have hxe := h.each x (List.mem_of_getElem? hx)
  have hb0 := I.at_.blk
  have hlt := lt_of_block hb0
  have hb1 : w1.heap[D]? = some (.cells (survRS R D bv lv log 0).cells 103 (0, 0)) := (hk1.block _ hlt id).trans hb0
  have hb2 : w2.heap[D]? = some (.cells (survRS R D bv lv log 0).cells 103 (0, 0)) :=
    (hgrow.block D (by simp; exact Nat.lt_succ_of_lt (lt_of_block hb1)) (Ne.symm hne)).trans ((Below.heap_alloc _ _ _ (lt_of_block hb1)).trans hb1)
  obtain ⟨a1, a2, a3⟩ := refWrote_at (R := survRS R D bv lv log 0) (w := wr) (w1 := w1.drew) (w2 := w2) (w' := w2.setCell ⟨D, 3, none⟩ (.slice (some ⟨g, 0, none⟩) (log.length + 1) cap)) (a := x.sec) (l := x.bytes) (v' := v') (Y := Y) (g := g) (cap' := cap) I.at_ hxe.2.1 hxe.1 I.keeps.size hk1.drew hv hown2 hgrow hat (-1) false 0
    (by rw [show (survRS R D bv lv log 0).D = D from rfl, heap_setCell_at hb2 _]; rfl) (kD _ _ _ _)
  refine ⟨a1, by rw [hkt, List.map_append, List.map_append, I.pair]; rfl, ?_⟩
  exact ⟨a2.os.trans I.keeps.os, a2.tape.trans I.keeps.tape, a2.output.trans I.keeps.output, Nat.le_trans I.keeps.size a2.size, fun q hq _ => by
    rw [a2.block q (Nat.lt_of_lt_of_le hq I.keeps.size) (fun e => ?_)]
    · exact I.keeps.block q hq id
    · rcases e with e | e
      · have := I.at_.lo; rw [e] at hq; omega
      · have := (I.at_.row.lt _ e).1; omega⟩

set_option maxRecDepth 100000 in
set_option maxHeartbeats 2000000 in
theorem refSurvive_any (w : World) (B : Nat) (R : RS) (h : RefAt w B R) (kv : Value) (ks : List Bool) (hB : Bools w kv ks) (hll : R.log.length ≤ 4294967295) (hkl : ks.length ≤ maxLen) :
    Calls Try.prog 50 #[.pointer (some ⟨R.D, 0, none⟩), kv] w fun e w' => ∃ D bv lv log, e = .returned (.pointer (some ⟨D, 0, none⟩)) ∧ RefAt w' w.heap.size (survRS R D bv lv log log.length) ∧
      log.map LW.pair = (rkeptTo ks R.firm R.log R.log.length).map LW.pair ∧ Keeps (fun _ => False) w w' ∧ w.heap.size ≤ D := by
  obtain ⟨i0, hi0, hz0, hz1, hz2⟩ := info_parts Try.info60
  obtain ⟨ko, kc, rfl⟩ := hB.form
  unfold maxLen at hkl
  have HB := hide hB
  obtain ⟨lo, lc, hlv⟩ := h.form
  have c0 : w.cell? ⟨R.D, 0, none⟩ = some (.int .i64 R.secs) := cell_of_blk h.blk 0
  have c1 : w.cell? ⟨R.D, 1, none⟩ = some (.int .i64 R.size) := cell_of_blk h.blk 1
  have c2 : w.cell? ⟨R.D, 2, none⟩ = some R.bv := cell_of_blk h.blk 2
  have c3 : w.cell? ⟨R.D, 3, none⟩ = some (.slice lo R.log.length lc) := by rw [cell_of_blk h.blk, ← hlv]; rfl
  have c4 : w.cell? ⟨R.D, 4, none⟩ = some (.int .i64 R.firm) := cell_of_blk h.blk 4
  have hDl := lt_of_block h.blk
  have hfl := h.firm
  have hs1 := h.size1
  have HC := hide (copyBase_any (w := w.drew) (h.keepF (Keeps.refl _ _).drew))
  have H := hide h
  have HLV := hide hlv
  clear h hlv hB
  go_enter Try.func50, Try.ntmps50
  go_wp2_with fail
  go_region_held3 (fun w' => w'.cell? ⟨R.D, 0, none⟩ = some (.int .i64 R.secs) ∧ w'.cell? ⟨R.D, 1, none⟩ = some (.int .i64 R.size) ∧ w'.cell? ⟨R.D, 2, none⟩ = some R.bv)
    (go_keep)
    (first | (go_at_call 61; refine (unhide HC).mono ?_; rintro e w1 ⟨bo, bn, bc, rfl, hbase, hk1⟩; have d0 := (hk1.cell (o := 0) hDl id).trans c0; have d1 := (hk1.cell (o := 1) hDl id).trans c1; have d2 := (hk1.cell (o := 2) hDl id).trans c2))
  have HI0 := hide (survRS_at (unhide H) hbase ((Keeps.refl _ _).drew.trans hk1) ks)
  have hDn := hk1.size
  have hne : w.heap.size ≤ w1.heap.size := hDn
  clear hbase hk1 d0 d1 d2 HC c0 c1 c2 hDn
  generalize w1.heap.size = D at *
  go_wp2_with fail
  go_loopw [6] (fun i wr => ∃ (k : Nat) (lv : Value) (log : List LW), k ≤ R.log.length ∧ i = .int .i64 k ∧ RSurv w R ks D (.slice bo bn bc) k lv log wr) (fun i _ => R.log.length - (intOf i).toNat)
  case atStart => exact ⟨0, _, [], Nat.zero_le _, rfl, unhide HI0⟩
  case round =>
    obtain ⟨k, lv, log, hk, rfl, hI⟩ := hrel
    clear HI0
    have d3 := (hI.keeps.cell (o := 3) hDl id).trans c3
    have d4 := (hI.keeps.cell (o := 4) hDl id).trans c4
    by_cases hlt : k < R.log.length
    · obtain ⟨x, hx⟩ : ∃ x, R.log[k]? = some x := ⟨_, List.getElem?_eq_getElem hlt⟩
      obtain ⟨g0, cap0, e1, hg0, q1, q2⟩ := (unhide H).lcell hx
      have e2 := e1.symm.trans (unhide HLV)
      simp at e2
      obtain ⟨rfl, rfl⟩ := e2
      have p1 := (hI.keeps.cell (o := k * 2) hg0 id).trans q1
      have p2 := (hI.keeps.cell (o := k * 2 + 1) hg0 id).trans q2
      have hxe := (unhide H).each x (List.mem_of_getElem? hx)
      obtain ⟨r1, r2⟩ := row_reads (ownsRow_kept hxe.2.2 hI.keeps (fun _ _ => id))
      have hcp := copyBytes_any wr x.v x.bytes r1 r2 (by rw [hxe.1]; have := (unhide H).size2; omega)
      rw [hxe.1] at hcp
      have HCP := hide hcp
      have Hx := hide hx
      have HI := hide hI
      have hlg : log.length ≤ 4294967295 := Nat.le_trans hI.len (by omega)
      have hwz := hI.keeps.size
      have i1 : (k : Int) < (R.log.length : Int) := by omega
      have j0 : (0 : Int) ≤ (k : Int) := by omega
      clear e1 q1 q2 hxe r1 r2 hcp
      by_cases hkp : k < R.firm ∨ ks[k - R.firm]? = some true
      · have hkt : rkeptTo ks R.firm R.log (k + 1) = rkeptTo ks R.firm R.log k ++ [x] := by simp only [rkeptTo, hx]; rw [if_pos hkp]
        have HKT := hide hkt
        clear hkt hx
        rcases Nat.lt_or_ge k R.firm with hf | hf
        · clear hkp hI
          have hneg : (k : Int) - (R.firm : Int) < 0 := by omega
          go_wp2_with fail
          refine (unhide HCP).mono ?_
          rintro e w1 ⟨v', rfl, hrow, hk1⟩
          obtain ⟨vg, vc, rfl, hvg, hvl⟩ := hrow.form (by omega)
          have d3' := (hk1.cell (o := 3) (Nat.lt_of_lt_of_le hDl hwz) id).trans d3
          have p1' := (hk1.cell (o := k * 2) (Nat.lt_of_lt_of_le hg0 hwz) id).trans p1
          have hz1' := hk1.size
          have at1 := (unhide HI).at_.keepF hk1
          obtain ⟨no, nc, hnv⟩ := at1.form
          simp only [survRS] at hnv
          subst hnv
          have hb1 : w1.heap[D]? = some (.cells (survRS R D (.slice bo bn bc) (.slice no log.length nc) log 0).cells 103 (0, 0)) := at1.blk
          have t3 : w1.cell? ⟨D, 3, none⟩ = some (.slice no log.length nc) := cell_of_blk hb1 3
          have f3 := frozen_of_blk hb1 3
          have hD1 := lt_of_block hb1
          have hrow1 : w1.ownsRow w.heap.size 60 2 (.slice no log.length nc) log.length (lcells log) := at1.row
          have hneD : (Value.slice no log.length nc).ownBlock ≠ some D := fun e => by
            rcases hrow1.2 with ⟨hv, _⟩ | ⟨g, cap', cur, hv, _, hg, _⟩
            · rw [hv] at e; simp [Value.ownBlock] at e
            · rw [hv] at e; simp [Value.ownBlock] at e; subst e; rw [hb1] at hg; simp at hg
          have HROW := hide hrow
          have HK1 := hide hk1
          have HR1 := hide hrow1
          have HB1 := hide hb1
          have HND := hide hneD
          have HAT := hide at1
          clear hrow hk1 HCP hvg hvl d3 p1 p2 hrow1 hb1 hneD at1
          go_wp2_with fail
          go_region_law (first
            | (refine step_append_lies _ (by rfl) _ _ _ (by rfl) w.heap.size 60 i0 _ 2 32 Try.underlying41 hi0 hz0 hz1 hz2 rfl (by omega) (.slice no log.length nc) log.length (lcells log) (by rfl) (((unhide HR1).alloc _).drew)
                ⟨w1.heap.size, 0, none⟩ 1 1 [.int .i64 x.sec, .slice (some ⟨vg, 0, none⟩) R.size vc] (by rfl) (by rfl) (World.news_of_block (cs := #[.int .i64 x.sec, .slice (some ⟨vg, 0, none⟩) R.size vc]) (t := 60) (fr := (0, 0)) (heap_alloc_new w1 _)) (by simp [Value.oneCell'])
                (by omega) (by unfold maxLen; omega) (by omega) (by simp; omega) (w1.heap.size + 1) (by simp) ?_; intro g cap' w2 hown2 hgrow hat hlt
               have f3'' : w2.frozen? ⟨D, 3, none⟩ = false := by (rw [hgrow.frozen_far _ (by simp; omega) (Ne.symm (unhide HND))]; simpa [World.frozen?_alloc_past, hD1] using f3)
               have c3'' : w2.cell? ⟨D, 3, none⟩ = some (.slice no log.length nc) := by (rw [hgrow.cell_far _ (by simp; omega) (Ne.symm (unhide HND))]; simpa [World.cell?_alloc_past, hD1] using t3)))
          all_goals
            have HN := hide ((unhide HI).next (unhide H) (unhide Hx) (unhide HKT) (unhide HK1) (unhide HROW) hown2 hgrow hat (unhide HND))
            clear hown2 hgrow hat f3'' c3''
            go_wp2
            go_roundw
            case rel => exact ⟨k + 1, _, _, by omega, by go_num, unhide HN⟩
            case measure => simp [intOf]; omega
        · have hkp' : ks[k - R.firm]? = some true := hkp.resolve_left (by omega)
          have hkl2 : k - R.firm < ks.length := (List.getElem?_eq_some_iff.1 hkp').1
          obtain ⟨kb, koff, kcap, e2, hkb, hkc⟩ := (unhide HB).cells (by omega)
          simp at e2
          obtain ⟨rfl, rfl⟩ := e2
          have kc0 := (hI.keeps.cell (o := koff + (k - R.firm)) hkb id).trans (hkc _ true hkp')
          obtain ⟨m, hm⟩ : ∃ m, k - R.firm = m := ⟨_, rfl⟩
          rw [hm] at kc0 hkl2
          have hsub : (k : Int) - (R.firm : Int) = (m : Int) := by omega
          have i2 : (m : Int) < (ks.length : Int) := by omega
          clear hkp hkp' hI hkc hm
          go_wp2_with fail
          refine (unhide HCP).mono ?_
          rintro e w1 ⟨v', rfl, hrow, hk1⟩
          obtain ⟨vg, vc, rfl, hvg, hvl⟩ := hrow.form (by omega)
          have d3' := (hk1.cell (o := 3) (Nat.lt_of_lt_of_le hDl hwz) id).trans d3
          have p1' := (hk1.cell (o := k * 2) (Nat.lt_of_lt_of_le hg0 hwz) id).trans p1
          have hz1' := hk1.size
          have at1 := (unhide HI).at_.keepF hk1
          obtain ⟨no, nc, hnv⟩ := at1.form
          simp only [survRS] at hnv
          subst hnv
          have hb1 : w1.heap[D]? = some (.cells (survRS R D (.slice bo bn bc) (.slice no log.length nc) log 0).cells 103 (0, 0)) := at1.blk
          have t3 : w1.cell? ⟨D, 3, none⟩ = some (.slice no log.length nc) := cell_of_blk hb1 3
          have f3 := frozen_of_blk hb1 3
          have hD1 := lt_of_block hb1
          have hrow1 : w1.ownsRow w.heap.size 60 2 (.slice no log.length nc) log.length (lcells log) := at1.row
          have hneD : (Value.slice no log.length nc).ownBlock ≠ some D := fun e => by
            rcases hrow1.2 with ⟨hv, _⟩ | ⟨g, cap', cur, hv, _, hg, _⟩
            · rw [hv] at e; simp [Value.ownBlock] at e
            · rw [hv] at e; simp [Value.ownBlock] at e; subst e; rw [hb1] at hg; simp at hg
          have HROW := hide hrow
          have HK1 := hide hk1
          have HR1 := hide hrow1
          have HB1 := hide hb1
          have HND := hide hneD
          have HAT := hide at1
          clear hrow hk1 HCP hvg hvl d3 p1 p2 hrow1 hb1 hneD at1
          go_wp2_with fail
          go_region_law (first
            | (refine step_append_lies _ (by rfl) _ _ _ (by rfl) w.heap.size 60 i0 _ 2 32 Try.underlying41 hi0 hz0 hz1 hz2 rfl (by omega) (.slice no log.length nc) log.length (lcells log) (by rfl) (((unhide HR1).alloc _).drew)
                ⟨w1.heap.size, 0, none⟩ 1 1 [.int .i64 x.sec, .slice (some ⟨vg, 0, none⟩) R.size vc] (by rfl) (by rfl) (World.news_of_block (cs := #[.int .i64 x.sec, .slice (some ⟨vg, 0, none⟩) R.size vc]) (t := 60) (fr := (0, 0)) (heap_alloc_new w1 _)) (by simp [Value.oneCell'])
                (by omega) (by unfold maxLen; omega) (by omega) (by simp; omega) (w1.heap.size + 1) (by simp) ?_; intro g cap' w2 hown2 hgrow hat hlt
               have f3'' : w2.frozen? ⟨D, 3, none⟩ = false := by (rw [hgrow.frozen_far _ (by simp; omega) (Ne.symm (unhide HND))]; simpa [World.frozen?_alloc_past, hD1] using f3)
               have c3'' : w2.cell? ⟨D, 3, none⟩ = some (.slice no log.length nc) := by (rw [hgrow.cell_far _ (by simp; omega) (Ne.symm (unhide HND))]; simpa [World.cell?_alloc_past, hD1] using t3)))
          all_goals
            have HN := hide ((unhide HI).next (unhide H) (unhide Hx) (unhide HKT) (unhide HK1) (unhide HROW) hown2 hgrow hat (unhide HND))
            clear hown2 hgrow hat f3'' c3''
            go_wp2
            go_roundw
            case rel => exact ⟨k + 1, _, _, by omega, by go_num, unhide HN⟩
            case measure => simp [intOf]; omega
      · have hkt : rkeptTo ks R.firm R.log (k + 1) = rkeptTo ks R.firm R.log k := by simp only [rkeptTo, hx]; rw [if_neg hkp]
        have HN : Hid (RSurv w R ks D (.slice bo bn bc) (k + 1) lv log wr) := ⟨hI.at_, by rw [hkt]; exact hI.pair, hI.keeps⟩
        have hf : R.firm ≤ k := by omega
        obtain ⟨m, hm⟩ : ∃ m, k - R.firm = m := ⟨_, rfl⟩
        have hsub : (k : Int) - (R.firm : Int) = (m : Int) := by omega
        by_cases hkl2 : m < ks.length
        · obtain ⟨kb, koff, kcap, e2, hkb, hkc⟩ := (unhide HB).cells (by omega)
          simp at e2
          obtain ⟨rfl, rfl⟩ := e2
          have hfalse : ks[m]? = some false := by
            have h1 := List.getElem?_eq_getElem hkl2
            cases hv' : ks[m] with
            | true => rw [hv', ← hm] at h1; exact absurd (Or.inr h1) hkp
            | false => rw [hv'] at h1; exact h1
          have kc0 := (hI.keeps.cell (o := koff + m) hkb id).trans (hkc _ false hfalse)
          have i2 : (m : Int) < (ks.length : Int) := by omega
          clear hkp hI hkc hm hfalse hkt hx HCP
          go_wp2
          go_roundw
          case rel => exact ⟨k + 1, _, _, by omega, by go_num, unhide HN⟩
          case measure => simp [intOf]; omega
        · have i2 : ¬ ((m : Int) < (ks.length : Int)) := by omega
          clear hkp hI hm hkt hx HCP
          go_wp2
          go_roundw
          case rel => exact ⟨k + 1, _, _, by omega, by go_num, unhide HN⟩
          case measure => simp [intOf]; omega
    · obtain rfl : k = R.log.length := by omega
      obtain ⟨no, nc, hnv⟩ := hI.at_.form
      simp only [survRS] at hnv
      subst hnv
      have hb1 : wr.heap[D]? = some (.cells (survRS R D (.slice bo bn bc) (.slice no log.length nc) log 0).cells 103 (0, 0)) := hI.at_.blk
      have t3 : wr.cell? ⟨D, 3, none⟩ = some (.slice no log.length nc) := cell_of_blk hb1 3
      have t4 : wr.cell? ⟨D, 4, none⟩ = some (.int .i64 0) := cell_of_blk hb1 4
      have f4 := frozen_of_blk hb1 4
      have HI := hide hI
      have HB1 := hide hb1
      clear hI hb1
      go_wp2
      go_ret
      have hK := kD wr D 4 (.int .i64 log.length)
      refine ⟨D, _, _, log, rfl, (unhide HI).at_.set hK ?_ rfl rfl rfl rfl rfl rfl rfl (Nat.le_refl _), (unhide HI).pair, ?_, hne⟩
      · rw [show (survRS R D (.slice bo bn bc) (.slice no log.length nc) log 0).D = D from rfl, heap_setCell_at (unhide HB1) _]; rfl
      · have K := (unhide HI).keeps
        exact ⟨hK.os.trans K.os, hK.tape.trans K.tape, hK.output.trans K.output, Nat.le_trans K.size hK.size, fun q hq _ => by
          rw [hK.block q (Nat.lt_of_lt_of_le hq K.size) (by omega)]; exact K.block q hq id⟩

end Go.Proofs.Ytjmbcelkhiopeaa
