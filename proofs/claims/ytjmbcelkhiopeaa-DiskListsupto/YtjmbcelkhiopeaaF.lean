import Derived.Test.YtjmbcelkhiopeaaE
namespace Go.Proofs.Ytjmbcelkhiopeaa
open Go.RowKit Go.Maps
attribute [local go_sem ↓] Go.wp_at_zero Go.wp_at_succ

/-- The writes become durable in their order. -/
def settleAll (size : Nat) (dur : List Int) (ws : List Wr) : List Int := ws.foldl (fun d x => put d (x.sec * size) x.bytes) dur

theorem settleAll_snoc (size : Nat) (dur : List Int) (ws : List Wr) (x : Wr) : settleAll size dur (ws ++ [x]) = put (settleAll size dur ws) (x.sec * size) x.bytes := by
  simp [settleAll]

theorem sec_fits {sec secs size : Nat} (h : sec < secs) : sec * size + size ≤ secs * size := by
  have : (sec + 1) * size ≤ secs * size := Nat.mul_le_mul_right _ h
  rw [Nat.add_mul] at this; omega

theorem settleAll_length (size secs : Nat) (dur : List Int) (hd : dur.length = secs * size) (ws : List Wr) (h : ∀ x ∈ ws, x.bytes.length = size ∧ x.sec < secs) : (settleAll size dur ws).length = secs * size := by
  induction ws generalizing dur with
  | nil => simpa [settleAll] using hd
  | cons x xs ih =>
    simp only [settleAll, List.foldl_cons]
    refine ih _ ?_ (fun y hy => h y (by simp [hy]))
    have := h x (by simp)
    rw [put_length _ _ _ (by rw [this.1, hd]; exact sec_fits this.2), hd]

theorem wcells_get (size : Nat) : ∀ (ws : List Wr) (k : Nat) (x : Wr), ws[k]? = some x → (wcells size ws)[k * 2]? = some (.int .i64 x.sec) ∧ (wcells size ws)[k * 2 + 1]? = some (.slice (some ⟨x.blk, 0, none⟩) size size)
  | [], k, x, h => by simp at h
  | y :: ys, 0, x, h => by
    simp at h; subst h
    exact ⟨rfl, rfl⟩
  | y :: ys, k + 1, x, h => by
    have ih := wcells_get size ys k x (by simpa using h)
    have e : wcells size (y :: ys) = .int .i64 y.sec :: .slice (some ⟨y.blk, 0, none⟩) size size :: wcells size ys := by simp [wcells]
    rw [e, show (k + 1) * 2 = k * 2 + 1 + 1 by omega, show k * 2 + 1 + 1 + 1 = (k * 2 + 1) + 1 + 1 by omega]
    simpa using ih

structure FlushInv (w : World) (S : DS) (k : Nat) (w' : World) : Prop where
  keeps : Keeps (fun b => b = S.db ∨ b = S.mb) w w'
  dblk : w'.heap[S.db]? = some (.cells (bs (settleAll S.size S.dur (S.ws.take k))).toArray 5 (0, 0))
  map : ∃ M' : DataW Unit, w'.ownsMap Try.prog 3 (plainElem Try.prog 3) S.mb S.mn M' ∧ ∀ a : Nat, Maps.has M' (.int .i64 a) = (Maps.has S.M (.int .i64 a) && !(S.ws.take k).any (fun x => decide (x.sec = a)))

/-- The cells of the waiting list. -/
theorem DiskAt.wcell {w : World} {B : Nat} {S : DS} (h : DiskAt w B S) {k : Nat} {x : Wr} (hx : S.ws[k]? = some x) :
    ∃ g cap, S.wv = .slice (some ⟨g, 0, none⟩) S.ws.length cap ∧ g < w.heap.size ∧ g ≠ S.db ∧ g ≠ S.mb ∧ g ≠ S.D ∧ w.cell? ⟨g, k * 2, none⟩ = some (.int .i64 x.sec) ∧ w.cell? ⟨g, k * 2 + 1, none⟩ = some (.slice (some ⟨x.blk, 0, none⟩) S.size S.size) := by
  have hk : k < S.ws.length := (List.getElem?_eq_some_iff.1 hx).1
  have hr := h.row
  rcases h.row.2 with ⟨hv, hn⟩ | ⟨g, cap, cur, hv, hb, hg, _, _, _, htake⟩
  · omega
  · have hown : S.wv.ownBlock = some g := by rw [hv]; rfl
    have hc := h.row.cells hown
    obtain ⟨e1, e2⟩ := wcells_get S.size S.ws k x hx
    have q1 := hc _ _ e1
    have q2 := hc _ _ e2
    rw [Addr.add_lit, Nat.zero_add] at q1 q2
    refine ⟨g, cap, hv, lt_of_block hg, ?_, ?_, ?_, q1, q2⟩
    · intro e; rw [e, h.dblk] at hg; simp at hg
    · exact map_ne_cell h.map q1
    · intro e; rw [e, h.blk] at hg; simp at hg

theorem DiskAt.flush0 {w : World} {B : Nat} {S : DS} (h : DiskAt w B S) : FlushInv w S 0 w :=
  ⟨Keeps.refl _ _, by simpa [settleAll] using h.dblk, S.M, h.map, fun a => by simp⟩

theorem take_snoc {α : Type} (ws : List α) (k : Nat) (x : α) (h : ws[k]? = some x) : ws.take (k + 1) = ws.take k ++ [x] := by
  obtain ⟨hk, rfl⟩ := List.getElem?_eq_some_iff.1 h
  rw [List.take_succ_eq_append_getElem hk]

theorem FlushInv.next {w wr w2 w3 : World} {B : Nat} {S : DS} {k : Nat} {x : Wr} {M' : DataW Unit} (I : FlushInv w S k wr) (h : DiskAt w B S) (hx : S.ws[k]? = some x)
    (hk : Keeps (fun b => b = S.db ∨ b = S.mb) wr w3) (ht : w2.drew.mapTurned w3 S.mb)
    (hd : w2.heap[S.db]? = some (.cells (bs (put (settleAll S.size S.dur (S.ws.take k)) (x.sec * S.size) x.bytes)).toArray 5 (0, 0)))
    (hm : w3.ownsMap Try.prog 3 (plainElem Try.prog 3) S.mb S.mn (M'.del (.int .i64 x.sec)))
    (hh : ∀ a : Nat, Maps.has M' (.int .i64 a) = (Maps.has S.M (.int .i64 a) && !(S.ws.take k).any (fun x => decide (x.sec = a)))) : FlushInv w S (k + 1) w3 := by
  refine ⟨I.keeps.trans hk, ?_, _, hm, ?_⟩
  · have hne : S.db ≠ S.mb := by
      intro e
      obtain ⟨es2, clock2, hb2, _⟩ := h.map
      have := h.dblk
      rw [e, hb2] at this; cases this
    rw [(keeps_turned ht).block S.db (lt_of_block hd) hne, take_snoc _ _ _ hx, settleAll_snoc]
    exact hd
  · intro a
    rw [take_snoc _ _ _ hx]
    by_cases e : x.sec = a
    · subst e
      rw [has_del_same]; simp
    · have hne : (Lit.int .i64 (a : Int)) ≠ .int .i64 (x.sec : Int) := by simp; omega
      rw [has_del_other hne, hh a]; simp [e]

def DS.flushed (S : DS) (M : DataW Unit) : DS := { S with dur := settleAll S.size S.dur S.ws, wv := .slice none 0 0, ws := [], M := M, f := S.f + 1 }

theorem flushed_at {w wr w' : World} {B : Nat} {S : DS} (h : DiskAt w B S) (I : FlushInv w S S.ws.length wr)
    (hD : ∀ M, w'.heap[S.D]? = some (.cells (S.flushed M).cells 89 (0, 0))) (hk : Keeps (fun k => k = S.D) wr w') : ∃ M', DiskAt w' B (S.flushed M') ∧ Keeps S.own w w' := by
  obtain ⟨M', hm, hh⟩ := I.map
  have hmne : ∀ b c t fr, w.heap[b]? = some (.cells c t fr) → b ≠ S.mb := by
    intro b c t fr hb e
    obtain ⟨es, clock, hb', _⟩ := h.map
    rw [e, hb'] at hb; cases hb
  have hdD : S.db ≠ S.D := by intro e; have := h.blk; rw [← e, h.dblk] at this; simp at this
  refine ⟨M', ⟨hD M', ?_, ?_, World.ownsRow_nil _ _ _ _, fun x hx => (by cases hx), ?_, ?_, h.lo, h.secs1, h.secs2, h.size1, h.size2⟩, ?_⟩
  · show w'.heap[S.db]? = some (.cells (bs (settleAll S.size S.dur S.ws)).toArray 5 (0, 0))
    have := I.dblk
    rw [List.take_length] at this
    rw [hk.block _ (lt_of_block this) hdD]; exact this
  · exact settleAll_length _ _ _ h.dlen _ (fun y hy => ⟨(h.each y hy).1, (h.each y hy).2.1⟩)
  · obtain ⟨es, clock, hb, r⟩ := hm
    refine ⟨es, clock, ?_, r⟩
    show w'.heap[S.mb]? = _
    rw [hk.block _ (lt_of_block hb) (fun e => hmne _ _ _ _ h.blk e.symm)]; exact hb
  · intro a
    refine ⟨?_, fun j hj => (by cases hj)⟩
    show Maps.has M' _ = false
    rw [hh a, (h.says a).1, lastAt_isSome, List.take_length]
    simp
  · refine ⟨hk.os.trans I.keeps.os, hk.tape.trans I.keeps.tape, hk.output.trans I.keeps.output, Nat.le_trans I.keeps.size hk.size, fun k hkk hF => ?_⟩
    rw [hk.block k (Nat.lt_of_lt_of_le hkk I.keeps.size) (fun e => hF (Or.inl e)), I.keeps.block k hkk (fun e => hF (e.elim (fun e => Or.inr (Or.inl e)) (fun e => Or.inr (Or.inr (Or.inl e)))))]

set_option maxRecDepth 100000 in
set_option maxHeartbeats 1000000 in
theorem flush_ok (w : World) (B : Nat) (S : DS) (h : DiskAt w B S) (hdead : S.dead = false) (hws : S.ws.length ≤ 2147483647) (hf1 : 0 ≤ S.f) (hf2 : S.f ≤ 2147483647) :
    Calls Try.prog 11 #[.pointer (some ⟨S.D, 0, none⟩)] w fun e w' => e = .returned (.int .i64 0) ∧ ∃ M', DiskAt w' B (S.flushed M') ∧ Keeps S.own w w' := by
  obtain ⟨ao, wc, hwv⟩ := h.form
  have c1 : w.cell? ⟨S.D, 1, none⟩ = some (.int .i64 S.size) := by rw [cell_of_blk h.blk]; rfl
  have c2 : w.cell? ⟨S.D, 2, none⟩ = some (.slice (some ⟨S.db, 0, none⟩) (S.secs * S.size) (S.secs * S.size)) := by rw [cell_of_blk h.blk]; rfl
  have c3 : w.cell? ⟨S.D, 3, none⟩ = some (.slice ao S.ws.length wc) := by rw [cell_of_blk h.blk, ← hwv]; rfl
  have c4 : w.cell? ⟨S.D, 4, none⟩ = some (.map (some S.mb)) := by rw [cell_of_blk h.blk]; rfl
  have c6 : w.cell? ⟨S.D, 6, none⟩ = some (.bool false) := by rw [cell_of_blk h.blk, ← hdead]; rfl
  have HW := hide hwv
  clear hwv
  go_enter Try.func11, Try.ntmps11
  go_wp2_with fail
  refine (ready_ok _ _ c6).mono ?_; rintro e w' ⟨rfl, rfl⟩
  go_wp2_with fail
  go_loopw [16] (fun i wr => ∃ k : Nat, k ≤ S.ws.length ∧ i = .int .i64 k ∧ FlushInv w' S k wr) (fun i _ => S.ws.length - (intOf i).toNat)
  case atStart => exact ⟨0, Nat.zero_le _, rfl, h.flush0⟩
  case round =>
    obtain ⟨k, hk, rfl, hI⟩ := hrel
    by_cases hlt : k < S.ws.length
    · obtain ⟨x, hx⟩ : ∃ x, S.ws[k]? = some x := ⟨_, List.getElem?_eq_getElem hlt⟩
      have Hx := hide hx
      obtain ⟨g, cap, hv, hg0, hg1, hg2, hg3, q1, q2⟩ := h.wcell hx
      have e1 := hv.symm.trans (unhide HW)
      simp at e1
      obtain ⟨rfl, rfl⟩ := e1
      obtain ⟨x1, x2, x3, x4⟩ := h.each x (List.mem_of_getElem? hx)
      have hk1 := hI.keeps
      have hD := lt_of_block h.blk
      have hmD : S.D ≠ S.mb := map_ne_cell h.map c1
      have hdD : S.D ≠ S.db := by intro e; have := h.blk; rw [e, h.dblk] at this; simp at this
      have hnD : ¬ (S.D = S.db ∨ S.D = S.mb) := by simp [hmD, hdD]
      have hng : ¬ (g = S.db ∨ g = S.mb) := by simp [hg1, hg2]
      have hxm : x.blk ≠ S.mb := by
        intro e
        obtain ⟨es, clock, hb', _⟩ := h.map
        rw [e, hb'] at x3; cases x3
      have hnx : ¬ (x.blk = S.db ∨ x.blk = S.mb) := by simp [x4, hxm]
      have d1 := (hk1.cell (o := 1) hD hnD).trans c1
      have d2 := (hk1.cell (o := 2) hD hnD).trans c2
      have d4 := (hk1.cell (o := 4) hD hnD).trans c4
      have p1 := (hk1.cell (o := k * 2) hg0 hng).trans q1
      have p2 := (hk1.cell (o := k * 2 + 1) hg0 hng).trans q2
      have px := (hk1.block x.blk (lt_of_block x3) hnx).trans x3
      have hfit := sec_fits (size := S.size) x2
      have hnn : S.secs * S.size ≤ 16777216 := Nat.le_trans (Nat.mul_le_mul h.secs2 h.size2) (by decide)
      have hDwr : S.D < wr.heap.size := Nat.lt_of_lt_of_le hD hk1.size
      have hset := settle_any (wr.alloc (.cells #[.int .i64 x.sec, .slice (some ⟨x.blk, 0, none⟩) S.size S.size] 60)) S.D S.db (S.secs * S.size) (x.sec * S.size) x.sec S.size x.blk (settleAll S.size S.dur (S.ws.take k)) x.bytes hnn h.size1 h.size2 rfl hfit
        (by rw [World.cell?_alloc_past _ _ _ hDwr]; exact d1) (by rw [World.cell?_alloc_past _ _ _ hDwr]; exact d2)
        (by rw [Below.heap_alloc _ _ _ (lt_of_block hI.dblk)]; exact hI.dblk) (settleAll_length _ _ _ h.dlen _ (fun y hy => ⟨(h.each y (List.mem_of_mem_take hy)).1, (h.each y (List.mem_of_mem_take hy)).2.1⟩)) x1
        (by rw [Below.heap_alloc _ _ _ (lt_of_block px)]; exact px) hdD
      have HSET := hide hset
      have HI := hide hI
      have HPX := hide px
      have hwx : (Lit.int .i64 (x.sec : Int)).wf = true := wf64 _ (by have := h.secs2; omega)
      have hkey := keyOf_int_mk Try.underlying3 hwx
      have HKEY := hide hkey
      clear hx hv q1 q2 hI hk1 px hset hnn hfit x1 x2 x3 x4 hkey hwx
      go_wp2_with fail
      refine (unhide HSET).mono ?_
      rintro e w2 ⟨rfl, hk2, hd2⟩
      obtain ⟨M', hM', hhas⟩ := (unhide HI).map
      have hmap2 : w2.ownsMap Try.prog 3 (plainElem Try.prog 3) S.mb S.mn M' := by
        obtain ⟨es, clock, hb', r⟩ := hM'
        refine ⟨es, clock, ?_, r⟩
        have hlt' := lt_of_block hb'
        rw [hk2.block S.mb (by simp; omega) (by
          intro e
          obtain ⟨es2, clock2, hb2, _⟩ := h.map
          have := h.dblk
          rw [← e, hb2] at this; cases this), Below.heap_alloc _ _ _ hlt']
        exact hb'
      obtain ⟨w3, hrun, hmap3, hturn3⟩ := World.ownsMap.drop (w := w2.drew) hmap2 law3 Try.underlying87 (unhide HKEY) 0
      have hk2' : Keeps (fun b => b = S.db) wr w2 := ((Keeps.refl _ _).alloc _).trans hk2
      have e4 := (hk2'.cell (o := 4) hDwr hdD).trans d4
      have b0 : w2.cell? ⟨wr.heap.size, 0, none⟩ = some (.int .i64 x.sec) := by
        rw [hk2.cell (by simp) (by have := lt_of_block (unhide HI).dblk; omega), World.cell?_alloc_at _ _ _ _ rfl]; rfl
      have hk3 : Keeps (fun b => b = S.db ∨ b = S.mb) wr w3 := (hk2'.drew.mono (fun _ _ e => Or.inl e)).trans ((keeps_turned hturn3).mono (fun _ _ e => Or.inr e))
      have HK3 := hide hk3
      have HT3 := hide hturn3
      have HD2 := hide hd2
      have HM3 := hide hmap3
      have HH := hide hhas
      clear hk2 hk2' hk3 hturn3 hd2 hmap3 hhas hM' hmap2
      go_wp2_with fail
      go_region
      go_wp2
      go_roundw
      case rel =>
        refine ⟨k + 1, by omega, by go_num, ?_⟩
        exact (unhide HI).next h (unhide Hx) (unhide HK3) (unhide HT3) (unhide HD2) (unhide HM3) (unhide HH)
      case measure => simp [intOf]; omega
    · obtain rfl : k = S.ws.length := by omega
      have hblk : wr.heap[S.D]? = some (.cells S.cells 89 (0, 0)) := by
        have hmD : S.D ≠ S.mb := map_ne_cell h.map c1
        have hdD : S.D ≠ S.db := by intro e; have := h.blk; rw [e, h.dblk] at this; simp at this
        rw [hI.keeps.block S.D (lt_of_block h.blk) (by simp [hmD, hdD])]; exact h.blk
      have d3 : wr.cell? ⟨S.D, 3, none⟩ = some (.slice ao S.ws.length wc) := by rw [cell_of_blk hblk, ← unhide HW]; rfl
      have d9 : wr.cell? ⟨S.D, 9, none⟩ = some (.int .i64 S.f) := by rw [cell_of_blk hblk]; rfl
      have f3 := frozen_of_blk hblk 3
      have f9 := frozen_of_blk hblk 9
      have HB := hide hblk
      clear hblk
      go_wp2
      go_ret
      refine ⟨rfl, flushed_at h hI (fun M => ?_) ((kD _ _ _ _).trans (kD _ _ _ _))⟩
      rw [heap_setCell_at (heap_setCell_at (unhide HB) _) _]; rfl

end Go.Proofs.Ytjmbcelkhiopeaa
