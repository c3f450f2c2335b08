import Derived.Test.YtjmbcelkhiopeaaM
namespace Go.Proofs.Ytjmbcelkhiopeaa
open Go.RowKit Go.Maps
attribute [local go_sem ↓] Go.wp_at_zero Go.wp_at_succ

def Wr.pair (x : Wr) : Nat × List Int := (x.sec, x.bytes)

/-- A list of writes in memory. -/
structure WritesAt (w : World) (v : Value) (s : Nat) (ws : List Wr) : Prop where
  form : ∃ ao cap, v = .slice ao ws.length cap
  cells : 0 < ws.length → ∃ b cap, v = .slice (some ⟨b, 0, none⟩) ws.length cap ∧ b < w.heap.size ∧ ∀ j x, ws[j]? = some x →
    w.cell? ⟨b, j * 2, none⟩ = some (.int .i64 x.sec) ∧ w.cell? ⟨b, j * 2 + 1, none⟩ = some (.slice (some ⟨x.blk, 0, none⟩) s s) ∧ x.bytes.length = s ∧ w.heap[x.blk]? = some (.cells (bs x.bytes).toArray 5 (0, 0))

structure PendInv (w : World) (S : DS) (k : Nat) (ws : List Wr) (w' : World) : Prop where
  keeps : Keeps (fun _ => False) w w'
  pair : ws.map Wr.pair = (S.ws.take k).map Wr.pair
  len : ws.length = k
  arr : ∃ arr : Array Value, w'.heap[w.heap.size]? = some (.cells arr 60 (0, 0)) ∧ arr.size = S.ws.length * 2 ∧ ∀ j x, ws[j]? = some x → arr[j * 2]? = some (.int .i64 x.sec) ∧ arr[j * 2 + 1]? = some (.slice (some ⟨x.blk, 0, none⟩) S.size S.size)
  each : ∀ x ∈ ws, x.bytes.length = S.size ∧ w'.heap[x.blk]? = some (.cells (bs x.bytes).toArray 5 (0, 0)) ∧ w.heap.size < x.blk

theorem size_two {w : World} {a b : Addr} {u v : Value} : ((w.setCell a u).setCell b v).heap.size = w.heap.size := by rw [World.size_setCell, World.size_setCell]

theorem box_keep (wr w1 : World) (hsz : w1.heap.size = wr.heap.size) (o2 : Obj) (c : Array Value) (t : TypeId) (i : Nat) : ((w1.alloc (.cells c t)).alloc o2).drew.cell? ⟨wr.heap.size, i, none⟩ = c[i]? := by
  rw [World.cell?_drew, World.cell?_alloc_past _ _ _ (by simp; omega), World.cell?_alloc_at _ _ _ _ hsz.symm]

theorem run_mk41 (n : Nat) (hn : n ≤ 4294967295) (w : World) : ∃ Z : Array Value, Z.size = n * 2 ∧ (Instr.makeSlice 41 (.int .i64 (n : Int)) (.int .i64 (n : Int))).run Try.prog w = .ok (.slice (some ⟨w.heap.size, 0, none⟩) n n) (w.alloc (.cells Z 60)) := by
  obtain ⟨i0, hi, hz0, hz1, hz2⟩ := info_parts Try.info60
  have h := run_make (P := Try.prog) w 41 60 i0 (.agg #[.int .i64 0, .slice none 0 0]) Try.underlying41 hi hz0 .i64 .i64 (n : Int) (n : Int) (by omega) (by omega) (by rw [hz2]; omega) (by omega)
  rw [hz1] at h
  exact ⟨_, size_madeCells _ _, by simpa using h⟩

theorem PendInv.next {w wr w' : World} {B : Nat} {S : DS} {k : Nat} {ws : List Wr} {x : Wr} (I : PendInv w S k ws wr) (h : DiskAt w B S) (hx : S.ws[k]? = some x) {N : Nat} (hN : wr.heap.size < N)
    (hkD : Keeps (fun q => q = w.heap.size) wr w') (hnew : w'.heap[N]? = some (.cells (bs x.bytes).toArray 5 (0, 0)))
    (hset : ∀ arr : Array Value, wr.heap[w.heap.size]? = some (.cells arr 60 (0, 0)) → w'.heap[w.heap.size]? = some (.cells ((arr.setIfInBounds (k * 2) (.int .i64 x.sec)).setIfInBounds (k * 2 + 1) (.slice (some ⟨N, 0, none⟩) S.size S.size)) 60 (0, 0))) :
    PendInv w S (k + 1) (ws ++ [⟨x.sec, N, x.bytes⟩]) w' := by
  obtain ⟨arr, ha, hs, hc⟩ := I.arr
  have hk : k < S.ws.length := (List.getElem?_eq_some_iff.1 hx).1
  have hpl := lt_of_block ha
  refine ⟨?_, ?_, by simp [I.len], ?_, ?_⟩
  · have K := I.keeps
    exact ⟨hkD.os.trans K.os, hkD.tape.trans K.tape, hkD.output.trans K.output, Nat.le_trans K.size hkD.size, fun q hq _ => by
      rw [hkD.block q (Nat.lt_of_lt_of_le hq K.size) (by omega)]; exact K.block q hq id⟩
  · rw [take_snoc _ _ _ hx, List.map_append, List.map_append, I.pair]; rfl
  · refine ⟨_, hset arr ha, by simpa using hs, ?_⟩
    intro j y hy
    by_cases hj : j < ws.length
    · rw [List.getElem?_append_left hj] at hy
      obtain ⟨h1, h2⟩ := hc j y hy
      have hjk : j < k := by rw [← I.len]; exact hj
      simp only [Array.getElem?_setIfInBounds]
      rw [if_neg (by omega), if_neg (by omega), if_neg (by omega), if_neg (by omega)]
      exact ⟨h1, h2⟩
    · have hjl : j = ws.length := by
        have := (List.getElem?_eq_some_iff.1 hy).1
        simp at this; omega
      subst hjl
      rw [List.getElem?_append_right (Nat.le_refl _), Nat.sub_self] at hy
      simp at hy
      subst hy
      rw [I.len]
      constructor
      · rw [Array.getElem?_setIfInBounds, if_neg (by omega), Array.getElem?_setIfInBounds, if_pos rfl, if_pos (by omega)]
      · rw [Array.getElem?_setIfInBounds, if_pos rfl, if_pos (by simp; omega)]
  · intro y hy
    have hs0 := I.keeps.size
    rcases List.mem_append.1 hy with hy | hy
    · obtain ⟨a, b, c⟩ := I.each y hy
      exact ⟨a, by rw [hkD.block _ (lt_of_block b) (by omega)]; exact b, c⟩
    · simp at hy; subst hy
      exact ⟨(h.each x (List.mem_of_getElem? hx)).1, hnew, by show w.heap.size < N; omega⟩

set_option maxRecDepth 100000 in
set_option maxHeartbeats 2000000 in
theorem pending_any (w : World) (B : Nat) (S : DS) (h : DiskAt w B S) (hws : S.ws.length ≤ 4294967295) :
    Calls Try.prog 18 #[.pointer (some ⟨S.D, 0, none⟩)] w fun e w' => ∃ ws : List Wr, e = .returned (.slice (some ⟨w.heap.size, 0, none⟩) S.ws.length S.ws.length) ∧ PendInv w S S.ws.length ws w' := by
  obtain ⟨Z, hZ, hmk⟩ := run_mk41 S.ws.length hws w
  obtain ⟨ao, wc, hwv⟩ := h.form
  have c3 : w.cell? ⟨S.D, 3, none⟩ = some (.slice ao S.ws.length wc) := by rw [cell_of_blk h.blk, ← hwv]; rfl
  have hDl := lt_of_block h.blk
  have HI0 : Hid (PendInv w S 0 [] (w.alloc (.cells Z 60))) := ⟨(Keeps.refl _ _).alloc _, rfl, rfl, ⟨Z, heap_alloc_new w _, hZ, fun j x hx => by simp at hx⟩, fun x hx => by simp at hx⟩
  have H := hide h
  have HW := hide hwv
  clear h hwv hZ
  go_enter Try.func18, Try.ntmps18
  go_wp2_with fail
  go_loopw [19] (fun i wr => ∃ (k : Nat) (ws : List Wr), k ≤ S.ws.length ∧ i = .int .i64 k ∧ PendInv w S k ws wr) (fun i _ => S.ws.length - (intOf i).toNat)
  case atStart => exact ⟨0, [], Nat.zero_le _, rfl, unhide HI0⟩
  case round =>
    obtain ⟨k, ws, hk, rfl, hI⟩ := hrel
    clear HI0 hmk
    by_cases hlt : k < S.ws.length
    · obtain ⟨x, hx⟩ : ∃ x, S.ws[k]? = some x := ⟨_, List.getElem?_eq_getElem hlt⟩
      have Hx := hide hx
      obtain ⟨g, cap, hv, hg0, hg1, hg2, hg3, q1, q2⟩ := (unhide H).wcell hx
      have e1 := hv.symm.trans (unhide HW)
      simp at e1
      obtain ⟨rfl, rfl⟩ := e1
      obtain ⟨x1, x2, x3, x4⟩ := (unhide H).each x (List.mem_of_getElem? hx)
      have p1 := (hI.keeps.cell (o := k * 2) hg0 id).trans q1
      have p2 := (hI.keeps.cell (o := k * 2 + 1) hg0 id).trans q2
      have px := (hI.keeps.block x.blk (lt_of_block x3) id).trans x3
      obtain ⟨arr, ha, hs, hcc⟩ := hI.arr
      have hpl := lt_of_block ha
      have z0 : wr.cell? ⟨w.heap.size, k * 2, none⟩ = some (arr[k * 2]'(by omega)) := by rw [cell_of_blk ha]; exact Array.getElem?_eq_getElem (by omega)
      have z1 : wr.cell? ⟨w.heap.size, k * 2 + 1, none⟩ = some (arr[k * 2 + 1]'(by omega)) := by rw [cell_of_blk ha]; exact Array.getElem?_eq_getElem (by omega)
      have y0 := frozen_of_blk ha (k * 2)
      have y1 := frozen_of_blk ha (k * 2 + 1)
      generalize arr[k * 2]'(by omega) = u0 at z0
      generalize arr[k * 2 + 1]'(by omega) = u1 at z1
      have hcp := copied_any x.blk 0 S.size S.size x.bytes (wr.alloc (.cells #[.int .i64 x.sec, .slice (some ⟨x.blk, 0, none⟩) S.size S.size] 60)).drew x1 (by simp; exact Nat.lt_succ_of_lt (lt_of_block px)) (by have := (unhide H).size2; omega)
        (fun j y hy => by
          rw [World.cell?_drew, World.cell?_alloc_past _ _ _ (lt_of_block px), cell_of_blk px]
          simp [bs, hy])
      simp only [World.size_drew, World.size_alloc] at hcp
      have HCP := hide hcp
      have HI := hide hI
      have i1 : (k : Int) < (S.ws.length : Int) := by omega
      have i0 : (0 : Int) ≤ (k : Int) := by omega
      clear hx hv q1 q2 hI x1 x2 x3 x4 px ha hs hcc hcp
      go_wp2_with fail
      go_region_held3 (fun w' => w'.cell? ⟨wr.heap.size, 0, none⟩ = some (.int .i64 x.sec) ∧ w'.cell? ⟨wr.heap.size, 1, none⟩ = some (.slice (some ⟨x.blk, 0, none⟩) S.size S.size))
        (first
          | (go_keep; done)
          | (exact ⟨(box_keep wr _ size_two _ _ _ 0).trans rfl, (box_keep wr _ size_two _ _ _ 1).trans rfl⟩))
        (first
          | (go_at_call 41; refine (unhide HCP).mono ?_; rintro e wa ⟨rfl, rfl⟩))
      go_wp2
      go_roundw
      case rel =>
        refine ⟨k + 1, _, by omega, by go_num, (unhide HI).next (N := wr.heap.size + 1) (unhide H) (unhide Hx) (by omega) ?_ ?_ ?_⟩
        · exact ((((kD _ _ _ _).trans (kD _ _ _ _)).alloc _).alloc _).drew
        · have := heap_alloc_new (((wr.setCell ⟨w.heap.size, k * 2, none⟩ (.int .i64 x.sec)).setCell ⟨w.heap.size, k * 2 + 1, none⟩ (.slice (some ⟨wr.heap.size + 1, 0, none⟩) S.size S.size)).alloc (.cells #[.int .i64 x.sec, .slice (some ⟨x.blk, 0, none⟩) S.size S.size] 60)) (.cells (bs x.bytes).toArray 5)
          rw [World.size_alloc, World.size_setCell, World.size_setCell] at this
          exact this
        · intro arr ha
          show ((World.alloc _ _)).heap[w.heap.size]? = _
          rw [Below.heap_alloc _ _ _ (by simp; omega), Below.heap_alloc _ _ _ (by simp; omega)]
          exact heap_setCell_at (heap_setCell_at ha _) _
      case measure => simp [intOf]; omega
    · obtain rfl : k = S.ws.length := by omega
      have HI := hide hI
      clear hI
      go_wp2
      go_ret
      exact ⟨ws, rfl, unhide HI⟩

end Go.Proofs.Ytjmbcelkhiopeaa
