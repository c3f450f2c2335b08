import Derived.Test.YtjmbcelkhiopeaaM
namespace Go.Proofs.Ytjmbcelkhiopeaa
open Go.RowKit Go.Maps
attribute [local go_sem ↓] Go.wp_at_zero Go.wp_at_succ

/-- A slice of marks. -/
structure Bools (w : World) (v : Value) (ks : List Bool) : Prop where
  form : ∃ ao cap, v = .slice ao ks.length cap
  cells : 0 < ks.length → ∃ b off cap, v = .slice (some ⟨b, off, none⟩) ks.length cap ∧ b < w.heap.size ∧ ∀ j x, ks[j]? = some x → w.cell? ⟨b, off + j, none⟩ = some (.bool x)

def keptTo (ks : List Bool) (ws : List Wr) : Nat → List Wr
  | 0 => []
  | k + 1 => match ws[k]? with
    | some x => if ks[k]? = some true then keptTo ks ws k ++ [x] else keptTo ks ws k
    | none => keptTo ks ws k

theorem keptTo_sub (ks : List Bool) (ws : List Wr) : ∀ k x, x ∈ keptTo ks ws k → x ∈ ws
  | 0, x, h => by simp [keptTo] at h
  | k + 1, x, h => by
    unfold keptTo at h
    split at h
    · rename_i y hy
      split at h
      · rcases List.mem_append.1 h with h | h
        · exact keptTo_sub ks ws k x h
        · simp at h; subst h; exact List.mem_of_getElem? hy
      · exact keptTo_sub ks ws k x h
    · exact keptTo_sub ks ws k x h

/-- A fresh disk over given bytes. -/
def freshDS (D db mb secs size : Nat) (dur : List Int) : DS := ⟨D, db, mb, 0, secs, size, dur, .slice none 0 0, [], .map [], -1, false, 0, 0, 0⟩

theorem fresh_at {w : World} {B : Nat} (D db mb secs size : Nat) (dur : List Int) (hD : w.heap[D]? = some (.cells (freshDS D db mb secs size dur).cells 89 (0, 0))) (hd : w.heap[db]? = some (.cells (bs dur).toArray 5 (0, 0))) (hl : dur.length = secs * size)
    (hm : w.heap[mb]? = some (.map #[] 0)) (h0 : B ≤ D ∧ B ≤ db ∧ B ≤ mb) (h1 : 1 ≤ secs) (h2 : secs ≤ 16384) (h3 : 32 ≤ size) (h4 : size ≤ 1024) : DiskAt w B (freshDS D db mb secs size dur) := by
  refine ⟨hD, hd, hl, World.ownsRow_nil _ _ _ _, fun x hx => (by cases hx), ?_, ?_, h0, h1, h2, h3, h4⟩
  · obtain ⟨es, clock, hb, r⟩ := World.ownsMap_made (H := Unit) w Try.prog 3 (plainElem Try.prog 3)
    have e := heap_alloc_new w (.map #[] 0)
    rw [e] at hb
    cases hb
    exact ⟨#[], 0, hm, r⟩
  · intro a
    exact ⟨rfl, fun j hj => (by cases hj)⟩

theorem DiskAt.setDur {w w' : World} {B : Nat} {D db mb secs size : Nat} {dur dur' : List Int} (h : DiskAt w B (freshDS D db mb secs size dur)) (hk : Keeps (fun k => k = db) w w') (hd : w'.heap[db]? = some (.cells (bs dur').toArray 5 (0, 0))) (hl : dur'.length = secs * size) :
    DiskAt w' B (freshDS D db mb secs size dur') := by
  have hDd : D ≠ db := by intro e; have := h.blk; have h2 := h.dblk; simp only [freshDS] at this h2; rw [e, h2] at this; simp at this
  refine ⟨?_, hd, hl, World.ownsRow_nil _ _ _ _, fun x hx => (by cases hx), ?_, h.says, h.lo, h.secs1, h.secs2, h.size1, h.size2⟩
  · have := h.blk
    show w'.heap[D]? = _
    rw [hk.block D (lt_of_block this) hDd]; exact this
  · obtain ⟨es, clock, hb, r⟩ := h.map
    refine ⟨es, clock, ?_, r⟩
    show w'.heap[mb]? = _
    have h2 := h.dblk
    simp only [freshDS] at hb h2
    rw [hk.block mb (lt_of_block hb) (fun e => by rw [e, h2] at hb; cases hb)]; exact hb

structure SInv (w : World) (S : DS) (ks : List Bool) (k : Nat) (w' : World) : Prop where
  keeps : Keeps (fun _ => False) w w'
  disk : DiskAt w' w.heap.size (freshDS (w.heap.size + 2) w.heap.size (w.heap.size + 1) S.secs S.size (settleAll S.size S.dur (keptTo ks S.ws k)))

set_option maxRecDepth 100000 in
set_option maxHeartbeats 2000000 in
theorem survive_any (w : World) (B : Nat) (S : DS) (h : DiskAt w B S) (kv : Value) (ks : List Bool) (hB : Bools w kv ks) (hws : S.ws.length ≤ 4294967295) (hkl : ks.length ≤ maxLen) :
    Calls Try.prog 24 #[.pointer (some ⟨S.D, 0, none⟩), kv] w fun e w' => e = .returned (.pointer (some ⟨w.heap.size + 2, 0, none⟩)) ∧ Keeps (fun _ => False) w w' ∧
      DiskAt w' w.heap.size (freshDS (w.heap.size + 2) w.heap.size (w.heap.size + 1) S.secs S.size (settleAll S.size S.dur (keptTo ks S.ws S.ws.length))) := by
  obtain ⟨ko, kc, rfl⟩ := hB.form
  unfold maxLen at hkl
  have HB := hide hB
  have hnn : S.secs * S.size ≤ 16777216 := Nat.le_trans (Nat.mul_le_mul h.secs2 h.size2) (by decide)
  have c1 : w.cell? ⟨S.D, 1, none⟩ = some (.int .i64 S.size) := by rw [cell_of_blk h.blk]; rfl
  have c2 : w.cell? ⟨S.D, 2, none⟩ = some (.slice (some ⟨S.db, 0, none⟩) (S.secs * S.size) (S.secs * S.size)) := by rw [cell_of_blk h.blk]; rfl
  obtain ⟨ao, wc, hwv⟩ := h.form
  have c3 : w.cell? ⟨S.D, 3, none⟩ = some (.slice ao S.ws.length wc) := by rw [cell_of_blk h.blk, ← hwv]; rfl
  have hDl := lt_of_block h.blk
  have HC := hide (copied_any S.db 0 (S.secs * S.size) (S.secs * S.size) S.dur w.drew h.dlen (lt_of_block h.dblk) hnn (fun j x hx => by rw [World.cell?_drew, cell_of_blk h.dblk]; simp [bs, hx]))
  have hov := over_any w.heap.size (S.secs * S.size) S.size (w.alloc (.cells (bs S.dur).toArray 5)).drew h.size1 h.size2 hnn
  rw [Nat.mul_div_cancel _ (by have := h.size1; omega)] at hov
  simp only [World.size_drew, World.size_alloc] at hov
  have HO := hide hov
  have H := hide h
  have HW := hide hwv
  obtain ⟨w3, hw3⟩ : ∃ w3, w3 = (((w.alloc (.cells (bs S.dur).toArray 5)).drew.alloc (.map #[] 0)).alloc (.cells (dcells S.secs S.size (.slice (some ⟨w.heap.size, 0, none⟩) (S.secs * S.size) (S.secs * S.size)) (.slice none 0 0) (w.heap.size + 1) (-1) false 0 0 0) 89)) := ⟨_, rfl⟩
  have hk3 : Keeps (fun _ => False) w w3 := by rw [hw3]; exact (((Keeps.refl _ _).alloc _).drew.alloc _).alloc _
  have hd3 : DiskAt w3 w.heap.size (freshDS (w.heap.size + 2) w.heap.size (w.heap.size + 1) S.secs S.size (settleAll S.size S.dur (keptTo ks S.ws 0))) := by
    refine fresh_at _ _ _ _ _ _ ?_ ?_ h.dlen ?_ (by omega) h.secs1 h.secs2 h.size1 h.size2
    · rw [hw3]
      have := heap_alloc_new ((w.alloc (.cells (bs S.dur).toArray 5)).drew.alloc (.map #[] 0)) (.cells (dcells S.secs S.size (.slice (some ⟨w.heap.size, 0, none⟩) (S.secs * S.size) (S.secs * S.size)) (.slice none 0 0) (w.heap.size + 1) (-1) false 0 0 0) 89)
      rw [World.size_alloc, World.size_drew, World.size_alloc] at this
      exact this
    · rw [hw3, Below.heap_alloc _ _ _ (by simp; omega), Below.heap_alloc _ _ _ (by simp)]
      exact heap_alloc_new w _
    · rw [hw3, Below.heap_alloc _ _ _ (by simp)]
      have := heap_alloc_new (w.alloc (.cells (bs S.dur).toArray 5)).drew (.map #[] 0)
      rw [World.size_drew, World.size_alloc] at this
      exact this
  have HI0 : Hid (SInv w S ks 0 w3) := ⟨hk3, hd3⟩
  have HW3 := hide hw3
  have hwv3 := (hk3.cell (k := S.D) (o := 3) hDl id).trans c3
  have e1 := (hk3.cell (k := S.D) (o := 1) hDl id).trans c1
  have e2 := (hk3.cell (k := S.D) (o := 2) hDl id).trans c2
  clear h hov hwv hB hnn hw3 hk3 hd3
  go_enter Try.func24, Try.ntmps24
  go_wp2_with fail
  go_region_held3 (fun w' => w'.cell? ⟨S.D, 1, none⟩ = some (.int .i64 S.size) ∧ w'.cell? ⟨S.D, 2, none⟩ = some (.slice (some ⟨S.db, 0, none⟩) (S.secs * S.size) (S.secs * S.size)))
    (go_keep)
    (first
      | (go_at_call 41; refine (unhide HC).mono ?_; rintro e wa ⟨rfl, rfl⟩)
      | (go_at_call 42; refine (unhide HO).mono ?_; rintro e wa ⟨rfl, he⟩; have hq := he.trans (unhide HW3).symm; clear he; subst hq))
  clear HW3 HC HO e1 e2 c1 c2 c3
  go_wp2_with fail
  go_loopw [25] (fun i wr => ∃ k : Nat, k ≤ S.ws.length ∧ i = .int .i64 k ∧ SInv w S ks k wr) (fun i _ => S.ws.length - (intOf i).toNat)
  case atStart => exact ⟨0, Nat.zero_le _, rfl, unhide HI0⟩
  case round =>
    obtain ⟨k, hk, rfl, hI⟩ := hrel
    clear HI0
    by_cases hlt : k < S.ws.length
    · obtain ⟨x, hx⟩ : ∃ x, S.ws[k]? = some x := ⟨_, List.getElem?_eq_getElem hlt⟩
      have Hx := hide hx
      obtain ⟨g, cap, hv, hg0, hg1, hg2, hg3, q1, q2⟩ := (unhide H).wcell hx
      have e1 := hv.symm.trans (unhide HW)
      simp at e1
      obtain ⟨rfl, rfl⟩ := e1
      obtain ⟨x1, x2, x3, x4⟩ := (unhide H).each x (List.mem_of_getElem? hx)
      have p1 := (hI.keeps.cell (o := k * 2) hg0 id).trans q1
      have p2 := (hI.keeps.cell (o := k * 2 + 1) hg0 id).trans q2
      have hsub : ∀ y ∈ keptTo ks S.ws k, y.bytes.length = S.size ∧ y.sec < S.secs := fun y hy => ⟨((unhide H).each y (keptTo_sub _ _ _ _ hy)).1, ((unhide H).each y (keptTo_sub _ _ _ _ hy)).2.1⟩
      have hdl := settleAll_length S.size S.secs S.dur (unhide H).dlen _ hsub
      have hin := hI.disk
      have hDb := hin.blk
      have hdb := hin.dblk
      simp only [freshDS] at hDb hdb
      have px := (hI.keeps.block x.blk (lt_of_block x3) id).trans x3
      have HI := hide hI
      by_cases hkeep : ks[k]? = some true
      · have hset := settle_any (wr.alloc (.cells #[.int .i64 x.sec, .slice (some ⟨x.blk, 0, none⟩) S.size S.size] 60)) (w.heap.size + 2) w.heap.size (S.secs * S.size) (x.sec * S.size) x.sec S.size x.blk (settleAll S.size S.dur (keptTo ks S.ws k)) x.bytes
          (Nat.le_trans (Nat.mul_le_mul (unhide H).secs2 (unhide H).size2) (by decide)) (unhide H).size1 (unhide H).size2 rfl (sec_fits x2)
          (by rw [World.cell?_alloc_past _ _ _ (lt_of_block hDb), cell_of_blk hDb]; rfl) (by rw [World.cell?_alloc_past _ _ _ (lt_of_block hDb), cell_of_blk hDb]; rfl)
          (by rw [Below.heap_alloc _ _ _ (lt_of_block hdb)]; exact hdb) hdl x1 (by rw [Below.heap_alloc _ _ _ (lt_of_block px)]; exact px) (by omega)
        have HSET := hide hset
        have hkl2 : k < ks.length := (List.getElem?_eq_some_iff.1 hkeep).1
        obtain ⟨kb, koff, kcap, e2, hkb, hkc⟩ := (unhide HB).cells (by omega)
        simp at e2
        obtain ⟨rfl, rfl⟩ := e2
        have kc0 := (hI.keeps.cell (o := koff + k) hkb id).trans (hkc k true hkeep)
        have i1 : (k : Int) < (ks.length : Int) := by omega
        have hkt : keptTo ks S.ws (k + 1) = keptTo ks S.ws k ++ [x] := by simp [keptTo, hx, hkeep]
        have hdl' : (settleAll S.size S.dur (keptTo ks S.ws (k + 1))).length = S.secs * S.size := by
          rw [hkt, settleAll_snoc, put_length _ _ _ (by rw [hdl, x1]; exact sec_fits x2), hdl]
        have HDL := hide hdl'
        have HKT := hide hkt
        have hwk : w.heap.size ≤ wr.heap.size := hI.keeps.size
        have hwl : (wr.alloc (.cells #[.int .i64 x.sec, .slice (some ⟨x.blk, 0, none⟩) S.size S.size] 60)).cell? ⟨kb, koff + k, none⟩ = some (.bool true) := by rw [World.cell?_alloc_past _ _ _ (by omega)]; exact kc0
        clear hx hv q1 q2 hI hset x1 x2 x3 x4 hkeep hkc hin hDb hdb px hsub hdl hkt hdl'
        go_wp2_with fail
        refine (unhide HSET).mono ?_
        rintro e w4 ⟨rfl, hk4, hd4⟩
        have HN : Hid (SInv w S ks (k + 1) w4) := by
          have K := (unhide HI).keeps.alloc (.cells #[.int .i64 x.sec, .slice (some ⟨x.blk, 0, none⟩) S.size S.size] 60)
          refine ⟨⟨hk4.os.trans K.os, hk4.tape.trans K.tape, hk4.output.trans K.output, Nat.le_trans K.size hk4.size, fun q hq _ => ?_⟩, ?_⟩
          · rw [hk4.block q (by simp; omega) (by omega)]; exact K.block q hq id
          · exact ((unhide HI).disk.alloc _).setDur hk4 (by rw [hd4, unhide HKT, settleAll_snoc]) (unhide HDL)
        clear hk4 hd4
        go_wp2
        go_roundw
        case rel => exact ⟨k + 1, by omega, by go_num, unhide HN⟩
        case measure => simp [intOf]; omega
      · have hkt : keptTo ks S.ws (k + 1) = keptTo ks S.ws k := by simp [keptTo, hx, hkeep]
        have HN : Hid (SInv w S ks (k + 1) (wr.alloc (.cells #[.int .i64 x.sec, .slice (some ⟨x.blk, 0, none⟩) S.size S.size] 60))) := ⟨hI.keeps.alloc _, by rw [hkt]; exact hI.disk.alloc _⟩
        have hwk : w.heap.size ≤ wr.heap.size := hI.keeps.size
        by_cases hkl2 : k < ks.length
        · obtain ⟨kb, koff, kcap, e2, hkb, hkc⟩ := (unhide HB).cells (by omega)
          simp at e2
          obtain ⟨rfl, rfl⟩ := e2
          have hfalse : ks[k]? = some false := by
            have := List.getElem?_eq_getElem hkl2
            cases hv' : ks[k] with
            | true => rw [hv'] at this; exact absurd this hkeep
            | false => rw [hv'] at this; exact this
          have kc0 := (hI.keeps.cell (o := koff + k) hkb id).trans (hkc k false hfalse)
          have i1 : (k : Int) < (ks.length : Int) := by omega
          have hwl : (wr.alloc (.cells #[.int .i64 x.sec, .slice (some ⟨x.blk, 0, none⟩) S.size S.size] 60)).cell? ⟨kb, koff + k, none⟩ = some (.bool false) := by rw [World.cell?_alloc_past _ _ _ (by omega)]; exact kc0
          clear hx hv q1 q2 hI x1 x2 x3 x4 hkeep hkc hin hDb hdb px hsub hdl hkt hfalse
          go_wp2
          go_roundw
          case rel => exact ⟨k + 1, by omega, by go_num, unhide HN⟩
          case measure => simp [intOf]; omega
        · have i1 : ¬ ((k : Int) < (ks.length : Int)) := by omega
          clear hx hv q1 q2 hI x1 x2 x3 x4 hkeep hin hDb hdb px hsub hdl hkt
          go_wp2
          go_roundw
          case rel => exact ⟨k + 1, by omega, by go_num, unhide HN⟩
          case measure => simp [intOf]; omega
    · obtain rfl : k = S.ws.length := by omega
      have HI := hide hI
      clear hI
      go_wp2
      go_ret
      exact ⟨rfl, (unhide HI).keeps, (unhide HI).disk⟩

end Go.Proofs.Ytjmbcelkhiopeaa
