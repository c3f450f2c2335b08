import Derived.Test.YtjmbcelkhiopeaaJ
namespace Go.Proofs.Ytjmbcelkhiopeaa
open Go.RowKit Go.Maps

def DS.armed (S : DS) (x : Int) : DS := { S with left := max x (-1) }

set_option maxRecDepth 100000 in
set_option maxHeartbeats 400000 in
theorem arm_ok (w : World) (B : Nat) (S : DS) (h : DiskAt w B S) (hdead : S.dead = false) (x : Int) :
    Calls Try.prog 23 #[.pointer (some ⟨S.D, 0, none⟩), .int .i64 x] w fun e w' => e = .returned (.int .i64 0) ∧ DiskAt w' B (S.armed x) ∧ Keeps (fun k => k = S.D) w w' := by
  have c5 : w.cell? ⟨S.D, 5, none⟩ = some (.int .i64 S.left) := by rw [cell_of_blk h.blk]; rfl
  have c6 : w.cell? ⟨S.D, 6, none⟩ = some (.bool false) := by rw [cell_of_blk h.blk, ← hdead]; rfl
  have f5 := frozen_of_blk h.blk 5
  have HD : Hid (DiskAt (w.setCell ⟨S.D, 5, none⟩ (.int .i64 (max x (-1)))) B (S.armed x)) := h.set (kD _ _ _ _) (by rw [heap_setCell_at h.blk]; rfl) rfl rfl rfl rfl rfl rfl rfl rfl rfl rfl
  have HK := hide (kD w S.D 5 (.int .i64 (max x (-1))))
  clear h
  go_enter Try.func23, Try.ntmps23
  go_wp2_with fail
  refine (ready_ok _ _ c6).mono ?_; rintro e w' ⟨rfl, rfl⟩
  go_wp2
  · rw [show max x (-1) = -1 by omega] at HD HK
    go_ret
    exact ⟨rfl, unhide HD, unhide HK⟩
  · rw [show max x (-1) = x by omega] at HD HK
    go_ret
    exact ⟨rfl, unhide HD, unhide HK⟩

set_option maxRecDepth 100000 in
set_option maxHeartbeats 400000 in
theorem arm_dead (D : Nat) (w : World) (x : Int) (c6 : w.cell? ⟨D, 6, none⟩ = some (.bool true)) :
    Calls Try.prog 23 #[.pointer (some ⟨D, 0, none⟩), .int .i64 x] w fun e w' => e = .returned (.int .i64 10) ∧ w' = w := by
  go_enter Try.func23, Try.ntmps23
  go_wp2_with fail
  refine (ready_dead _ _ c6).mono ?_; rintro e w' ⟨rfl, rfl⟩
  go_wp2
  go_ret
  exact ⟨rfl, rfl⟩

set_option maxRecDepth 100000 in
set_option maxHeartbeats 400000 in
theorem flush_dead (D : Nat) (w : World) (c6 : w.cell? ⟨D, 6, none⟩ = some (.bool true)) :
    Calls Try.prog 11 #[.pointer (some ⟨D, 0, none⟩)] w fun e w' => e = .returned (.int .i64 10) ∧ w' = w := by
  go_enter Try.func11, Try.ntmps11
  go_wp2_with fail
  refine (ready_dead _ _ c6).mono ?_; rintro e w' ⟨rfl, rfl⟩
  go_wp2
  go_ret
  exact ⟨rfl, rfl⟩

set_option maxRecDepth 100000 in
set_option maxHeartbeats 400000 in
theorem dead_any (D : Nat) (d : Bool) (w : World) (c6 : w.cell? ⟨D, 6, none⟩ = some (.bool d)) :
    Calls Try.prog 25 #[.pointer (some ⟨D, 0, none⟩)] w fun e w' => e = .returned (.bool d) ∧ w' = w := by
  go_enter Try.func25, Try.ntmps25
  go_wp2
  go_ret
  exact ⟨rfl, rfl⟩

set_option maxRecDepth 100000 in
set_option maxHeartbeats 400000 in
theorem image_any (w : World) (B : Nat) (S : DS) (h : DiskAt w B S) :
    Calls Try.prog 27 #[.pointer (some ⟨S.D, 0, none⟩)] w fun e w' => e = .returned (.slice (some ⟨w.heap.size, 0, none⟩) (S.secs * S.size) (S.secs * S.size)) ∧ w' = w.alloc (.cells (bs S.dur).toArray 5) := by
  have hnn : S.secs * S.size ≤ 16777216 := Nat.le_trans (Nat.mul_le_mul h.secs2 h.size2) (by decide)
  have c2 : w.cell? ⟨S.D, 2, none⟩ = some (.slice (some ⟨S.db, 0, none⟩) (S.secs * S.size) (S.secs * S.size)) := by rw [cell_of_blk h.blk]; rfl
  have HC := hide (copied_any S.db 0 (S.secs * S.size) (S.secs * S.size) S.dur w h.dlen (lt_of_block h.dblk) hnn (fun j x hx => by rw [cell_of_blk h.dblk]; simp [bs, hx]))
  clear h hnn
  go_enter Try.func27, Try.ntmps27
  go_wp2_with fail
  refine (unhide HC).mono ?_; rintro e w' ⟨rfl, rfl⟩
  go_wp2
  go_ret
  exact ⟨rfl, rfl⟩

set_option maxRecDepth 100000 in
set_option maxHeartbeats 400000 in
theorem stats_any (w : World) (B : Nat) (S : DS) (h : DiskAt w B S) :
    Calls Try.prog 22 #[.pointer (some ⟨S.D, 0, none⟩)] w fun e w' => e = .returned (.agg #[.int .i64 S.r, .int .i64 S.wr, .int .i64 S.f]) ∧ w' = w.alloc (.cells #[.int .i64 S.r, .int .i64 S.wr, .int .i64 S.f] 48) := by
  have c7 : w.cell? ⟨S.D, 7, none⟩ = some (.int .i64 S.r) := by rw [cell_of_blk h.blk]; rfl
  have c8 : w.cell? ⟨S.D, 8, none⟩ = some (.int .i64 S.wr) := by rw [cell_of_blk h.blk]; rfl
  have c9 : w.cell? ⟨S.D, 9, none⟩ = some (.int .i64 S.f) := by rw [cell_of_blk h.blk]; rfl
  have hl := lt_of_block h.blk
  clear h
  go_enter Try.func22, Try.ntmps22
  go_wp2
  exact bodyPost_ret (v := .agg #[.int .i64 S.r, .int .i64 S.wr, .int .i64 S.f]) (by simp [results, Try.results22, go_sem]) rfl ⟨rfl, rfl⟩

end Go.Proofs.Ytjmbcelkhiopeaa
