import Derived.Test.YtjmbcelkhiopeaaRd
import Derived.Test.YtjmbcelkhiopeaaM
namespace Go.Proofs.Ytjmbcelkhiopeaa
open Go.RowKit Go.Maps
attribute [local go_sem ↓] Go.wp_at_zero Go.wp_at_succ

theorem RefAt.c6 {w : World} {B : Nat} {R : RS} (h : RefAt w B R) {b : Bool} (hd : R.gone = b) : w.cell? ⟨R.D, 6, none⟩ = some (.bool b) := by rw [cell_of_blk h.blk, ← hd]; rfl

def RS.flushed (R : RS) : RS := { R with firm := R.log.length, f := R.f + 1 }
def RS.armed (R : RS) (x : Int) : RS := { R with fuse := max x (-1) }

set_option maxRecDepth 100000 in
set_option maxHeartbeats 400000 in
theorem refFlush_ok (w : World) (B : Nat) (R : RS) (h : RefAt w B R) (hgone : R.gone = false) (hf1 : 0 ≤ R.f) (hf2 : R.f ≤ 4294967295) :
    Calls Try.prog 64 #[.pointer (some ⟨R.D, 0, none⟩)] w fun e w' => e = .returned (.int .i64 0) ∧ RefAt w' B R.flushed ∧ Keeps (fun k => k = R.D) w w' := by
  obtain ⟨lo, lc, hlv⟩ := h.form
  have c3 : w.cell? ⟨R.D, 3, none⟩ = some (.slice lo R.log.length lc) := by rw [cell_of_blk h.blk, ← hlv]; rfl
  have c4 : w.cell? ⟨R.D, 4, none⟩ = some (.int .i64 R.firm) := cell_of_blk h.blk 4
  have c6 := h.c6 hgone
  have c9 : w.cell? ⟨R.D, 9, none⟩ = some (.int .i64 R.f) := cell_of_blk h.blk 9
  have f4 := frozen_of_blk h.blk 4
  have f9 := frozen_of_blk h.blk 9
  have HD : Hid (RefAt ((w.setCell ⟨R.D, 4, none⟩ (.int .i64 R.log.length)).setCell ⟨R.D, 9, none⟩ (.int .i64 (R.f + 1))) B R.flushed) :=
    h.set ((kD _ _ _ _).trans (kD _ _ _ _)) (by rw [heap_setCell_at (heap_setCell_at h.blk _) _]; rfl) rfl rfl rfl rfl rfl rfl rfl (Nat.le_refl _)
  have HK := hide ((kD w R.D 4 (.int .i64 R.log.length)).trans (kD _ R.D 9 (.int .i64 (R.f + 1))))
  clear h hlv
  go_enter Try.func64, Try.ntmps64
  go_wp2
  go_ret
  exact ⟨rfl, unhide HD, unhide HK⟩

set_option maxRecDepth 100000 in
set_option maxHeartbeats 400000 in
theorem refArm_ok (w : World) (B : Nat) (R : RS) (h : RefAt w B R) (hgone : R.gone = false) (x : Int) :
    Calls Try.prog 65 #[.pointer (some ⟨R.D, 0, none⟩), .int .i64 x] w fun e w' => e = .returned (.int .i64 0) ∧ RefAt w' B (R.armed x) ∧ Keeps (fun k => k = R.D) w w' := by
  have c5 : w.cell? ⟨R.D, 5, none⟩ = some (.int .i64 R.fuse) := cell_of_blk h.blk 5
  have c6 := h.c6 hgone
  have f5 := frozen_of_blk h.blk 5
  by_cases hx : x < 0
  · have e : max x (-1) = -1 := by omega
    have HD : Hid (RefAt ((w.setCell ⟨R.D, 5, none⟩ (.int .i64 x)).setCell ⟨R.D, 5, none⟩ (.int .i64 (-1))) B (R.armed x)) :=
      h.set ((kD _ _ _ _).trans (kD _ _ _ _)) (by rw [heap_setCell_at (heap_setCell_at h.blk _) _]; simp [RS.armed, RS.cells, e]) rfl rfl rfl rfl rfl rfl rfl h.firm
    have HK := hide ((kD w R.D 5 (.int .i64 x)).trans (kD _ R.D 5 (.int .i64 (-1))))
    clear h e
    go_enter Try.func65, Try.ntmps65
    go_wp2
    go_ret
    exact ⟨rfl, unhide HD, unhide HK⟩
  · have e : max x (-1) = x := by omega
    have HD : Hid (RefAt (w.setCell ⟨R.D, 5, none⟩ (.int .i64 x)) B (R.armed x)) :=
      h.set (kD _ _ _ _) (by rw [heap_setCell_at h.blk]; simp [RS.armed, RS.cells, e]) rfl rfl rfl rfl rfl rfl rfl h.firm
    have HK := hide (kD w R.D 5 (.int .i64 x))
    clear h e
    go_enter Try.func65, Try.ntmps65
    go_wp2
    go_ret
    exact ⟨rfl, unhide HD, unhide HK⟩

set_option maxRecDepth 100000 in
set_option maxHeartbeats 400000 in
theorem refDead_any (D : Nat) (d : Bool) (w : World) (c6 : w.cell? ⟨D, 6, none⟩ = some (.bool d)) :
    Calls Try.prog 66 #[.pointer (some ⟨D, 0, none⟩)] w fun e w' => e = .returned (.bool d) ∧ w' = w := by
  go_enter Try.func66, Try.ntmps66
  go_wp2
  go_ret
  exact ⟨rfl, rfl⟩

set_option maxRecDepth 100000 in
set_option maxHeartbeats 400000 in
theorem refStats_any (w : World) (B : Nat) (R : RS) (h : RefAt w B R) :
    Calls Try.prog 69 #[.pointer (some ⟨R.D, 0, none⟩)] w fun e w' => e = .returned (.agg #[.int .i64 R.r, .int .i64 R.wr, .int .i64 R.f]) ∧ w' = w.alloc (.cells #[.int .i64 R.r, .int .i64 R.wr, .int .i64 R.f] 48) := by
  have c7 : w.cell? ⟨R.D, 7, none⟩ = some (.int .i64 R.r) := cell_of_blk h.blk 7
  have c8 : w.cell? ⟨R.D, 8, none⟩ = some (.int .i64 R.wr) := cell_of_blk h.blk 8
  have c9 : w.cell? ⟨R.D, 9, none⟩ = some (.int .i64 R.f) := cell_of_blk h.blk 9
  have hl := lt_of_block h.blk
  clear h
  go_enter Try.func69, Try.ntmps69
  go_wp2
  exact bodyPost_ret (v := .agg #[.int .i64 R.r, .int .i64 R.wr, .int .i64 R.f]) (by simp [results, Try.results69, go_sem]) rfl ⟨rfl, rfl⟩

set_option maxRecDepth 100000 in
set_option maxHeartbeats 400000 in
theorem shape_any (w : World) (B : Nat) (S : DS) (h : DiskAt w B S) :
    Calls Try.prog 67 #[.pointer (some ⟨S.D, 0, none⟩)] w fun e w' => e = .returned (.tuple #[.int .i64 S.secs, .int .i64 S.size]) ∧ ∃ n, w' = w.drewN n := by
  have c0 : w.cell? ⟨S.D, 0, none⟩ = some (.int .i64 S.secs) := cell_of_blk h.blk 0
  have c1 : w.cell? ⟨S.D, 1, none⟩ = some (.int .i64 S.size) := cell_of_blk h.blk 1
  clear h
  go_enter Try.func67, Try.ntmps67
  go_wp2_with fail
  go_quiet (fail)
  go_wp2
  go_ret2
  exact ⟨rfl, _, rfl⟩

set_option maxRecDepth 100000 in
set_option maxHeartbeats 400000 in
theorem refShape_any (w : World) (B : Nat) (R : RS) (h : RefAt w B R) :
    Calls Try.prog 68 #[.pointer (some ⟨R.D, 0, none⟩)] w fun e w' => e = .returned (.tuple #[.int .i64 R.secs, .int .i64 R.size]) ∧ ∃ n, w' = w.drewN n := by
  have c0 : w.cell? ⟨R.D, 0, none⟩ = some (.int .i64 R.secs) := cell_of_blk h.blk 0
  have c1 : w.cell? ⟨R.D, 1, none⟩ = some (.int .i64 R.size) := cell_of_blk h.blk 1
  clear h
  go_enter Try.func68, Try.ntmps68
  go_wp2_with fail
  go_quiet (fail)
  go_wp2
  go_ret2
  exact ⟨rfl, _, rfl⟩

set_option maxRecDepth 100000 in
set_option maxHeartbeats 400000 in
theorem refWrite_size (w : World) (B : Nat) (R : RS) (h : RefAt w B R) (hgone : R.gone = false) (a n c : Nat) (bo : Option Addr) (ha : a < R.secs) (hn : n ≠ R.size) :
    Calls Try.prog 48 #[.pointer (some ⟨R.D, 0, none⟩), .int .i64 a, .slice bo n c] w fun e w' => e = .returned (.int .i64 12) ∧ w' = w := by
  have c0 : w.cell? ⟨R.D, 0, none⟩ = some (.int .i64 R.secs) := cell_of_blk h.blk 0
  have c1 : w.cell? ⟨R.D, 1, none⟩ = some (.int .i64 R.size) := cell_of_blk h.blk 1
  have c6 := h.c6 hgone
  have hne : ((n : Int) != (R.size : Int)) = true := by rw [bne_iff_ne]; omega
  have h1 : (a : Int) < (R.secs : Int) := by omega
  clear h
  go_enter Try.func48, Try.ntmps48
  go_wp2
  go_ret
  exact ⟨rfl, rfl⟩

set_option maxRecDepth 100000 in
set_option maxHeartbeats 400000 in
theorem refWrite_sector (D secs : Nat) (a : Int) (bv : Value) (w : World) (c0 : w.cell? ⟨D, 0, none⟩ = some (.int .i64 secs)) (c6 : w.cell? ⟨D, 6, none⟩ = some (.bool false)) (h : a < 0 ∨ (secs : Int) ≤ a) :
    Calls Try.prog 48 #[.pointer (some ⟨D, 0, none⟩), .int .i64 a, bv] w fun e w' => e = .returned (.int .i64 11) ∧ w' = w := by
  have hc : a < 0 ∨ (¬ a < 0 ∧ (secs : Int) ≤ a) := by omega
  clear h
  rcases hc with h | ⟨h, h'⟩
  all_goals
    go_enter Try.func48, Try.ntmps48
    go_wp2
    go_ret
    exact ⟨rfl, rfl⟩

set_option maxRecDepth 100000 in
set_option maxHeartbeats 400000 in
theorem refRead_sector (D secs : Nat) (a : Int) (w : World) (c0 : w.cell? ⟨D, 0, none⟩ = some (.int .i64 secs)) (c6 : w.cell? ⟨D, 6, none⟩ = some (.bool false)) (h : a < 0 ∨ (secs : Int) ≤ a) :
    Calls Try.prog 52 #[.pointer (some ⟨D, 0, none⟩), .int .i64 a] w fun e w' => e = .returned (.tuple #[.slice none 0 0, .int .i64 11]) ∧ w' = w := by
  have hc : a < 0 ∨ (¬ a < 0 ∧ (secs : Int) ≤ a) := by omega
  clear h
  rcases hc with h | ⟨h, h'⟩
  all_goals
    go_enter Try.func52, Try.ntmps52
    go_wp2
    go_ret2
    exact ⟨rfl, rfl⟩

set_option maxRecDepth 100000 in
set_option maxHeartbeats 400000 in
theorem refWrite_dead (D : Nat) (a : Int) (bv : Value) (w : World) (c6 : w.cell? ⟨D, 6, none⟩ = some (.bool true)) :
    Calls Try.prog 48 #[.pointer (some ⟨D, 0, none⟩), .int .i64 a, bv] w fun e w' => e = .returned (.int .i64 10) ∧ w' = w := by
  go_enter Try.func48, Try.ntmps48
  go_wp2
  go_ret
  exact ⟨rfl, rfl⟩

set_option maxRecDepth 100000 in
set_option maxHeartbeats 400000 in
theorem refRead_dead (D : Nat) (a : Int) (w : World) (c6 : w.cell? ⟨D, 6, none⟩ = some (.bool true)) :
    Calls Try.prog 52 #[.pointer (some ⟨D, 0, none⟩), .int .i64 a] w fun e w' => e = .returned (.tuple #[.slice none 0 0, .int .i64 10]) ∧ w' = w := by
  go_enter Try.func52, Try.ntmps52
  go_wp2
  go_ret2
  exact ⟨rfl, rfl⟩

set_option maxRecDepth 100000 in
set_option maxHeartbeats 400000 in
theorem refFlush_dead (D : Nat)  (w : World) (c6 : w.cell? ⟨D, 6, none⟩ = some (.bool true)) :
    Calls Try.prog 64 #[.pointer (some ⟨D, 0, none⟩)] w fun e w' => e = .returned (.int .i64 10) ∧ w' = w := by
  go_enter Try.func64, Try.ntmps64
  go_wp2
  go_ret
  exact ⟨rfl, rfl⟩

set_option maxRecDepth 100000 in
set_option maxHeartbeats 400000 in
theorem refArm_dead (D : Nat) (a : Int) (w : World) (c6 : w.cell? ⟨D, 6, none⟩ = some (.bool true)) :
    Calls Try.prog 65 #[.pointer (some ⟨D, 0, none⟩), .int .i64 a] w fun e w' => e = .returned (.int .i64 10) ∧ w' = w := by
  go_enter Try.func65, Try.ntmps65
  go_wp2
  go_ret
  exact ⟨rfl, rfl⟩

set_option maxRecDepth 100000 in
set_option maxHeartbeats 400000 in
theorem ready_nil (w : World) : Calls Try.prog 38 #[.pointer none] w fun e w' => e = .returned (.int .i64 1) ∧ w' = w := by
  go_enter Try.func38, Try.ntmps38
  go_wp2
  go_ret
  exact ⟨rfl, rfl⟩

set_option maxRecDepth 100000 in
set_option maxHeartbeats 400000 in
theorem read_nil (a : Int) (w : World) : Calls Try.prog 14 #[.pointer none, .int .i64 a] w fun e w' => e = .returned (.tuple #[.slice none 0 0, .int .i64 1]) ∧ w' = w := by
  go_enter Try.func14, Try.ntmps14
  go_wp2_with (go_at_call 38; refine (ready_nil _).mono ?_; rintro e w' ⟨rfl, rfl⟩)
  go_ret2
  exact ⟨rfl, rfl⟩

set_option maxRecDepth 100000 in
set_option maxHeartbeats 400000 in
theorem write_nil (a : Int) (bv : Value) (w : World) : Calls Try.prog 12 #[.pointer none, .int .i64 a, bv] w fun e w' => e = .returned (.int .i64 1) ∧ w' = w := by
  go_enter Try.func12, Try.ntmps12
  go_wp2_with (go_at_call 38; refine (ready_nil _).mono ?_; rintro e w' ⟨rfl, rfl⟩)
  go_ret
  exact ⟨rfl, rfl⟩

set_option maxRecDepth 100000 in
set_option maxHeartbeats 400000 in
theorem flush_nil  (w : World) : Calls Try.prog 11 #[.pointer none] w fun e w' => e = .returned (.int .i64 1) ∧ w' = w := by
  go_enter Try.func11, Try.ntmps11
  go_wp2_with (go_at_call 38; refine (ready_nil _).mono ?_; rintro e w' ⟨rfl, rfl⟩)
  go_ret
  exact ⟨rfl, rfl⟩

set_option maxRecDepth 100000 in
set_option maxHeartbeats 400000 in
theorem arm_nil (a : Int) (w : World) : Calls Try.prog 23 #[.pointer none, .int .i64 a] w fun e w' => e = .returned (.int .i64 1) ∧ w' = w := by
  go_enter Try.func23, Try.ntmps23
  go_wp2_with (go_at_call 38; refine (ready_nil _).mono ?_; rintro e w' ⟨rfl, rfl⟩)
  go_ret
  exact ⟨rfl, rfl⟩

set_option maxRecDepth 100000 in
set_option maxHeartbeats 400000 in
theorem dead_nil  (w : World) : Calls Try.prog 25 #[.pointer none] w fun e w' => e = .returned (.bool false) ∧ w' = w := by
  go_enter Try.func25, Try.ntmps25
  go_wp2
  go_ret
  exact ⟨rfl, rfl⟩

set_option maxRecDepth 100000 in
set_option maxHeartbeats 400000 in
theorem pending_nil  (w : World) : Calls Try.prog 18 #[.pointer none] w fun e w' => e = .returned (.slice none 0 0) ∧ w' = w := by
  go_enter Try.func18, Try.ntmps18
  go_wp2
  go_ret
  exact ⟨rfl, rfl⟩

set_option maxRecDepth 100000 in
set_option maxHeartbeats 400000 in
theorem survive_nil (kv : Value) (w : World) : Calls Try.prog 24 #[.pointer none, kv] w fun e w' => e = .returned (.pointer none) ∧ w' = w := by
  go_enter Try.func24, Try.ntmps24
  go_wp2
  go_ret
  exact ⟨rfl, rfl⟩

set_option maxRecDepth 100000 in
set_option maxHeartbeats 400000 in
theorem image_nil  (w : World) : Calls Try.prog 27 #[.pointer none] w fun e w' => e = .returned (.slice none 0 0) ∧ w' = w := by
  go_enter Try.func27, Try.ntmps27
  go_wp2
  go_ret
  exact ⟨rfl, rfl⟩

set_option maxRecDepth 100000 in
set_option maxHeartbeats 400000 in
theorem shape_nil  (w : World) : Calls Try.prog 67 #[.pointer none] w fun e w' => e = .returned (.tuple #[.int .i64 0, .int .i64 0]) ∧ w' = w := by
  go_enter Try.func67, Try.ntmps67
  go_wp2
  go_ret2
  exact ⟨rfl, rfl⟩

set_option maxRecDepth 100000 in
set_option maxHeartbeats 400000 in
theorem refRead_nil (a : Int) (w : World) : Calls Try.prog 52 #[.pointer none, .int .i64 a] w fun e w' => e = .returned (.tuple #[.slice none 0 0, .int .i64 1]) ∧ w' = w := by
  go_enter Try.func52, Try.ntmps52
  go_wp2
  go_ret2
  exact ⟨rfl, rfl⟩

set_option maxRecDepth 100000 in
set_option maxHeartbeats 400000 in
theorem refWrite_nil (a : Int) (bv : Value) (w : World) : Calls Try.prog 48 #[.pointer none, .int .i64 a, bv] w fun e w' => e = .returned (.int .i64 1) ∧ w' = w := by
  go_enter Try.func48, Try.ntmps48
  go_wp2
  go_ret
  exact ⟨rfl, rfl⟩

set_option maxRecDepth 100000 in
set_option maxHeartbeats 400000 in
theorem refFlush_nil  (w : World) : Calls Try.prog 64 #[.pointer none] w fun e w' => e = .returned (.int .i64 1) ∧ w' = w := by
  go_enter Try.func64, Try.ntmps64
  go_wp2
  go_ret
  exact ⟨rfl, rfl⟩

set_option maxRecDepth 100000 in
set_option maxHeartbeats 400000 in
theorem refArm_nil (a : Int) (w : World) : Calls Try.prog 65 #[.pointer none, .int .i64 a] w fun e w' => e = .returned (.int .i64 1) ∧ w' = w := by
  go_enter Try.func65, Try.ntmps65
  go_wp2
  go_ret
  exact ⟨rfl, rfl⟩

set_option maxRecDepth 100000 in
set_option maxHeartbeats 400000 in
theorem refDead_nil  (w : World) : Calls Try.prog 66 #[.pointer none] w fun e w' => e = .returned (.bool false) ∧ w' = w := by
  go_enter Try.func66, Try.ntmps66
  go_wp2
  go_ret
  exact ⟨rfl, rfl⟩

set_option maxRecDepth 100000 in
set_option maxHeartbeats 400000 in
theorem refPending_nil  (w : World) : Calls Try.prog 54 #[.pointer none] w fun e w' => e = .returned (.slice none 0 0) ∧ w' = w := by
  go_enter Try.func54, Try.ntmps54
  go_wp2
  go_ret
  exact ⟨rfl, rfl⟩

set_option maxRecDepth 100000 in
set_option maxHeartbeats 400000 in
theorem refImage_nil  (w : World) : Calls Try.prog 53 #[.pointer none] w fun e w' => e = .returned (.slice none 0 0) ∧ w' = w := by
  go_enter Try.func53, Try.ntmps53
  go_wp2
  go_ret
  exact ⟨rfl, rfl⟩

set_option maxRecDepth 100000 in
set_option maxHeartbeats 400000 in
theorem refSurvive_nil (kv : Value) (w : World) : Calls Try.prog 50 #[.pointer none, kv] w fun e w' => e = .returned (.pointer none) ∧ w' = w := by
  go_enter Try.func50, Try.ntmps50
  go_wp2
  go_ret
  exact ⟨rfl, rfl⟩

set_option maxRecDepth 100000 in
set_option maxHeartbeats 400000 in
theorem refShape_nil  (w : World) : Calls Try.prog 68 #[.pointer none] w fun e w' => e = .returned (.tuple #[.int .i64 0, .int .i64 0]) ∧ w' = w := by
  go_enter Try.func68, Try.ntmps68
  go_wp2
  go_ret2
  exact ⟨rfl, rfl⟩

set_option maxRecDepth 100000 in
set_option maxHeartbeats 400000 in
theorem stats_nil (w : World) : Calls Try.prog 22 #[.pointer none] w fun e w' => e = .returned (.agg #[.int .i64 0, .int .i64 0, .int .i64 0]) ∧ w' = w.alloc (.cells #[.int .i64 0, .int .i64 0, .int .i64 0] 48) := by
  go_enter Try.func22, Try.ntmps22
  go_wp2
  exact bodyPost_ret (v := .agg #[.int .i64 0, .int .i64 0, .int .i64 0]) (by simp [results, Try.results22, go_sem]) rfl ⟨rfl, rfl⟩

set_option maxRecDepth 100000 in
set_option maxHeartbeats 400000 in
theorem refStats_nil (w : World) : Calls Try.prog 69 #[.pointer none] w fun e w' => e = .returned (.agg #[.int .i64 0, .int .i64 0, .int .i64 0]) ∧ w' = w.alloc (.cells #[.int .i64 0, .int .i64 0, .int .i64 0] 48) := by
  go_enter Try.func69, Try.ntmps69
  go_wp2
  exact bodyPost_ret (v := .agg #[.int .i64 0, .int .i64 0, .int .i64 0]) (by simp [results, Try.results69, go_sem]) rfl ⟨rfl, rfl⟩

theorem tmod3 (n : Int) : (0 ≤ n ∧ n.tmod 3 = n % 3) ∨ (n < 0 ∧ n.tmod 3 = -((-n) % 3)) := by
  rcases Int.lt_or_le n 0 with h | h
  · right
    refine ⟨h, ?_⟩
    have := Int.neg_tmod (-n) 3
    rw [Int.neg_neg] at this
    rw [this, Int.tmod_eq_emod_of_nonneg (by omega)]
  · exact Or.inl ⟨h, Int.tmod_eq_emod_of_nonneg h⟩

set_option maxRecDepth 100000 in
set_option maxHeartbeats 400000 in
theorem who_any (n : Int) (w : World) :
    Calls Try.prog 45 #[.int .i64 n] w fun e w' => e = .returned (.int .i64 (n % 3)) ∧ w' = w := by
  have ht := tmod3 n
  have b1 : -3 < n.tmod 3 := by omega
  have b2 : n.tmod 3 < 3 := by omega
  by_cases h0 : n.tmod 3 < 0
  · have HE := hide (show n % 3 = n.tmod 3 + 3 by omega)
    clear ht
    go_enter Try.func45, Try.ntmps45
    go_wp2
    all_goals (go_ret; exact ⟨ret_int (by have := unhide HE; omega), rfl⟩)
  · have HE := hide (show n % 3 = n.tmod 3 by omega)
    clear ht
    go_enter Try.func45, Try.ntmps45
    go_wp2
    all_goals (go_ret; exact ⟨ret_int (by have := unhide HE; omega), rfl⟩)

end Go.Proofs.Ytjmbcelkhiopeaa
