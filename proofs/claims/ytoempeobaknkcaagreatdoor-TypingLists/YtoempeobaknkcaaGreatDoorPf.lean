import Derived.Test.YtoempeobaknkcaaGreatDoorJyag
namespace Go.Proofs.YtoempeobaknkcaaGreatDoor
open Go.RowKit Go.Maps

theorem StmtsAt.keepF {w w' : World} {j : Nat} (h : StmtsAt w j) (hj : j < w.heap.size) (hk : Keeps (fun _ => False) w w') : StmtsAt w' j := by
  obtain ⟨t2, h1, h2⟩ := h
  exact ⟨t2, (hk.cell hj id).trans h1, (hk.block _ (lt_of_block h2) id).trans h2⟩

set_option maxRecDepth 100000 in
set_option maxHeartbeats 2000000 in
theorem stmtJ1 (j : Nat) (f : Txt) (xv tv ev : Value) (hv : ∃ xo xn xc to tn tc eo en ec, xv = .slice xo xn xc ∧ tv = .slice to tn tc ∧ ev = .slice eo en ec) (R : Int) (w : World) (hj : j < w.heap.size) (h : StmtsAt w j)
    (hC : ∀ w', Keeps (fun _ => False) w w' → Calls Tryz.prog 77 #[.pointer (some ⟨j, 0, none⟩), stV 1 f xv tv ev] w' fun e w'' => e = .returned (.int .i64 R) ∧ Keeps (fun _ => False) w' w'') :
    Calls Tryz.prog 33 #[.pointer (some ⟨j, 0, none⟩), stV 1 f xv tv ev] w fun e w' => e = .returned (.int .i64 R) ∧ Keeps (fun _ => False) w w' := by
  obtain ⟨xo, xn, xc, to, tn, tc, eo, en, ec, rfl, rfl, rfl⟩ := hv
  obtain ⟨t2, h1, h2⟩ := h
  obtain ⟨HB, hxb, hxc⟩ := boxedT w #[.int .i64 1, str f, .slice xo xn xc, .slice to tn tc, .slice eo en ec] 53
  have ht := lt_of_block h2
  have e0 : ∀ m : KW (w.alloc (.cells #[.int .i64 1, str f, .slice xo xn xc, .slice to tn tc, .slice eo en ec] 53)), m.wd.cell? ⟨j, 2, none⟩ = some (.slice (some ⟨t2, 0, none⟩) 9 9) := fun m => (((unhide HB).trans m.kept).cell hj id).trans h1
  have e1 : ∀ m : KW (w.alloc (.cells #[.int .i64 1, str f, .slice xo xn xc, .slice to tn tc, .slice eo en ec] 53)), m.wd.cell? ⟨t2, 1, none⟩ = some (.func (.func 77) #[.pointer (some ⟨j, 0, none⟩)] #[]) := fun m => (((unhide HB).trans m.kept).cell ht id).trans (by rw [cell_of_blk h2]; rfl)
  have f0 : ∀ m : KW (w.alloc (.cells #[.int .i64 1, str f, .slice xo xn xc, .slice to tn tc, .slice eo en ec] 53)), m.wd.cell? ⟨w.heap.size, 0, none⟩ = some (.int .i64 1) := fun m => (m.kept.cell hxb id).trans (hxc 0 _ rfl)
  have f1 : ∀ m : KW (w.alloc (.cells #[.int .i64 1, str f, .slice xo xn xc, .slice to tn tc, .slice eo en ec] 53)), m.wd.cell? ⟨w.heap.size, 1, none⟩ = some (str f) := fun m => (m.kept.cell hxb id).trans (hxc 1 _ rfl)
  have f2 : ∀ m : KW (w.alloc (.cells #[.int .i64 1, str f, .slice xo xn xc, .slice to tn tc, .slice eo en ec] 53)), m.wd.cell? ⟨w.heap.size, 2, none⟩ = some (.slice xo xn xc) := fun m => (m.kept.cell hxb id).trans (hxc 2 _ rfl)
  have f3 : ∀ m : KW (w.alloc (.cells #[.int .i64 1, str f, .slice xo xn xc, .slice to tn tc, .slice eo en ec] 53)), m.wd.cell? ⟨w.heap.size, 3, none⟩ = some (.slice to tn tc) := fun m => (m.kept.cell hxb id).trans (hxc 3 _ rfl)
  have f4 : ∀ m : KW (w.alloc (.cells #[.int .i64 1, str f, .slice xo xn xc, .slice to tn tc, .slice eo en ec] 53)), m.wd.cell? ⟨w.heap.size, 4, none⟩ = some (.slice eo en ec) := fun m => (m.kept.cell hxb id).trans (hxc 4 _ rfl)
  have HE := hide (fun (m : KW (w.alloc (.cells #[.int .i64 1, str f, .slice xo xn xc, .slice to tn tc, .slice eo en ec] 53))) => kw_of m (hC m.wd ((unhide HB).trans m.kept)))
  clear hC hxc h1 h2
  go_enter Tryz.func33, Tryz.ntmps33
  go_wp2_with fail
  refine region_kept (by kernel_rfl) (by kernel_rfl) ?_
  repeat (go_big_quiet_step ((go_at_call 77; exact unhide HE _)))
  refine wpQuiet_nil ?_
  rintro _ ⟨nq, rfl⟩
  have HK1 := hide nq.kept
  go_wp2_with fail
  go_ret
  exact ⟨rfl, (unhide HB).trans (unhide HK1)⟩

set_option maxRecDepth 100000 in
set_option maxHeartbeats 2000000 in
theorem stmtJ2 (j : Nat) (f : Txt) (xv tv ev : Value) (hv : ∃ xo xn xc to tn tc eo en ec, xv = .slice xo xn xc ∧ tv = .slice to tn tc ∧ ev = .slice eo en ec) (R : Int) (w : World) (hj : j < w.heap.size) (h : StmtsAt w j)
    (hC : ∀ w', Keeps (fun _ => False) w w' → Calls Tryz.prog 78 #[.pointer (some ⟨j, 0, none⟩), stV 2 f xv tv ev] w' fun e w'' => e = .returned (.int .i64 R) ∧ Keeps (fun _ => False) w' w'') :
    Calls Tryz.prog 33 #[.pointer (some ⟨j, 0, none⟩), stV 2 f xv tv ev] w fun e w' => e = .returned (.int .i64 R) ∧ Keeps (fun _ => False) w w' := by
  obtain ⟨xo, xn, xc, to, tn, tc, eo, en, ec, rfl, rfl, rfl⟩ := hv
  obtain ⟨t2, h1, h2⟩ := h
  obtain ⟨HB, hxb, hxc⟩ := boxedT w #[.int .i64 2, str f, .slice xo xn xc, .slice to tn tc, .slice eo en ec] 53
  have ht := lt_of_block h2
  have e0 : ∀ m : KW (w.alloc (.cells #[.int .i64 2, str f, .slice xo xn xc, .slice to tn tc, .slice eo en ec] 53)), m.wd.cell? ⟨j, 2, none⟩ = some (.slice (some ⟨t2, 0, none⟩) 9 9) := fun m => (((unhide HB).trans m.kept).cell hj id).trans h1
  have e1 : ∀ m : KW (w.alloc (.cells #[.int .i64 2, str f, .slice xo xn xc, .slice to tn tc, .slice eo en ec] 53)), m.wd.cell? ⟨t2, 2, none⟩ = some (.func (.func 78) #[.pointer (some ⟨j, 0, none⟩)] #[]) := fun m => (((unhide HB).trans m.kept).cell ht id).trans (by rw [cell_of_blk h2]; rfl)
  have f0 : ∀ m : KW (w.alloc (.cells #[.int .i64 2, str f, .slice xo xn xc, .slice to tn tc, .slice eo en ec] 53)), m.wd.cell? ⟨w.heap.size, 0, none⟩ = some (.int .i64 2) := fun m => (m.kept.cell hxb id).trans (hxc 0 _ rfl)
  have f1 : ∀ m : KW (w.alloc (.cells #[.int .i64 2, str f, .slice xo xn xc, .slice to tn tc, .slice eo en ec] 53)), m.wd.cell? ⟨w.heap.size, 1, none⟩ = some (str f) := fun m => (m.kept.cell hxb id).trans (hxc 1 _ rfl)
  have f2 : ∀ m : KW (w.alloc (.cells #[.int .i64 2, str f, .slice xo xn xc, .slice to tn tc, .slice eo en ec] 53)), m.wd.cell? ⟨w.heap.size, 2, none⟩ = some (.slice xo xn xc) := fun m => (m.kept.cell hxb id).trans (hxc 2 _ rfl)
  have f3 : ∀ m : KW (w.alloc (.cells #[.int .i64 2, str f, .slice xo xn xc, .slice to tn tc, .slice eo en ec] 53)), m.wd.cell? ⟨w.heap.size, 3, none⟩ = some (.slice to tn tc) := fun m => (m.kept.cell hxb id).trans (hxc 3 _ rfl)
  have f4 : ∀ m : KW (w.alloc (.cells #[.int .i64 2, str f, .slice xo xn xc, .slice to tn tc, .slice eo en ec] 53)), m.wd.cell? ⟨w.heap.size, 4, none⟩ = some (.slice eo en ec) := fun m => (m.kept.cell hxb id).trans (hxc 4 _ rfl)
  have HE := hide (fun (m : KW (w.alloc (.cells #[.int .i64 2, str f, .slice xo xn xc, .slice to tn tc, .slice eo en ec] 53))) => kw_of m (hC m.wd ((unhide HB).trans m.kept)))
  clear hC hxc h1 h2
  go_enter Tryz.func33, Tryz.ntmps33
  go_wp2_with fail
  refine region_kept (by kernel_rfl) (by kernel_rfl) ?_
  repeat (go_big_quiet_step ((go_at_call 78; exact unhide HE _)))
  refine wpQuiet_nil ?_
  rintro _ ⟨nq, rfl⟩
  have HK1 := hide nq.kept
  go_wp2_with fail
  go_ret
  exact ⟨rfl, (unhide HB).trans (unhide HK1)⟩

set_option maxRecDepth 100000 in
set_option maxHeartbeats 2000000 in
theorem stmtJ3 (j : Nat) (f : Txt) (xv tv ev : Value) (hv : ∃ xo xn xc to tn tc eo en ec, xv = .slice xo xn xc ∧ tv = .slice to tn tc ∧ ev = .slice eo en ec) (R : Int) (w : World) (hj : j < w.heap.size) (h : StmtsAt w j)
    (hC : ∀ w', Keeps (fun _ => False) w w' → Calls Tryz.prog 78 #[.pointer (some ⟨j, 0, none⟩), stV 3 f xv tv ev] w' fun e w'' => e = .returned (.int .i64 R) ∧ Keeps (fun _ => False) w' w'') :
    Calls Tryz.prog 33 #[.pointer (some ⟨j, 0, none⟩), stV 3 f xv tv ev] w fun e w' => e = .returned (.int .i64 R) ∧ Keeps (fun _ => False) w w' := by
  obtain ⟨xo, xn, xc, to, tn, tc, eo, en, ec, rfl, rfl, rfl⟩ := hv
  obtain ⟨t2, h1, h2⟩ := h
  obtain ⟨HB, hxb, hxc⟩ := boxedT w #[.int .i64 3, str f, .slice xo xn xc, .slice to tn tc, .slice eo en ec] 53
  have ht := lt_of_block h2
  have e0 : ∀ m : KW (w.alloc (.cells #[.int .i64 3, str f, .slice xo xn xc, .slice to tn tc, .slice eo en ec] 53)), m.wd.cell? ⟨j, 2, none⟩ = some (.slice (some ⟨t2, 0, none⟩) 9 9) := fun m => (((unhide HB).trans m.kept).cell hj id).trans h1
  have e1 : ∀ m : KW (w.alloc (.cells #[.int .i64 3, str f, .slice xo xn xc, .slice to tn tc, .slice eo en ec] 53)), m.wd.cell? ⟨t2, 3, none⟩ = some (.func (.func 78) #[.pointer (some ⟨j, 0, none⟩)] #[]) := fun m => (((unhide HB).trans m.kept).cell ht id).trans (by rw [cell_of_blk h2]; rfl)
  have f0 : ∀ m : KW (w.alloc (.cells #[.int .i64 3, str f, .slice xo xn xc, .slice to tn tc, .slice eo en ec] 53)), m.wd.cell? ⟨w.heap.size, 0, none⟩ = some (.int .i64 3) := fun m => (m.kept.cell hxb id).trans (hxc 0 _ rfl)
  have f1 : ∀ m : KW (w.alloc (.cells #[.int .i64 3, str f, .slice xo xn xc, .slice to tn tc, .slice eo en ec] 53)), m.wd.cell? ⟨w.heap.size, 1, none⟩ = some (str f) := fun m => (m.kept.cell hxb id).trans (hxc 1 _ rfl)
  have f2 : ∀ m : KW (w.alloc (.cells #[.int .i64 3, str f, .slice xo xn xc, .slice to tn tc, .slice eo en ec] 53)), m.wd.cell? ⟨w.heap.size, 2, none⟩ = some (.slice xo xn xc) := fun m => (m.kept.cell hxb id).trans (hxc 2 _ rfl)
  have f3 : ∀ m : KW (w.alloc (.cells #[.int .i64 3, str f, .slice xo xn xc, .slice to tn tc, .slice eo en ec] 53)), m.wd.cell? ⟨w.heap.size, 3, none⟩ = some (.slice to tn tc) := fun m => (m.kept.cell hxb id).trans (hxc 3 _ rfl)
  have f4 : ∀ m : KW (w.alloc (.cells #[.int .i64 3, str f, .slice xo xn xc, .slice to tn tc, .slice eo en ec] 53)), m.wd.cell? ⟨w.heap.size, 4, none⟩ = some (.slice eo en ec) := fun m => (m.kept.cell hxb id).trans (hxc 4 _ rfl)
  have HE := hide (fun (m : KW (w.alloc (.cells #[.int .i64 3, str f, .slice xo xn xc, .slice to tn tc, .slice eo en ec] 53))) => kw_of m (hC m.wd ((unhide HB).trans m.kept)))
  clear hC hxc h1 h2
  go_enter Tryz.func33, Tryz.ntmps33
  go_wp2_with fail
  refine region_kept (by kernel_rfl) (by kernel_rfl) ?_
  repeat (go_big_quiet_step ((go_at_call 78; exact unhide HE _)))
  refine wpQuiet_nil ?_
  rintro _ ⟨nq, rfl⟩
  have HK1 := hide nq.kept
  go_wp2_with fail
  go_ret
  exact ⟨rfl, (unhide HB).trans (unhide HK1)⟩

set_option maxRecDepth 100000 in
set_option maxHeartbeats 2000000 in
theorem stmtJ4 (j : Nat) (f : Txt) (xv tv ev : Value) (hv : ∃ xo xn xc to tn tc eo en ec, xv = .slice xo xn xc ∧ tv = .slice to tn tc ∧ ev = .slice eo en ec) (R : Int) (w : World) (hj : j < w.heap.size) (h : StmtsAt w j)
    (hC : ∀ w', Keeps (fun _ => False) w w' → Calls Tryz.prog 78 #[.pointer (some ⟨j, 0, none⟩), stV 4 f xv tv ev] w' fun e w'' => e = .returned (.int .i64 R) ∧ Keeps (fun _ => False) w' w'') :
    Calls Tryz.prog 33 #[.pointer (some ⟨j, 0, none⟩), stV 4 f xv tv ev] w fun e w' => e = .returned (.int .i64 R) ∧ Keeps (fun _ => False) w w' := by
  obtain ⟨xo, xn, xc, to, tn, tc, eo, en, ec, rfl, rfl, rfl⟩ := hv
  obtain ⟨t2, h1, h2⟩ := h
  obtain ⟨HB, hxb, hxc⟩ := boxedT w #[.int .i64 4, str f, .slice xo xn xc, .slice to tn tc, .slice eo en ec] 53
  have ht := lt_of_block h2
  have e0 : ∀ m : KW (w.alloc (.cells #[.int .i64 4, str f, .slice xo xn xc, .slice to tn tc, .slice eo en ec] 53)), m.wd.cell? ⟨j, 2, none⟩ = some (.slice (some ⟨t2, 0, none⟩) 9 9) := fun m => (((unhide HB).trans m.kept).cell hj id).trans h1
  have e1 : ∀ m : KW (w.alloc (.cells #[.int .i64 4, str f, .slice xo xn xc, .slice to tn tc, .slice eo en ec] 53)), m.wd.cell? ⟨t2, 4, none⟩ = some (.func (.func 78) #[.pointer (some ⟨j, 0, none⟩)] #[]) := fun m => (((unhide HB).trans m.kept).cell ht id).trans (by rw [cell_of_blk h2]; rfl)
  have f0 : ∀ m : KW (w.alloc (.cells #[.int .i64 4, str f, .slice xo xn xc, .slice to tn tc, .slice eo en ec] 53)), m.wd.cell? ⟨w.heap.size, 0, none⟩ = some (.int .i64 4) := fun m => (m.kept.cell hxb id).trans (hxc 0 _ rfl)
  have f1 : ∀ m : KW (w.alloc (.cells #[.int .i64 4, str f, .slice xo xn xc, .slice to tn tc, .slice eo en ec] 53)), m.wd.cell? ⟨w.heap.size, 1, none⟩ = some (str f) := fun m => (m.kept.cell hxb id).trans (hxc 1 _ rfl)
  have f2 : ∀ m : KW (w.alloc (.cells #[.int .i64 4, str f, .slice xo xn xc, .slice to tn tc, .slice eo en ec] 53)), m.wd.cell? ⟨w.heap.size, 2, none⟩ = some (.slice xo xn xc) := fun m => (m.kept.cell hxb id).trans (hxc 2 _ rfl)
  have f3 : ∀ m : KW (w.alloc (.cells #[.int .i64 4, str f, .slice xo xn xc, .slice to tn tc, .slice eo en ec] 53)), m.wd.cell? ⟨w.heap.size, 3, none⟩ = some (.slice to tn tc) := fun m => (m.kept.cell hxb id).trans (hxc 3 _ rfl)
  have f4 : ∀ m : KW (w.alloc (.cells #[.int .i64 4, str f, .slice xo xn xc, .slice to tn tc, .slice eo en ec] 53)), m.wd.cell? ⟨w.heap.size, 4, none⟩ = some (.slice eo en ec) := fun m => (m.kept.cell hxb id).trans (hxc 4 _ rfl)
  have HE := hide (fun (m : KW (w.alloc (.cells #[.int .i64 4, str f, .slice xo xn xc, .slice to tn tc, .slice eo en ec] 53))) => kw_of m (hC m.wd ((unhide HB).trans m.kept)))
  clear hC hxc h1 h2
  go_enter Tryz.func33, Tryz.ntmps33
  go_wp2_with fail
  refine region_kept (by kernel_rfl) (by kernel_rfl) ?_
  repeat (go_big_quiet_step ((go_at_call 78; exact unhide HE _)))
  refine wpQuiet_nil ?_
  rintro _ ⟨nq, rfl⟩
  have HK1 := hide nq.kept
  go_wp2_with fail
  go_ret
  exact ⟨rfl, (unhide HB).trans (unhide HK1)⟩

set_option maxRecDepth 100000 in
set_option maxHeartbeats 2000000 in
theorem stmtJ5 (j : Nat) (f : Txt) (xv tv ev : Value) (hv : ∃ xo xn xc to tn tc eo en ec, xv = .slice xo xn xc ∧ tv = .slice to tn tc ∧ ev = .slice eo en ec) (R : Int) (w : World) (hj : j < w.heap.size) (h : StmtsAt w j)
    (hC : ∀ w', Keeps (fun _ => False) w w' → Calls Tryz.prog 79 #[.pointer (some ⟨j, 0, none⟩), stV 5 f xv tv ev] w' fun e w'' => e = .returned (.int .i64 R) ∧ Keeps (fun _ => False) w' w'') :
    Calls Tryz.prog 33 #[.pointer (some ⟨j, 0, none⟩), stV 5 f xv tv ev] w fun e w' => e = .returned (.int .i64 R) ∧ Keeps (fun _ => False) w w' := by
  obtain ⟨xo, xn, xc, to, tn, tc, eo, en, ec, rfl, rfl, rfl⟩ := hv
  obtain ⟨t2, h1, h2⟩ := h
  obtain ⟨HB, hxb, hxc⟩ := boxedT w #[.int .i64 5, str f, .slice xo xn xc, .slice to tn tc, .slice eo en ec] 53
  have ht := lt_of_block h2
  have e0 : ∀ m : KW (w.alloc (.cells #[.int .i64 5, str f, .slice xo xn xc, .slice to tn tc, .slice eo en ec] 53)), m.wd.cell? ⟨j, 2, none⟩ = some (.slice (some ⟨t2, 0, none⟩) 9 9) := fun m => (((unhide HB).trans m.kept).cell hj id).trans h1
  have e1 : ∀ m : KW (w.alloc (.cells #[.int .i64 5, str f, .slice xo xn xc, .slice to tn tc, .slice eo en ec] 53)), m.wd.cell? ⟨t2, 5, none⟩ = some (.func (.func 79) #[.pointer (some ⟨j, 0, none⟩)] #[]) := fun m => (((unhide HB).trans m.kept).cell ht id).trans (by rw [cell_of_blk h2]; rfl)
  have f0 : ∀ m : KW (w.alloc (.cells #[.int .i64 5, str f, .slice xo xn xc, .slice to tn tc, .slice eo en ec] 53)), m.wd.cell? ⟨w.heap.size, 0, none⟩ = some (.int .i64 5) := fun m => (m.kept.cell hxb id).trans (hxc 0 _ rfl)
  have f1 : ∀ m : KW (w.alloc (.cells #[.int .i64 5, str f, .slice xo xn xc, .slice to tn tc, .slice eo en ec] 53)), m.wd.cell? ⟨w.heap.size, 1, none⟩ = some (str f) := fun m => (m.kept.cell hxb id).trans (hxc 1 _ rfl)
  have f2 : ∀ m : KW (w.alloc (.cells #[.int .i64 5, str f, .slice xo xn xc, .slice to tn tc, .slice eo en ec] 53)), m.wd.cell? ⟨w.heap.size, 2, none⟩ = some (.slice xo xn xc) := fun m => (m.kept.cell hxb id).trans (hxc 2 _ rfl)
  have f3 : ∀ m : KW (w.alloc (.cells #[.int .i64 5, str f, .slice xo xn xc, .slice to tn tc, .slice eo en ec] 53)), m.wd.cell? ⟨w.heap.size, 3, none⟩ = some (.slice to tn tc) := fun m => (m.kept.cell hxb id).trans (hxc 3 _ rfl)
  have f4 : ∀ m : KW (w.alloc (.cells #[.int .i64 5, str f, .slice xo xn xc, .slice to tn tc, .slice eo en ec] 53)), m.wd.cell? ⟨w.heap.size, 4, none⟩ = some (.slice eo en ec) := fun m => (m.kept.cell hxb id).trans (hxc 4 _ rfl)
  have HE := hide (fun (m : KW (w.alloc (.cells #[.int .i64 5, str f, .slice xo xn xc, .slice to tn tc, .slice eo en ec] 53))) => kw_of m (hC m.wd ((unhide HB).trans m.kept)))
  clear hC hxc h1 h2
  go_enter Tryz.func33, Tryz.ntmps33
  go_wp2_with fail
  refine region_kept (by kernel_rfl) (by kernel_rfl) ?_
  repeat (go_big_quiet_step ((go_at_call 79; exact unhide HE _)))
  refine wpQuiet_nil ?_
  rintro _ ⟨nq, rfl⟩
  have HK1 := hide nq.kept
  go_wp2_with fail
  go_ret
  exact ⟨rfl, (unhide HB).trans (unhide HK1)⟩

set_option maxRecDepth 100000 in
set_option maxHeartbeats 2000000 in
theorem stmtJ6 (j : Nat) (f : Txt) (xv tv ev : Value) (hv : ∃ xo xn xc to tn tc eo en ec, xv = .slice xo xn xc ∧ tv = .slice to tn tc ∧ ev = .slice eo en ec) (R : Int) (w : World) (hj : j < w.heap.size) (h : StmtsAt w j)
    (hC : ∀ w', Keeps (fun _ => False) w w' → Calls Tryz.prog 80 #[stV 6 f xv tv ev] w' fun e w'' => e = .returned (.int .i64 R) ∧ Keeps (fun _ => False) w' w'') :
    Calls Tryz.prog 33 #[.pointer (some ⟨j, 0, none⟩), stV 6 f xv tv ev] w fun e w' => e = .returned (.int .i64 R) ∧ Keeps (fun _ => False) w w' := by
  obtain ⟨xo, xn, xc, to, tn, tc, eo, en, ec, rfl, rfl, rfl⟩ := hv
  obtain ⟨t2, h1, h2⟩ := h
  obtain ⟨HB, hxb, hxc⟩ := boxedT w #[.int .i64 6, str f, .slice xo xn xc, .slice to tn tc, .slice eo en ec] 53
  have ht := lt_of_block h2
  have e0 : ∀ m : KW (w.alloc (.cells #[.int .i64 6, str f, .slice xo xn xc, .slice to tn tc, .slice eo en ec] 53)), m.wd.cell? ⟨j, 2, none⟩ = some (.slice (some ⟨t2, 0, none⟩) 9 9) := fun m => (((unhide HB).trans m.kept).cell hj id).trans h1
  have e1 : ∀ m : KW (w.alloc (.cells #[.int .i64 6, str f, .slice xo xn xc, .slice to tn tc, .slice eo en ec] 53)), m.wd.cell? ⟨t2, 6, none⟩ = some (.func (.func 80) #[] #[]) := fun m => (((unhide HB).trans m.kept).cell ht id).trans (by rw [cell_of_blk h2]; rfl)
  have f0 : ∀ m : KW (w.alloc (.cells #[.int .i64 6, str f, .slice xo xn xc, .slice to tn tc, .slice eo en ec] 53)), m.wd.cell? ⟨w.heap.size, 0, none⟩ = some (.int .i64 6) := fun m => (m.kept.cell hxb id).trans (hxc 0 _ rfl)
  have f1 : ∀ m : KW (w.alloc (.cells #[.int .i64 6, str f, .slice xo xn xc, .slice to tn tc, .slice eo en ec] 53)), m.wd.cell? ⟨w.heap.size, 1, none⟩ = some (str f) := fun m => (m.kept.cell hxb id).trans (hxc 1 _ rfl)
  have f2 : ∀ m : KW (w.alloc (.cells #[.int .i64 6, str f, .slice xo xn xc, .slice to tn tc, .slice eo en ec] 53)), m.wd.cell? ⟨w.heap.size, 2, none⟩ = some (.slice xo xn xc) := fun m => (m.kept.cell hxb id).trans (hxc 2 _ rfl)
  have f3 : ∀ m : KW (w.alloc (.cells #[.int .i64 6, str f, .slice xo xn xc, .slice to tn tc, .slice eo en ec] 53)), m.wd.cell? ⟨w.heap.size, 3, none⟩ = some (.slice to tn tc) := fun m => (m.kept.cell hxb id).trans (hxc 3 _ rfl)
  have f4 : ∀ m : KW (w.alloc (.cells #[.int .i64 6, str f, .slice xo xn xc, .slice to tn tc, .slice eo en ec] 53)), m.wd.cell? ⟨w.heap.size, 4, none⟩ = some (.slice eo en ec) := fun m => (m.kept.cell hxb id).trans (hxc 4 _ rfl)
  have HE := hide (fun (m : KW (w.alloc (.cells #[.int .i64 6, str f, .slice xo xn xc, .slice to tn tc, .slice eo en ec] 53))) => kw_of m (hC m.wd ((unhide HB).trans m.kept)))
  clear hC hxc h1 h2
  go_enter Tryz.func33, Tryz.ntmps33
  go_wp2_with fail
  refine region_kept (by kernel_rfl) (by kernel_rfl) ?_
  repeat (go_big_quiet_step ((go_at_call 80; exact unhide HE _)))
  refine wpQuiet_nil ?_
  rintro _ ⟨nq, rfl⟩
  have HK1 := hide nq.kept
  go_wp2_with fail
  go_ret
  exact ⟨rfl, (unhide HB).trans (unhide HK1)⟩

set_option maxRecDepth 100000 in
set_option maxHeartbeats 2000000 in
theorem stmtJ7 (j : Nat) (f : Txt) (xv tv ev : Value) (hv : ∃ xo xn xc to tn tc eo en ec, xv = .slice xo xn xc ∧ tv = .slice to tn tc ∧ ev = .slice eo en ec) (R : Int) (w : World) (hj : j < w.heap.size) (h : StmtsAt w j)
    (hC : ∀ w', Keeps (fun _ => False) w w' → Calls Tryz.prog 80 #[stV 7 f xv tv ev] w' fun e w'' => e = .returned (.int .i64 R) ∧ Keeps (fun _ => False) w' w'') :
    Calls Tryz.prog 33 #[.pointer (some ⟨j, 0, none⟩), stV 7 f xv tv ev] w fun e w' => e = .returned (.int .i64 R) ∧ Keeps (fun _ => False) w w' := by
  obtain ⟨xo, xn, xc, to, tn, tc, eo, en, ec, rfl, rfl, rfl⟩ := hv
  obtain ⟨t2, h1, h2⟩ := h
  obtain ⟨HB, hxb, hxc⟩ := boxedT w #[.int .i64 7, str f, .slice xo xn xc, .slice to tn tc, .slice eo en ec] 53
  have ht := lt_of_block h2
  have e0 : ∀ m : KW (w.alloc (.cells #[.int .i64 7, str f, .slice xo xn xc, .slice to tn tc, .slice eo en ec] 53)), m.wd.cell? ⟨j, 2, none⟩ = some (.slice (some ⟨t2, 0, none⟩) 9 9) := fun m => (((unhide HB).trans m.kept).cell hj id).trans h1
  have e1 : ∀ m : KW (w.alloc (.cells #[.int .i64 7, str f, .slice xo xn xc, .slice to tn tc, .slice eo en ec] 53)), m.wd.cell? ⟨t2, 7, none⟩ = some (.func (.func 80) #[] #[]) := fun m => (((unhide HB).trans m.kept).cell ht id).trans (by rw [cell_of_blk h2]; rfl)
  have f0 : ∀ m : KW (w.alloc (.cells #[.int .i64 7, str f, .slice xo xn xc, .slice to tn tc, .slice eo en ec] 53)), m.wd.cell? ⟨w.heap.size, 0, none⟩ = some (.int .i64 7) := fun m => (m.kept.cell hxb id).trans (hxc 0 _ rfl)
  have f1 : ∀ m : KW (w.alloc (.cells #[.int .i64 7, str f, .slice xo xn xc, .slice to tn tc, .slice eo en ec] 53)), m.wd.cell? ⟨w.heap.size, 1, none⟩ = some (str f) := fun m => (m.kept.cell hxb id).trans (hxc 1 _ rfl)
  have f2 : ∀ m : KW (w.alloc (.cells #[.int .i64 7, str f, .slice xo xn xc, .slice to tn tc, .slice eo en ec] 53)), m.wd.cell? ⟨w.heap.size, 2, none⟩ = some (.slice xo xn xc) := fun m => (m.kept.cell hxb id).trans (hxc 2 _ rfl)
  have f3 : ∀ m : KW (w.alloc (.cells #[.int .i64 7, str f, .slice xo xn xc, .slice to tn tc, .slice eo en ec] 53)), m.wd.cell? ⟨w.heap.size, 3, none⟩ = some (.slice to tn tc) := fun m => (m.kept.cell hxb id).trans (hxc 3 _ rfl)
  have f4 : ∀ m : KW (w.alloc (.cells #[.int .i64 7, str f, .slice xo xn xc, .slice to tn tc, .slice eo en ec] 53)), m.wd.cell? ⟨w.heap.size, 4, none⟩ = some (.slice eo en ec) := fun m => (m.kept.cell hxb id).trans (hxc 4 _ rfl)
  have HE := hide (fun (m : KW (w.alloc (.cells #[.int .i64 7, str f, .slice xo xn xc, .slice to tn tc, .slice eo en ec] 53))) => kw_of m (hC m.wd ((unhide HB).trans m.kept)))
  clear hC hxc h1 h2
  go_enter Tryz.func33, Tryz.ntmps33
  go_wp2_with fail
  refine region_kept (by kernel_rfl) (by kernel_rfl) ?_
  repeat (go_big_quiet_step ((go_at_call 80; exact unhide HE _)))
  refine wpQuiet_nil ?_
  rintro _ ⟨nq, rfl⟩
  have HK1 := hide nq.kept
  go_wp2_with fail
  go_ret
  exact ⟨rfl, (unhide HB).trans (unhide HK1)⟩

set_option maxRecDepth 100000 in
set_option maxHeartbeats 2000000 in
theorem stmtJ8 (j : Nat) (f : Txt) (xv tv ev : Value) (hv : ∃ xo xn xc to tn tc eo en ec, xv = .slice xo xn xc ∧ tv = .slice to tn tc ∧ ev = .slice eo en ec) (R : Int) (w : World) (hj : j < w.heap.size) (h : StmtsAt w j)
    (hC : ∀ w', Keeps (fun _ => False) w w' → Calls Tryz.prog 81 #[.pointer (some ⟨j, 0, none⟩), stV 8 f xv tv ev] w' fun e w'' => e = .returned (.int .i64 R) ∧ Keeps (fun _ => False) w' w'') :
    Calls Tryz.prog 33 #[.pointer (some ⟨j, 0, none⟩), stV 8 f xv tv ev] w fun e w' => e = .returned (.int .i64 R) ∧ Keeps (fun _ => False) w w' := by
  obtain ⟨xo, xn, xc, to, tn, tc, eo, en, ec, rfl, rfl, rfl⟩ := hv
  obtain ⟨t2, h1, h2⟩ := h
  obtain ⟨HB, hxb, hxc⟩ := boxedT w #[.int .i64 8, str f, .slice xo xn xc, .slice to tn tc, .slice eo en ec] 53
  have ht := lt_of_block h2
  have e0 : ∀ m : KW (w.alloc (.cells #[.int .i64 8, str f, .slice xo xn xc, .slice to tn tc, .slice eo en ec] 53)), m.wd.cell? ⟨j, 2, none⟩ = some (.slice (some ⟨t2, 0, none⟩) 9 9) := fun m => (((unhide HB).trans m.kept).cell hj id).trans h1
  have e1 : ∀ m : KW (w.alloc (.cells #[.int .i64 8, str f, .slice xo xn xc, .slice to tn tc, .slice eo en ec] 53)), m.wd.cell? ⟨t2, 8, none⟩ = some (.func (.func 81) #[.pointer (some ⟨j, 0, none⟩)] #[]) := fun m => (((unhide HB).trans m.kept).cell ht id).trans (by rw [cell_of_blk h2]; rfl)
  have f0 : ∀ m : KW (w.alloc (.cells #[.int .i64 8, str f, .slice xo xn xc, .slice to tn tc, .slice eo en ec] 53)), m.wd.cell? ⟨w.heap.size, 0, none⟩ = some (.int .i64 8) := fun m => (m.kept.cell hxb id).trans (hxc 0 _ rfl)
  have f1 : ∀ m : KW (w.alloc (.cells #[.int .i64 8, str f, .slice xo xn xc, .slice to tn tc, .slice eo en ec] 53)), m.wd.cell? ⟨w.heap.size, 1, none⟩ = some (str f) := fun m => (m.kept.cell hxb id).trans (hxc 1 _ rfl)
  have f2 : ∀ m : KW (w.alloc (.cells #[.int .i64 8, str f, .slice xo xn xc, .slice to tn tc, .slice eo en ec] 53)), m.wd.cell? ⟨w.heap.size, 2, none⟩ = some (.slice xo xn xc) := fun m => (m.kept.cell hxb id).trans (hxc 2 _ rfl)
  have f3 : ∀ m : KW (w.alloc (.cells #[.int .i64 8, str f, .slice xo xn xc, .slice to tn tc, .slice eo en ec] 53)), m.wd.cell? ⟨w.heap.size, 3, none⟩ = some (.slice to tn tc) := fun m => (m.kept.cell hxb id).trans (hxc 3 _ rfl)
  have f4 : ∀ m : KW (w.alloc (.cells #[.int .i64 8, str f, .slice xo xn xc, .slice to tn tc, .slice eo en ec] 53)), m.wd.cell? ⟨w.heap.size, 4, none⟩ = some (.slice eo en ec) := fun m => (m.kept.cell hxb id).trans (hxc 4 _ rfl)
  have HE := hide (fun (m : KW (w.alloc (.cells #[.int .i64 8, str f, .slice xo xn xc, .slice to tn tc, .slice eo en ec] 53))) => kw_of m (hC m.wd ((unhide HB).trans m.kept)))
  clear hC hxc h1 h2
  go_enter Tryz.func33, Tryz.ntmps33
  go_wp2_with fail
  refine region_kept (by kernel_rfl) (by kernel_rfl) ?_
  repeat (go_big_quiet_step ((go_at_call 81; exact unhide HE _)))
  refine wpQuiet_nil ?_
  rintro _ ⟨nq, rfl⟩
  have HK1 := hide nq.kept
  go_wp2_with fail
  go_ret
  exact ⟨rfl, (unhide HB).trans (unhide HK1)⟩
end Go.Proofs.YtoempeobaknkcaaGreatDoor
