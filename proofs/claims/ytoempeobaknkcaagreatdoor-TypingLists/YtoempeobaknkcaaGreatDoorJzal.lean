import Derived.Test.YtoempeobaknkcaaGreatDoorJzak
namespace Go.Proofs.YtoempeobaknkcaaGreatDoor
open Go.RowKit Go.Maps

theorem StmtsAt.keepF {w w' : World} {j : Nat} (h : StmtsAt w j) (hj : j < w.heap.size) (hk : Keeps (fun _ => False) w w') : StmtsAt w' j := by
  obtain ⟨t2, h1, h2⟩ := h
  exact ⟨t2, (hk.cell hj id).trans h1, (hk.block _ (lt_of_block h2) id).trans h2⟩

set_option maxRecDepth 100000 in
set_option maxHeartbeats 2000000 in
theorem stmtJ1 (j : Nat) (f : Txt) (xv tv ev : Value) (hv : ∃ xo xn xc to tn tc eo en ec, xv = .slice xo xn xc ∧ tv = .slice to tn tc ∧ ev = .slice eo en ec) (R : Int) (w : World) (hj : j < w.heap.size) (h : StmtsAt w j)
    (hC : ∀ w', Keeps (fun _ => False) w w' → Calls Tryz.prog 77 #[.pointer (some ⟨j, 0, none⟩), stV 1 f xv tv ev] w' fun e w'' => e = .returned (.int .i64 R) ∧ Keeps (fun _ => False) w' w'') :
    Calls Tryz.prog 33 #[.pointer (some ⟨j, 0, none⟩), stV 1 f xv tv ev] w fun e w' => e = .returned (.int .i64 R) ∧ Keeps (fun _ => False) w w' := by
  obtain ⟨xo, xn, xc, to, tn, tc, eo, en, ec, rfl, rfl, rfl⟩ := hv
  obtain ⟨t2, h1, h2⟩ := h
  obtain ⟨HB, hxb, hxc⟩ := boxedT w #[.int .i64 1, str f, .slice xo xn xc, .slice to tn tc, .slice eo en ec] 53
  have ht := lt_of_block h2
  have e0 : ∀ m : KW (w.alloc (.cells #[.int .i64 1, str f, .slice xo xn xc, .slice to tn tc, .slice eo en ec] 53)), m.wd.cell? ⟨j, 2, none⟩ = some (.slice (some ⟨t2, 0, none⟩) 9 9) := fun m => (((unhide HB).trans m.kept).cell hj id).trans h1
  have e1 : ∀ m : KW (w.alloc (.cells #[.int .i64 1, str f, .slice xo xn xc, .slice to tn tc, .slice eo en ec] 53)), m.wd.cell? ⟨t2, 1, none⟩ = some (.func (.func 77) #[.pointer (some ⟨j, 0, none⟩)] #[]) := fun m => (((unhide HB).trans m.kept).cell ht id).trans (by rw [cell_of_blk h2]; rfl)
  have f0 : ∀ m : KW (w.alloc (.cells #[.int .i64 1, str f, .slice xo xn xc, .slice to tn tc, .slice eo en ec] 53)), m.wd.cell? ⟨w.heap.size, 0, none⟩ = some (.int .i64 1) := fun m => (m.kept.cell hxb id).trans (hxc 0 _ rfl)
  have f1 : ∀ m : KW (w.alloc (.cells #[.int .i64 1, str f, .slice xo xn xc, .slice to tn tc, .slice eo en ec] 53)), m.wd.cell? ⟨w.heap.size, 1, none⟩ = some (str f) := fun m => (m.kept.cell hxb id).trans (hxc 1 _ rfl)
  have f2 : ∀ m : KW (w.alloc (.cells #[.int .i64 1, str f, .slice xo xn xc, .slice to tn tc, .slice eo en ec] 53)), m.wd.cell? ⟨w.heap.size, 2, none⟩ = some (.slice xo xn xc) := fun m => (m.kept.cell hxb id).trans (hxc 2 _ rfl)
  have f3 : ∀ m : KW (w.alloc (.cells #[.int .i64 1, str f, .slice xo xn xc, .slice to tn tc, .slice eo en ec] 53)), m.wd.cell? ⟨w.heap.size, 3, none⟩ = some (.slice to tn tc) := fun m => (m.kept.cell hxb id).trans (hxc 3 _ rfl)
  have f4 : ∀ m : KW (w.alloc (.cells #[.int .i64 1, str f, .slice xo xn xc, .slice to tn tc, .slice eo en ec] 53)), m.wd.cell? ⟨w.heap.size, 4, none⟩ = some (.slice eo en ec) := fun m => (m.kept.cell hxb id).trans (hxc 4 _ rfl)
  have HE := hide (fun (m : KW (w.alloc (.cells #[.int .i64 1, str f, .slice xo xn xc, .slice to tn tc, .slice eo en ec] 53))) => kw_of m (hC m.wd ((unhide HB).trans m.kept)))
  clear hC hxc h1 h2
  go_enter Tryz.func33, Tryz.ntmps33
  go_wp2_with fail
  refine region_kept (by kernel_rfl) (by kernel_rfl) ?_
  repeat (go_big_quiet_step ((go_at_call 77; exact unhide HE _)))
  refine wpQuiet_nil ?_
  rintro _ ⟨nq, rfl⟩
  have HK1 := hide nq.kept
  go_wp2_with fail
  go_ret
  exact ⟨rfl, (unhide HB).trans (unhide HK1)⟩

set_option maxRecDepth 100000 in
set_option maxHeartbeats 2000000 in
theorem stmtJ2 (j : Nat) (f : Txt) (xv tv ev : Value) (hv : ∃ xo xn xc to tn tc eo en ec, xv = .slice xo xn xc ∧ tv = .slice to tn tc ∧ ev = .slice eo en ec) (R : Int) (w : World) (hj : j < w.heap.size) (h : StmtsAt w j)
    (hC : ∀ w', Keeps (fun _ => False) w w' → Calls Tryz.prog 78 #[.pointer (some ⟨j, 0, none⟩), stV 2 f xv tv ev] w' fun e w'' => e = .returned (.int .i64 R) ∧ Keeps (fun _ => False) w' w'') :
    Calls Tryz.prog 33 #[.pointer (some ⟨j, 0, none⟩), stV 2 f xv tv ev] w fun e w' => e = .returned (.int .i64 R) ∧ Keeps (fun _ => False) w w' := by
  obtain ⟨xo, xn, xc, to, tn, tc, eo, en, ec, rfl, rfl, rfl⟩ := hv
  obtain ⟨t2, h1, h2⟩ := h
  obtain ⟨HB, hxb, hxc⟩ := boxedT w #[.int .i64 2, str f, .slice xo xn xc, .slice to tn tc, .slice eo en ec] 53
  have ht := lt_of_block h2
  have e0 : ∀ m : KW (w.alloc (.cells #[.int .i64 2, str f, .slice xo xn xc, .slice to tn tc, .slice eo en ec] 53)), m.wd.cell? ⟨j, 2, none⟩ = some (.slice (some ⟨t2, 0, none⟩) 9 9) := fun m => (((unhide HB).trans m.kept).cell hj id).trans h1
  have e1 : ∀ m : KW (w.alloc (.cells #[.int .i64 2, str f, .slice xo xn xc, .slice to tn tc, .slice eo en ec] 53)), m.wd.cell? ⟨t2, 2, none⟩ = some (.func (.func 78) #[.pointer (some ⟨j, 0, none⟩)] #[]) := fun m => (((unhide HB).trans m.kept).cell ht id).trans (by rw [cell_of_blk h2]; rfl)
  have f0 : ∀ m : KW (w.alloc (.cells #[.int .i64 2, str f, .slice xo xn xc, .slice to tn tc, .slice eo en ec] 53)), m.wd.cell? ⟨w.heap.size, 0, none⟩ = some (.int .i64 2) := fun m => (m.kept.cell hxb id).trans (hxc 0 _ rfl)
  have f1 : ∀ m : KW (w.alloc (.cells #[.int .i64 2, str f, .slice xo xn xc, .slice to tn tc, .slice eo en ec] 53)), m.wd.cell? ⟨w.heap.size, 1, none⟩ = some (str f) := fun m => (m.kept.cell hxb id).trans (hxc 1 _ rfl)
  have f2 : ∀ m : KW (w.alloc (.cells #[.int .i64 2, str f, .slice xo xn xc, .slice to tn tc, .slice eo en ec] 53)), m.wd.cell? ⟨w.heap.size, 2, none⟩ = some (.slice xo xn xc) := fun m => (m.kept.cell hxb id).trans (hxc 2 _ rfl)
  have f3 : ∀ m : KW (w.alloc (.cells #[.int .i64 2, str f, .slice xo xn xc, .slice to tn tc, .slice eo en ec] 53)), m.wd.cell? ⟨w.heap.size, 3, none⟩ = some (.slice to tn tc) := fun m => (m.kept.cell hxb id).trans (hxc 3 _ rfl)
  have f4 : ∀ m : KW (w.alloc (.cells #[.int .i64 2, str f, .slice xo xn xc, .slice to tn tc, .slice eo en ec] 53)), m.wd.cell? ⟨w.heap.size, 4, none⟩ = some (.slice eo en ec) := fun m => (m.kept.cell hxb id).trans (hxc 4 _ rfl)
  have HE := hide (fun (m : KW (w.alloc (.cells #[.int .i64 2, str f, .slice xo xn xc, .slice to tn tc, .slice eo en ec] 53))) => kw_of m (hC m.wd ((unhide HB).trans m.kept)))
  clear hC hxc h1 h2
  go_enter Tryz.func33, Tryz.ntmps33
  go_wp2_with fail
  refine region_kept (by kernel_rfl) (by kernel_rfl) ?_
  repeat (go_big_quiet_step ((go_at_call 78; exact unhide HE _)))
  refine wpQuiet_nil ?_
  rintro _ ⟨nq, rfl⟩
  have HK1 := hide nq.kept
  go_wp2_with fail
  go_ret
  exact ⟨rfl, (unhide HB).trans (unhide HK1)⟩

set_option maxRecDepth 100000 in
set_option maxHeartbeats 2000000 in
theorem stmtJ3 (j : Nat) (f : Txt) (xv tv ev : Value) (hv : ∃ xo xn xc to tn tc eo en ec, xv = .slice xo xn xc ∧ tv = .slice to tn tc ∧ ev = .slice eo en ec) (R : Int) (w : World) (hj : j < w.heap.size) (h : StmtsAt w j)
    (hC : ∀ w', Keeps (fun _ => False) w w' → Calls Tryz.prog 78 #[.pointer (some ⟨j, 0, none⟩), stV 3 f xv tv ev] w' fun e w'' => e = .returned (.int .i64 R) ∧ Keeps (fun _ => False) w' w'') :
    Calls Tryz.prog 33 #[.pointer (some ⟨j, 0, none⟩), stV 3 f xv tv ev] w fun e w' => e = .returned (.int .i64 R) ∧ Keeps (fun _ => False) w w' := by
  obtain ⟨xo, xn, xc, to, tn, tc, eo, en, ec, rfl, rfl, rfl⟩ := hv
  obtain ⟨t2, h1, h2⟩ := h
  obtain ⟨HB, hxb, hxc⟩ := boxedT w #[.int .i64 3, str f, .slice xo xn xc, .slice to tn tc, .slice eo en ec] 53
  have ht := lt_of_block h2
  have e0 : ∀ m : KW (w.alloc (.cells #[.int .i64 3, str f, .slice xo xn xc, .slice to tn tc, .slice eo en ec] 53)), m.wd.cell? ⟨j, 2, none⟩ = some (.slice (some ⟨t2, 0, none⟩) 9 9) := fun m => (((unhide HB).trans m.kept).cell hj id).trans h1
  have e1 : ∀ m : KW (w.alloc (.cells #[.int .i64 3, str f, .slice xo xn xc, .slice to tn tc, .slice eo en ec] 53)), m.wd.cell? ⟨t2, 3, none⟩ = some (.func (.func 78) #[.pointer (some ⟨j, 0, none⟩)] #[]) := fun m => (((unhide HB).trans m.kept).cell ht id).trans (by rw [cell_of_blk h2]; rfl)
  have f0 : ∀ m : KW (w.alloc (.cells #[.int .i64 3, str f, .slice xo xn xc, .slice to tn tc, .slice eo en ec] 53)), m.wd.cell? ⟨w.heap.size, 0, none⟩ = some (.int .i64 3) := fun m => (m.kept.cell hxb id).trans (hxc 0 _ rfl)
  have f1 : ∀ m : KW (w.alloc (.cells #[.int .i64 3, str f, .slice xo xn xc, .slice to tn tc, .slice eo en ec] 53)), m.wd.cell? ⟨w.heap.size, 1, none⟩ = some (str f) := fun m => (m.kept.cell hxb id).trans (hxc 1 _ rfl)
  have f2 : ∀ m : KW (w.alloc (.cells #[.int .i64 3, str f, .slice xo xn xc, .slice to tn tc, .slice eo en ec] 53)), m.wd.cell? ⟨w.heap.size, 2, none⟩ = some (.slice xo xn xc) := fun m => (m.kept.cell hxb id).trans (hxc 2 _ rfl)
  have f3 : ∀ m : KW (w.alloc (.cells #[.int .i64 3, str f, .slice xo xn xc, .slice to tn tc, .slice eo en ec] 53)), m.wd.cell? ⟨w.heap.size, 3, none⟩ = some (.slice to tn tc) := fun m => (m.kept.cell hxb id).trans (hxc 3 _ rfl)
  have f4 : ∀ m : KW (w.alloc (.cells #[.int .i64 3, str f, .slice xo xn xc, .slice to tn tc, .slice eo en ec] 53)), m.wd.cell? ⟨w.heap.size, 4, none⟩ = some (.slice eo en ec) := fun m => (m.kept.cell hxb id).trans (hxc 4 _ rfl)
  have HE := hide (fun (m : KW (w.alloc (.cells #[.int .i64 3, str f, .slice xo xn xc, .slice to tn tc, .slice eo en ec] 53))) => kw_of m (hC m.wd ((unhide HB).trans m.kept)))
  clear hC hxc h1 h2
  go_enter Tryz.func33, Tryz.ntmps33
  go_wp2_with fail
  refine region_kept (by kernel_rfl) (by kernel_rfl) ?_
  repeat (go_big_quiet_step ((go_at_call 78; exact unhide HE _)))
  refine wpQuiet_nil ?_
  rintro _ ⟨nq, rfl⟩
  have HK1 := hide nq.kept
  go_wp2_with fail
  go_ret
  exact ⟨rfl, (unhide HB).trans (unhide HK1)⟩

set_option maxRecDepth 100000 in
set_option maxHeartbeats 2000000 in
theorem stmtJ4 (j : Nat) (f : Txt) (xv tv ev : Value) (hv : ∃ xo xn xc to tn tc eo en ec, xv = .slice xo xn xc ∧ tv = .slice to tn tc ∧ ev = .slice eo en ec) (R : Int) (w : World) (hj : j < w.heap.size) (h : StmtsAt w j)
    (hC : ∀ w', Keeps (fun _ => False) w w' → Calls Tryz.prog 78 #[.pointer (some ⟨j, 0, none⟩), stV 4 f xv tv ev] w' fun e w'' => e = .returned (.int .i64 R) ∧ Keeps (fun _ => False) w' w'') :
    Calls Tryz.prog 33 #[.pointer (some ⟨j, 0, none⟩), stV 4 f xv tv ev] w fun e w' => e = .returned (.int .i64 R) ∧ Keeps (fun _ => False) w w' := by
  obtain ⟨xo, xn, xc, to, tn, tc, eo, en, ec, rfl, rfl, rfl⟩ := hv
  obtain ⟨t2, h1, h2⟩ := h
  obtain ⟨HB, hxb, hxc⟩ := boxedT w #[.int .i64 4, str f, .slice xo xn xc, .slice to tn tc, .slice eo en ec] 53
  have ht := lt_of_block h2
  have e0 : ∀ m : KW (w.alloc (.cells #[.int .i64 4, str f, .slice xo xn xc, .slice to tn tc, .slice eo en ec] 53)), m.wd.cell? ⟨j, 2, none⟩ = some (.slice (some ⟨t2, 0, none⟩) 9 9) := fun m => (((unhide HB).trans m.kept).cell hj id).trans h1
  have e1 : ∀ m : KW (w.alloc (.cells #[.int .i64 4, str f, .slice xo xn xc, .slice to tn tc, .slice eo en ec] 53)), m.wd.cell? ⟨t2, 4, none⟩ = some (.func (.func 78) #[.pointer (some ⟨j, 0, none⟩)] #[]) := fun m => (((unhide HB).trans m.kept).cell ht id).trans (by rw [cell_of_blk h2]; rfl)
  have f0 : ∀ m : KW (w.alloc (.cells #[.int .i64 4, str f, .slice xo xn xc, .slice to tn tc, .slice eo en ec] 53)), m.wd.cell? ⟨w.heap.size, 0, none⟩ = some (.int .i64 4) := fun m => (m.kept.cell hxb id).trans (hxc 0 _ rfl)
  have f1 : ∀ m : KW (w.alloc (.cells #[.int .i64 4, str f, .slice xo xn xc, .slice to tn tc, .slice eo en ec] 53)), m.wd.cell? ⟨w.heap.size, 1, none⟩ = some (str f) := fun m => (m.kept.cell hxb id).trans (hxc 1 _ rfl)
  have f2 : ∀ m : KW (w.alloc (.cells #[.int .i64 4, str f, .slice xo xn xc, .slice to tn tc, .slice eo en ec] 53)), m.wd.cell? ⟨w.heap.size, 2, none⟩ = some (.slice xo xn xc) := fun m => (m.kept.cell hxb id).trans (hxc 2 _ rfl)
  have f3 : ∀ m : KW (w.alloc (.cells #[.int .i64 4, str f, .slice xo xn xc, .slice to tn tc, .slice eo en ec] 53)), m.wd.cell? ⟨w.heap.size, 3, none⟩ = some (.slice to tn tc) := fun m => (m.kept.cell hxb id).trans (hxc 3 _ rfl)
  have f4 : ∀ m : KW (w.alloc (.cells #[.int .i64 4, str f, .slice xo xn xc, .slice to tn tc, .slice eo en ec] 53)), m.wd.cell? ⟨w.heap.size, 4, none⟩ = some (.slice eo en ec) := fun m => (m.kept.cell hxb id).trans (hxc 4 _ rfl)
  have HE := hide (fun (m : KW (w.alloc (.cells #[.int .i64 4, str f, .slice xo xn xc, .slice to tn tc, .slice eo en ec] 53))) => kw_of m (hC m.wd ((unhide HB).trans m.kept)))
  clear hC hxc h1 h2
  go_enter Tryz.func33, Tryz.ntmps33
  go_wp2_with fail
  refine region_kept (by kernel_rfl) (by kernel_rfl) ?_
  repeat (go_big_quiet_step ((go_at_call 78; exact unhide HE _)))
  refine wpQuiet_nil ?_
  rintro _ ⟨nq, rfl⟩
  have HK1 := hide nq.kept
  go_wp2_with fail
  go_ret
  exact ⟨rfl, (unhide HB).trans (unhide HK1)⟩

set_option maxRecDepth 100000 in
set_option maxHeartbeats 2000000 in
theorem stmtJ5 (j : Nat) (f : Txt) (xv tv ev : Value) (hv : ∃ xo xn xc to tn tc eo en ec, xv = .slice xo xn xc ∧ tv = .slice to tn tc ∧ ev = .slice eo en ec) (R : Int) (w : World) (hj : j < w.heap.size) (h : StmtsAt w j)
    (hC : ∀ w', Keeps (fun _ => False) w w' → Calls Tryz.prog 79 #[.pointer (some ⟨j, 0, none⟩), stV 5 f xv tv ev] w' fun e w'' => e = .returned (.int .i64 R) ∧ Keeps (fun _ => False) w' w'') :
    Calls Tryz.prog 33 #[.pointer (some ⟨j, 0, none⟩), stV 5 f xv tv ev] w fun e w' => e = .returned (.int .i64 R) ∧ Keeps (fun _ => False) w w' := by
  obtain ⟨xo, xn, xc, to, tn, tc, eo, en, ec, rfl, rfl, rfl⟩ := hv
  obtain ⟨t2, h1, h2⟩ := h
  obtain ⟨HB, hxb, hxc⟩ := boxedT w #[.int .i64 5, str f, .slice xo xn xc, .slice to tn tc, .slice eo en ec] 53
  have ht := lt_of_block h2
  have e0 : ∀ m : KW (w.alloc (.cells #[.int .i64 5, str f, .slice xo xn xc, .slice to tn tc, .slice eo en ec] 53)), m.wd.cell? ⟨j, 2, none⟩ = some (.slice (some ⟨t2, 0, none⟩) 9 9) := fun m => (((unhide HB).trans m.kept).cell hj id).trans h1
  have e1 : ∀ m : KW (w.alloc (.cells #[.int .i64 5, str f, .slice xo xn xc, .slice to tn tc, .slice eo en ec] 53)), m.wd.cell? ⟨t2, 5, none⟩ = some (.func (.func 79) #[.pointer (some ⟨j, 0, none⟩)] #[]) := fun m => (((unhide HB).trans m.kept).cell ht id).trans (by rw [cell_of_blk h2]; rfl)
  have f0 : ∀ m : KW (w.alloc (.cells #[.int .i64 5, str f, .slice xo xn xc, .slice to tn tc, .slice eo en ec] 53)), m.wd.cell? ⟨w.heap.size, 0, none⟩ = some (.int .i64 5) := fun m => (m.kept.cell hxb id).trans (hxc 0 _ rfl)
  have f1 : ∀ m : KW (w.alloc (.cells #[.int .i64 5, str f, .slice xo xn xc, .slice to tn tc, .slice eo en ec] 53)), m.wd.cell? ⟨w.heap.size, 1, none⟩ = some (str f) := fun m => (m.kept.cell hxb id).trans (hxc 1 _ rfl)
  have f2 : ∀ m : KW (w.alloc (.cells #[.int .i64 5, str f, .slice xo xn xc, .slice to tn tc, .slice eo en ec] 53)), m.wd.cell? ⟨w.heap.size, 2, none⟩ = some (.slice xo xn xc) := fun m => (m.kept.cell hxb id).trans (hxc 2 _ rfl)
  have f3 : ∀ m : KW (w.alloc (.cells #[.int .i64 5, str f, .slice xo xn xc, .slice to tn tc, .slice eo en ec] 53)), m.wd.cell? ⟨w.heap.size, 3, none⟩ = some (.slice to tn tc) := fun m => (m.kept.cell hxb id).trans (hxc 3 _ rfl)
  have f4 : ∀ m : KW (w.alloc (.cells #[.int .i64 5, str f, .slice xo xn xc, .slice to tn tc, .slice eo en ec] 53)), m.wd.cell? ⟨w.heap.size, 4, none⟩ = some (.slice eo en ec) := fun m => (m.kept.cell hxb id).trans (hxc 4 _ rfl)
  have HE := hide (fun (m : KW (w.alloc (.cells #[.int .i64 5, str f, .slice xo xn xc, .slice to tn tc, .slice eo en ec] 53))) => kw_of m (hC m.wd ((unhide HB).trans m.kept)))
  clear hC hxc h1 h2
  go_enter Tryz.func33, Tryz.ntmps33
  go_wp2_with fail
  refine region_kept (by kernel_rfl) (by kernel_rfl) ?_
  repeat (go_big_quiet_step ((go_at_call 79; exact unhide HE _)))
  refine wpQuiet_nil ?_
  rintro _ ⟨nq, rfl⟩
  have HK1 := hide nq.kept
  go_wp2_with fail
  go_ret
  exact ⟨rfl, (unhide HB).trans (unhide HK1)⟩

set_option maxRecDepth 100000 in
set_option maxHeartbeats 2000000 in
theorem stmtJ6 (j : Nat) (f : Txt) (xv tv ev : Value) (hv : ∃ xo xn xc to tn tc eo en ec, xv = .slice xo xn xc ∧ tv = .slice to tn tc ∧ ev = .slice eo en ec) (R : Int) (w : World) (hj : j < w.heap.size) (h : StmtsAt w j)
    (hC : ∀ w', Keeps (fun _ => False) w w' → Calls Tryz.prog 80 #[stV 6 f xv tv ev] w' fun e w'' => e = .returned (.int .i64 R) ∧ Keeps (fun _ => False) w' w'') :
    Calls Tryz.prog 33 #[.pointer (some ⟨j, 0, none⟩), stV 6 f xv tv ev] w fun e w' => e = .returned (.int .i64 R) ∧ Keeps (fun _ => False) w w' := by
  obtain ⟨xo, xn, xc, to, tn, tc, eo, en, ec, rfl, rfl, rfl⟩ := hv
  obtain ⟨t2, h1, h2⟩ := h
  obtain ⟨HB, hxb, hxc⟩ := boxedT w #[.int .i64 6, str f, .slice xo xn xc, .slice to tn tc, .slice eo en ec] 53
  have ht := lt_of_block h2
  have e0 : ∀ m : KW (w.alloc (.cells #[.int .i64 6, str f, .slice xo xn xc, .slice to tn tc, .slice eo en ec] 53)), m.wd.cell? ⟨j, 2, none⟩ = some (.slice (some ⟨t2, 0, none⟩) 9 9) := fun m => (((unhide HB).trans m.kept).cell hj id).trans h1
  have e1 : ∀ m : KW (w.alloc (.cells #[.int .i64 6, str f, .slice xo xn xc, .slice to tn tc, .slice eo en ec] 53)), m.wd.cell? ⟨t2, 6, none⟩ = some (.func (.func 80) #[] #[]) := fun m => (((unhide HB).trans m.kept).cell ht id).trans (by rw [cell_of_blk h2]; rfl)
  have f0 : ∀ m : KW (w.alloc (.cells #[.int .i64 6, str f, .slice xo xn xc, .slice to tn tc, .slice eo en ec] 53)), m.wd.cell? ⟨w.heap.size, 0, none⟩ = some (.int .i64 6) := fun m => (m.kept.cell hxb id).trans (hxc 0 _ rfl)
  have f1 : ∀ m : KW (w.alloc (.cells #[.int .i64 6, str f, .slice xo xn xc, .slice to tn tc, .slice eo en ec] 53)), m.wd.cell? ⟨w.heap.size, 1, none⟩ = some (str f) := fun m => (m.kept.cell hxb id).trans (hxc 1 _ rfl)
  have f2 : ∀ m : KW (w.alloc (.cells #[.int .i64 6, str f, .slice xo xn xc, .slice to tn tc, .slice eo en ec] 53)), m.wd.cell? ⟨w.heap.size, 2, none⟩ = some (.slice xo xn xc) := fun m => (m.kept.cell hxb id).trans (hxc 2 _ rfl)
  have f3 : ∀ m : KW (w.alloc (.cells #[.int .i64 6, str f, .slice xo xn xc, .slice to tn tc, .slice eo en ec] 53)), m.wd.cell? ⟨w.heap.size, 3, none⟩ = some (.slice to tn tc) := fun m => (m.kept.cell hxb id).trans (hxc 3 _ rfl)
  have f4 : ∀ m : KW (w.alloc (.cells #[.int .i64 6, str f, .slice xo xn xc, .slice to tn tc, .slice eo en ec] 53)), m.wd.cell? ⟨w.heap.size, 4, none⟩ = some (.slice eo en ec) := fun m => (m.kept.cell hxb id).trans (hxc 4 _ rfl)
  have HE := hide (fun (m : KW (w.alloc (.cells #[.int .i64 6, str f, .slice xo xn xc, .slice to tn tc, .slice eo en ec] 53))) => kw_of m (hC m.wd ((unhide HB).trans m.kept)))
  clear hC hxc h1 h2
  go_enter Tryz.func33, Tryz.ntmps33
  go_wp2_with fail
  refine region_kept (by kernel_rfl) (by kernel_rfl) ?_
  repeat (go_big_quiet_step ((go_at_call 80; exact unhide HE _)))
  refine wpQuiet_nil ?_
  rintro _ ⟨nq, rfl⟩
  have HK1 := hide nq.kept
  go_wp2_with fail
  go_ret
  exact ⟨rfl, (unhide HB).trans (unhide HK1)⟩

set_option maxRecDepth 100000 in
set_option maxHeartbeats 2000000 in
theorem stmtJ7 (j : Nat) (f : Txt) (xv tv ev : Value) (hv : ∃ xo xn xc to tn tc eo en ec, xv = .slice xo xn xc ∧ tv = .slice to tn tc ∧ ev = .slice eo en ec) (R : Int) (w : World) (hj : j < w.heap.size) (h : StmtsAt w j)
    (hC : ∀ w', Keeps (fun _ => False) w w' → Calls Tryz.prog 80 #[stV 7 f xv tv ev] w' fun e w'' => e = .returned (.int .i64 R) ∧ Keeps (fun _ => False) w' w'') :
    Calls Tryz.prog 33 #[.pointer (some ⟨j, 0, none⟩), stV 7 f xv tv ev] w fun e w' => e = .returned (.int .i64 R) ∧ Keeps (fun _ => False) w w' := by
  obtain ⟨xo, xn, xc, to, tn, tc, eo, en, ec, rfl, rfl, rfl⟩ := hv
  obtain ⟨t2, h1, h2⟩ := h
  obtain ⟨HB, hxb, hxc⟩ := boxedT w #[.int .i64 7, str f, .slice xo xn xc, .slice to tn tc, .slice eo en ec] 53
  have ht := lt_of_block h2
  have e0 : ∀ m : KW (w.alloc (.cells #[.int .i64 7, str f, .slice xo xn xc, .slice to tn tc, .slice eo en ec] 53)), m.wd.cell? ⟨j, 2, none⟩ = some (.slice (some ⟨t2, 0, none⟩) 9 9) := fun m => (((unhide HB).trans m.kept).cell hj id).trans h1
  have e1 : ∀ m : KW (w.alloc (.cells #[.int .i64 7, str f, .slice xo xn xc, .slice to tn tc, .slice eo en ec] 53)), m.wd.cell? ⟨t2, 7, none⟩ = some (.func (.func 80) #[] #[]) := fun m => (((unhide HB).trans m.kept).cell ht id).trans (by rw [cell_of_blk h2]; rfl)
  have f0 : ∀ m : KW (w.alloc (.cells #[.int .i64 7, str f, .slice xo xn xc, .slice to tn tc, .slice eo en ec] 53)), m.wd.cell? ⟨w.heap.size, 0, none⟩ = some (.int .i64 7) := fun m => (m.kept.cell hxb id).trans (hxc 0 _ rfl)
  have f1 : ∀ m : KW (w.alloc (.cells #[.int .i64 7, str f, .slice xo xn xc, .slice to tn tc, .slice eo en ec] 53)), m.wd.cell? ⟨w.heap.size, 1, none⟩ = some (str f) := fun m => (m.kept.cell hxb id).trans (hxc 1 _ rfl)
  have f2 : ∀ m : KW (w.alloc (.cells #[.int .i64 7, str f, .slice xo xn xc, .slice to tn tc, .slice eo en ec] 53)), m.wd.cell? ⟨w.heap.size, 2, none⟩ = some (.slice xo xn xc) := fun m => (m.kept.cell hxb id).trans (hxc 2 _ rfl)
  have f3 : ∀ m : KW (w.alloc (.cells #[.int .i64 7, str f, .slice xo xn xc, .slice to tn tc, .slice eo en ec] 53)), m.wd.cell? ⟨w.heap.size, 3, none⟩ = some (.slice to tn tc) := fun m => (m.kept.cell hxb id).trans (hxc 3 _ rfl)
  have f4 : ∀ m : KW (w.alloc (.cells #[.int .i64 7, str f, .slice xo xn xc, .slice to tn tc, .slice eo en ec] 53)), m.wd.cell? ⟨w.heap.size, 4, none⟩ = some (.slice eo en ec) := fun m => (m.kept.cell hxb id).trans (hxc 4 _ rfl)
  have HE := hide (fun (m : KW (w.alloc (.cells #[.int .i64 7, str f, .slice xo xn xc, .slice to tn tc, .slice eo en ec] 53))) => kw_of m (hC m.wd ((unhide HB).trans m.kept)))
  clear hC hxc h1 h2
  go_enter Tryz.func33, Tryz.ntmps33
  go_wp2_with fail
  refine region_kept (by kernel_rfl) (by kernel_rfl) ?_
  repeat (go_big_quiet_step ((go_at_call 80; exact unhide HE _)))
  refine wpQuiet_nil ?_
  rintro _ ⟨nq, rfl⟩
  have HK1 := hide nq.kept
  go_wp2_with fail
  go_ret
  exact ⟨rfl, (unhide HB).trans (unhide HK1)⟩

set_option maxRecDepth 100000 in
set_option maxHeartbeats 2000000 in
theorem stmtJ8 (j : Nat) (f : Txt) (xv tv ev : Value) (hv : ∃ xo xn xc to tn tc eo en ec, xv = .slice xo xn xc ∧ tv = .slice to tn tc ∧ ev = .slice eo en ec) (R : Int) (w : World) (hj : j < w.heap.size) (h : StmtsAt w j)
    (hC : ∀ w', Keeps (fun _ => False) w w' → Calls Tryz.prog 81 #[.pointer (some ⟨j, 0, none⟩), stV 8 f xv tv ev] w' fun e w'' => e = .returned (.int .i64 R) ∧ Keeps (fun _ => False) w' w'') :
    Calls Tryz.prog 33 #[.pointer (some ⟨j, 0, none⟩), stV 8 f xv tv ev] w fun e w' => e = .returned (.int .i64 R) ∧ Keeps (fun _ => False) w w' := by
  obtain ⟨xo, xn, xc, to, tn, tc, eo, en, ec, rfl, rfl, rfl⟩ := hv
  obtain ⟨t2, h1, h2⟩ := h
  obtain ⟨HB, hxb, hxc⟩ := boxedT w #[.int .i64 8, str f, .slice xo xn xc, .slice to tn tc, .slice eo en ec] 53
  have ht := lt_of_block h2
  have e0 : ∀ m : KW (w.alloc (.cells #[.int .i64 8, str f, .slice xo xn xc, .slice to tn tc, .slice eo en ec] 53)), m.wd.cell? ⟨j, 2, none⟩ = some (.slice (some ⟨t2, 0, none⟩) 9 9) := fun m => (((unhide HB).trans m.kept).cell hj id).trans h1
  have e1 : ∀ m : KW (w.alloc (.cells #[.int .i64 8, str f, .slice xo xn xc, .slice to tn tc, .slice eo en ec] 53)), m.wd.cell? ⟨t2, 8, none⟩ = some (.func (.func 81) #[.pointer (some ⟨j, 0, none⟩)] #[]) := fun m => (((unhide HB).trans m.kept).cell ht id).trans (by rw [cell_of_blk h2]; rfl)
  have f0 : ∀ m : KW (w.alloc (.cells #[.int .i64 8, str f, .slice xo xn xc, .slice to tn tc, .slice eo en ec] 53)), m.wd.cell? ⟨w.heap.size, 0, none⟩ = some (.int .i64 8) := fun m => (m.kept.cell hxb id).trans (hxc 0 _ rfl)
  have f1 : ∀ m : KW (w.alloc (.cells #[.int .i64 8, str f, .slice xo xn xc, .slice to tn tc, .slice eo en ec] 53)), m.wd.cell? ⟨w.heap.size, 1, none⟩ = some (str f) := fun m => (m.kept.cell hxb id).trans (hxc 1 _ rfl)
  have f2 : ∀ m : KW (w.alloc (.cells #[.int .i64 8, str f, .slice xo xn xc, .slice to tn tc, .slice eo en ec] 53)), m.wd.cell? ⟨w.heap.size, 2, none⟩ = some (.slice xo xn xc) := fun m => (m.kept.cell hxb id).trans (hxc 2 _ rfl)
  have f3 : ∀ m : KW (w.alloc (.cells #[.int .i64 8, str f, .slice xo xn xc, .slice to tn tc, .slice eo en ec] 53)), m.wd.cell? ⟨w.heap.size, 3, none⟩ = some (.slice to tn tc) := fun m => (m.kept.cell hxb id).trans (hxc 3 _ rfl)
  have f4 : ∀ m : KW (w.alloc (.cells #[.int .i64 8, str f, .slice xo xn xc, .slice to tn tc, .slice eo en ec] 53)), m.wd.cell? ⟨w.heap.size, 4, none⟩ = some (.slice eo en ec) := fun m => (m.kept.cell hxb id).trans (hxc 4 _ rfl)
  have HE := hide (fun (m : KW (w.alloc (.cells #[.int .i64 8, str f, .slice xo xn xc, .slice to tn tc, .slice eo en ec] 53))) => kw_of m (hC m.wd ((unhide HB).trans m.kept)))
  clear hC hxc h1 h2
  go_enter Tryz.func33, Tryz.ntmps33
  go_wp2_with fail
  refine region_kept (by kernel_rfl) (by kernel_rfl) ?_
  repeat (go_big_quiet_step ((go_at_call 81; exact unhide HE _)))
  refine wpQuiet_nil ?_
  rintro _ ⟨nq, rfl⟩
  have HK1 := hide nq.kept
  go_wp2_with fail
  go_ret
  exact ⟨rfl, (unhide HB).trans (unhide HK1)⟩
end Go.Proofs.YtoempeobaknkcaaGreatDoor
namespace Go.Proofs.YtoempeobaknkcaaGreatDoor
open Go.RowKit Go.Maps

set_option maxRecDepth 100000 in
set_option maxHeartbeats 8000000 in
theorem setF_yes (Z : Zone) (j mb nn tab : Nat) (S : List FieldA) (hS : (S.map FieldA.name).Nodup) (op : Int) (f : Txt) (hl : f.length ≤ 1000) (o n : Int) (s : Txt) (kids : EL) (hsz : kids.size + 1 ≤ 4294967294) (xv : Value) (up : Nat) (to eo : Option Addr) (tn tc en ec : Nat) (w : World) (h : JudgeAt w j mb nn tab S)
    (hx : SlE Z w up xv (.cons o n s kids .nil)) (hr : rootB o n s kids.len = true) (hw : wellE kids = true) (hO : (kindP S o s kids).1.o = true) :
    Calls Tryz.prog 77 #[.pointer (some ⟨j, 0, none⟩), stV op f xv (.slice to tn tc) (.slice eo en ec)] w fun e w' => e = .returned (.int .i64 (orL [(namedK S f).2, (kindP S o s kids).2, ofI (kindP S o s kids).1 [(namedK S f).1.t], if (kindP S o s kids).1.o = true ∧ (namedK S f).1.o = false then 92 else 0])) ∧ Keeps (fun _ => False) w w' := by
  obtain ⟨xo, xc, b, off, rfl, hcap, ha, hin⟩ := hx.open
  obtain ⟨rfl, _⟩ := ha (by simp [EL.len])
  obtain ⟨h1, h2, h3, h4, h5, ⟨kao, kcap, h6, h7, h8⟩, _⟩ := hin
  have hkid : SlE Z w b (.slice kao kids.len kcap) kids := ⟨kao, kcap, rfl, h7, h8⟩
  have hlen : (EL.cons o n s kids .nil).len = 1 := rfl
  rw [hlen] at hcap ⊢
  obtain ⟨HB, hxb, hxc⟩ := boxedT w #[.int .i64 op, str f, .slice (some ⟨b, off, none⟩) 1 xc, .slice to tn tc, .slice eo en ec] 53
  have c1 := hxc 1 (str f) rfl
  have SB : ∀ w', Keeps (fun _ => False) (w.alloc (.cells #[.int .i64 op, str f, .slice (some ⟨b, off, none⟩) 1 xc, .slice to tn tc, .slice eo en ec] 53)) w' → w'.cell? ⟨w.heap.size, 2, none⟩ = some (.slice (some ⟨b, off, none⟩) 1 xc) ∧ w'.cell? ⟨b, off, none⟩ = some (.int .i64 o) ∧ w'.cell? ⟨b, off + 1, none⟩ = some (.int .i64 n) ∧ w'.cell? ⟨b, off + 2, none⟩ = some (str s) ∧ w'.cell? ⟨b, off + 3, none⟩ = some (.slice kao kids.len kcap) := fun w' hk =>
    ⟨(hk.cell hxb id).trans (hxc 2 _ rfl), (((unhide HB).trans hk).cell h1 id).trans h3, (((unhide HB).trans hk).cell h1 id).trans h4, (((unhide HB).trans hk).cell h1 id).trans h5, (((unhide HB).trans hk).cell h1 id).trans h6⟩
  have HSB := hide SB
  have HN := hide (namedJ_v j mb nn S hS f hl _ (h.map.keepF (unhide HB)))
  have HE := fun w' (hk : Keeps (fun _ => False) w w') => hide (exprJ_v Z j mb nn tab S hS (kids.size + 1) kids (by omega) (by omega) o n s w' b (.slice kao kids.len kcap) (h.keepF hk) (hkid.keepF hk) hr hw)
  obtain ⟨⟨⟨T, O⟩, E⟩, hp⟩ : ∃ p, p = namedK S f := ⟨_, rfl⟩
  obtain ⟨⟨⟨T2, O2⟩, E2⟩, hp2⟩ : ∃ p, p = kindP S o s kids := ⟨_, rfl⟩
  rw [← hp] at HN ⊢
  rw [← hp2] at HE hO ⊢
  have hO2 : O2 = true := hO
  subst hO2
  clear hO
  clear hp hp2 h hxc hkid hx h2 h3 h4 h5 h6 h8 hr hw ha SB
  have hU : (if true = true ∧ O = false then (92 : Int) else 0) = unlessI (!true || O) 92 := by cases O <;> rfl
  show Calls _ _ _ _ (fun e w' => e = .returned (.int .i64 (orL [E, E2, ofI ⟨T2, true⟩ [T], if true = true ∧ O = false then 92 else 0])) ∧ _)
  rw [hU]
  clear hU
  obtain ⟨U, hU⟩ : ∃ u, u = unlessI (!true || O) 92 := ⟨_, rfl⟩
  rw [← hU]
  have HU := hide hU
  clear hU
  go_enter Tryz.func77, Tryz.ntmps77
  go_wp2_with (first
    | (go_at_call 95; refine (unhide HN).mono ?_; rintro e w1 ⟨rfl, hk1⟩; have hka := hk1.alloc (.cells #[.int .i64 T, .bool O] 80); have d1 := unhide HSB _ hka; have HBA := hide (heap_alloc_new w1 (.cells #[.int .i64 T, .bool O] 80)); have HK1 := hide ((unhide HB).trans hka); clear hk1 hka)
    | (go_at_call 37; refine (unhide (HE _ (unhide HK1))).mono ?_; rintro e w2 ⟨rfl, hk2⟩; have hkb := hk2.alloc (.cells #[.int .i64 T2, .bool true] 80); have HBA2 := hide ((hkb.block _ (lt_of_block (unhide HBA)) id).trans (unhide HBA)); have HBB := hide (heap_alloc_new w2 (.cells #[.int .i64 T2, .bool true] 80)); have HK2 := hide ((unhide HK1).trans hkb); clear hk2 hkb))
  have hA := unhide HBA2
  have hB := unhide HBB
  have SK : ∀ w', Keeps (fun _ => False) (w2.alloc (.cells #[.int .i64 T2, .bool true] 80)) w' → w'.cell? ⟨w1.heap.size, 0, none⟩ = some (.int .i64 T) ∧ w'.cell? ⟨w1.heap.size, 1, none⟩ = some (.bool O) ∧ w'.cell? ⟨w2.heap.size, 0, none⟩ = some (.int .i64 T2) ∧ w'.cell? ⟨w2.heap.size, 1, none⟩ = some (.bool true) := fun w' hk => by
    have k0 := (hk.block _ (lt_of_block hA) id).trans hA
    have k1 := (hk.block _ (lt_of_block hB) id).trans hB
    exact ⟨by rw [cell_of_blk k0]; rfl, by rw [cell_of_blk k0]; rfl, by rw [cell_of_blk k1]; rfl, by rw [cell_of_blk k1]; rfl⟩
  have HSK := hide SK
  have HL : Hid (Lay (w2.alloc (.cells #[.int .i64 T2, .bool true] 80)) [] (w2.alloc (.cells #[.int .i64 T2, .bool true] 80))) := ⟨Keeps.refl _ _, fun p hp => by simp at hp⟩
  clear hA hB SK HBA HBA2 HBB d1 HE HN HSB
  go_region_held3 (fun w' => w'.cell? ⟨w1.heap.size, 0, none⟩ = some (.int .i64 T) ∧ w'.cell? ⟨w1.heap.size, 1, none⟩ = some (.bool O) ∧ w'.cell? ⟨w2.heap.size, 0, none⟩ = some (.int .i64 T2) ∧ w'.cell? ⟨w2.heap.size, 1, none⟩ = some (.bool true))
    (first | with_reducible exact unhide HSK _ (unhide HL).kept | with_reducible exact unhide HSK _ ((unhide HL).lay _).kept | with_reducible exact unhide HSK _ (((unhide HL).lay _).lay _).kept | with_reducible exact unhide HSK _ (unhide HL).kept.drew | with_reducible exact unhide HSK _ ((unhide HL).lay _).kept.drew | with_reducible exact unhide HSK _ (((unhide HL).lay _).lay _).kept.drew | with_reducible exact unhide HSK _ ((unhide HL).kept.alloc _) | with_reducible exact unhide HSK _ ((unhide HL).drew.lay _).kept | with_reducible exact unhide HSK _ (((unhide HL).drew.lay _).lay _).kept)
    ((first
    | (go_at_call 99; refine (isOf_lay ⟨T2, true⟩ (by first | with_reducible exact unhide HL | with_reducible exact (unhide HL).lay _ | with_reducible exact ((unhide HL).lay _).lay _ | with_reducible exact (unhide HL).drew.lay _ | with_reducible exact ((unhide HL).drew.lay _).lay _ | with_reducible exact ((unhide HL).lay _).drew | with_reducible exact (((unhide HL).lay _).lay _).drew) (t := T) (by simp)).mono ?_; rintro e w3 ⟨rfl, hl1⟩; have HL := hide hl1; clear hl1)
    | (go_at_call 100; refine (unless_lay _ 92 (by first | with_reducible exact unhide HL | with_reducible exact (unhide HL).drew | with_reducible exact (unhide HL).lay _ | with_reducible exact ((unhide HL).lay _).drew)).mono ?_; rintro e w3 ⟨rfl, hl1⟩; have HL := hide hl1; clear hl1)
    | (go_at_call 96; refine (or_lay E E2 (ofI ⟨T2, true⟩ [T]) _ (unhide HL)).mono ?_; rintro e w3 ⟨rfl, hl1⟩; have HL := hide hl1; clear hl1)))
  all_goals go_wp2_with fail
  all_goals (go_ret; exact ⟨by rw [unhide HU]; rfl, (unhide HK2).trans (unhide HL).kept⟩)
end Go.Proofs.YtoempeobaknkcaaGreatDoor
