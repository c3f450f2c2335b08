import Derived.Test.YtljoacpaehmbdaaGreatDoorJzaf
import Derived.Test.YtljoacpaehmbdaaGreatDoorKg
import Derived.Test.YtljoacpaehmbdaaGreatDoorJag
import Derived.Test.YtljoacpaehmbdaaGreatDoorKh
import Derived.Test.YtljoacpaehmbdaaGreatDoorKb
namespace Go.Proofs.YtljoacpaehmbdaaGreatDoor
open Go.RowKit Go.Maps

set_option maxRecDepth 100000 in
set_option maxHeartbeats 1000000 in
theorem rule_7 (w : World) : Calls Tryz.prog 47 #[.int .i64 7] w fun e w' => e = .returned (.tuple #[.slice (some ⟨w.heap.size + 5, 0, none⟩) 1 1, .int .i64 (2)]) ∧ WAt w' (.slice (some ⟨w.heap.size + 5, 0, none⟩) 1 1) [(2, false)] ∧ Keeps (fun _ => False) w w' := by
  go_enter Tryz.func47, Tryz.ntmps47
  go_wp2_with fail
  refine bodyPost_ret (v := .tuple #[.slice (some ⟨w.heap.size + 5, 0, none⟩) 1 1, .int .i64 (2)]) (by simp [results, go_sem]) rfl ?_
  exact ⟨rfl, wants_new _ [(2, false)] _ (by simp), ((((((Keeps.refl _ w).alloc _).alloc _).alloc _).alloc _).alloc _).alloc _⟩
set_option maxRecDepth 100000 in
set_option maxHeartbeats 1000000 in
theorem rule_8 (w : World) : Calls Tryz.prog 47 #[.int .i64 8] w fun e w' => e = .returned (.tuple #[.slice (some ⟨w.heap.size + 5, 0, none⟩) 1 1, .int .i64 (1)]) ∧ WAt w' (.slice (some ⟨w.heap.size + 5, 0, none⟩) 1 1) [(1, false)] ∧ Keeps (fun _ => False) w w' := by
  go_enter Tryz.func47, Tryz.ntmps47
  go_wp2_with fail
  refine bodyPost_ret (v := .tuple #[.slice (some ⟨w.heap.size + 5, 0, none⟩) 1 1, .int .i64 (1)]) (by simp [results, go_sem]) rfl ?_
  exact ⟨rfl, wants_new _ [(1, false)] _ (by simp), ((((((Keeps.refl _ w).alloc _).alloc _).alloc _).alloc _).alloc _).alloc _⟩
set_option maxRecDepth 100000 in
set_option maxHeartbeats 1000000 in
theorem rule_9 (w : World) : Calls Tryz.prog 47 #[.int .i64 9] w fun e w' => e = .returned (.tuple #[.slice (some ⟨w.heap.size + 5, 0, none⟩) 2 2, .int .i64 (1)]) ∧ WAt w' (.slice (some ⟨w.heap.size + 5, 0, none⟩) 2 2) [(1, false), (1, false)] ∧ Keeps (fun _ => False) w w' := by
  go_enter Tryz.func47, Tryz.ntmps47
  go_wp2_with fail
  refine bodyPost_ret (v := .tuple #[.slice (some ⟨w.heap.size + 5, 0, none⟩) 2 2, .int .i64 (1)]) (by simp [results, go_sem]) rfl ?_
  exact ⟨rfl, wants_new _ [(1, false), (1, false)] _ (by simp), ((((((Keeps.refl _ w).alloc _).alloc _).alloc _).alloc _).alloc _).alloc _⟩
set_option maxRecDepth 100000 in
set_option maxHeartbeats 1000000 in
theorem rule_10 (w : World) : Calls Tryz.prog 47 #[.int .i64 10] w fun e w' => e = .returned (.tuple #[.slice (some ⟨w.heap.size + 5, 0, none⟩) 2 2, .int .i64 (1)]) ∧ WAt w' (.slice (some ⟨w.heap.size + 5, 0, none⟩) 2 2) [(1, false), (1, false)] ∧ Keeps (fun _ => False) w w' := by
  go_enter Tryz.func47, Tryz.ntmps47
  go_wp2_with fail
  refine bodyPost_ret (v := .tuple #[.slice (some ⟨w.heap.size + 5, 0, none⟩) 2 2, .int .i64 (1)]) (by simp [results, go_sem]) rfl ?_
  exact ⟨rfl, wants_new _ [(1, false), (1, false)] _ (by simp), ((((((Keeps.refl _ w).alloc _).alloc _).alloc _).alloc _).alloc _).alloc _⟩
set_option maxRecDepth 100000 in
set_option maxHeartbeats 1000000 in
theorem rule_11 (w : World) : Calls Tryz.prog 47 #[.int .i64 11] w fun e w' => e = .returned (.tuple #[.slice (some ⟨w.heap.size + 5, 0, none⟩) 2 2, .int .i64 (1)]) ∧ WAt w' (.slice (some ⟨w.heap.size + 5, 0, none⟩) 2 2) [(1, false), (1, false)] ∧ Keeps (fun _ => False) w w' := by
  go_enter Tryz.func47, Tryz.ntmps47
  go_wp2_with fail
  refine bodyPost_ret (v := .tuple #[.slice (some ⟨w.heap.size + 5, 0, none⟩) 2 2, .int .i64 (1)]) (by simp [results, go_sem]) rfl ?_
  exact ⟨rfl, wants_new _ [(1, false), (1, false)] _ (by simp), ((((((Keeps.refl _ w).alloc _).alloc _).alloc _).alloc _).alloc _).alloc _⟩
set_option maxRecDepth 100000 in
set_option maxHeartbeats 1000000 in
theorem rule_12 (w : World) : Calls Tryz.prog 47 #[.int .i64 12] w fun e w' => e = .returned (.tuple #[.slice (some ⟨w.heap.size + 5, 0, none⟩) 2 2, .int .i64 (2)]) ∧ WAt w' (.slice (some ⟨w.heap.size + 5, 0, none⟩) 2 2) [(-1, false), (-2, false)] ∧ Keeps (fun _ => False) w w' := by
  go_enter Tryz.func47, Tryz.ntmps47
  go_wp2_with fail
  refine bodyPost_ret (v := .tuple #[.slice (some ⟨w.heap.size + 5, 0, none⟩) 2 2, .int .i64 (2)]) (by simp [results, go_sem]) rfl ?_
  exact ⟨rfl, wants_new _ [(-1, false), (-2, false)] _ (by simp), ((((((Keeps.refl _ w).alloc _).alloc _).alloc _).alloc _).alloc _).alloc _⟩
set_option maxRecDepth 100000 in
set_option maxHeartbeats 1000000 in
theorem rule_13 (w : World) : Calls Tryz.prog 47 #[.int .i64 13] w fun e w' => e = .returned (.tuple #[.slice (some ⟨w.heap.size + 5, 0, none⟩) 2 2, .int .i64 (2)]) ∧ WAt w' (.slice (some ⟨w.heap.size + 5, 0, none⟩) 2 2) [(-1, false), (-2, false)] ∧ Keeps (fun _ => False) w w' := by
  go_enter Tryz.func47, Tryz.ntmps47
  go_wp2_with fail
  refine bodyPost_ret (v := .tuple #[.slice (some ⟨w.heap.size + 5, 0, none⟩) 2 2, .int .i64 (2)]) (by simp [results, go_sem]) rfl ?_
  exact ⟨rfl, wants_new _ [(-1, false), (-2, false)] _ (by simp), ((((((Keeps.refl _ w).alloc _).alloc _).alloc _).alloc _).alloc _).alloc _⟩
set_option maxRecDepth 100000 in
set_option maxHeartbeats 1000000 in
theorem rule_14 (w : World) : Calls Tryz.prog 47 #[.int .i64 14] w fun e w' => e = .returned (.tuple #[.slice (some ⟨w.heap.size + 5, 0, none⟩) 2 2, .int .i64 (2)]) ∧ WAt w' (.slice (some ⟨w.heap.size + 5, 0, none⟩) 2 2) [(-1, false), (-2, false)] ∧ Keeps (fun _ => False) w w' := by
  go_enter Tryz.func47, Tryz.ntmps47
  go_wp2_with fail
  refine bodyPost_ret (v := .tuple #[.slice (some ⟨w.heap.size + 5, 0, none⟩) 2 2, .int .i64 (2)]) (by simp [results, go_sem]) rfl ?_
  exact ⟨rfl, wants_new _ [(-1, false), (-2, false)] _ (by simp), ((((((Keeps.refl _ w).alloc _).alloc _).alloc _).alloc _).alloc _).alloc _⟩
set_option maxRecDepth 100000 in
set_option maxHeartbeats 1000000 in
theorem rule_15 (w : World) : Calls Tryz.prog 47 #[.int .i64 15] w fun e w' => e = .returned (.tuple #[.slice (some ⟨w.heap.size + 5, 0, none⟩) 2 2, .int .i64 (2)]) ∧ WAt w' (.slice (some ⟨w.heap.size + 5, 0, none⟩) 2 2) [(-1, false), (-2, false)] ∧ Keeps (fun _ => False) w w' := by
  go_enter Tryz.func47, Tryz.ntmps47
  go_wp2_with fail
  refine bodyPost_ret (v := .tuple #[.slice (some ⟨w.heap.size + 5, 0, none⟩) 2 2, .int .i64 (2)]) (by simp [results, go_sem]) rfl ?_
  exact ⟨rfl, wants_new _ [(-1, false), (-2, false)] _ (by simp), ((((((Keeps.refl _ w).alloc _).alloc _).alloc _).alloc _).alloc _).alloc _⟩
set_option maxRecDepth 100000 in
set_option maxHeartbeats 1000000 in
theorem rule_16 (w : World) : Calls Tryz.prog 47 #[.int .i64 16] w fun e w' => e = .returned (.tuple #[.slice (some ⟨w.heap.size + 5, 0, none⟩) 2 2, .int .i64 (2)]) ∧ WAt w' (.slice (some ⟨w.heap.size + 5, 0, none⟩) 2 2) [(0, false), (-2, false)] ∧ Keeps (fun _ => False) w w' := by
  go_enter Tryz.func47, Tryz.ntmps47
  go_wp2_with fail
  refine bodyPost_ret (v := .tuple #[.slice (some ⟨w.heap.size + 5, 0, none⟩) 2 2, .int .i64 (2)]) (by simp [results, go_sem]) rfl ?_
  exact ⟨rfl, wants_new _ [(0, false), (-2, false)] _ (by simp), ((((((Keeps.refl _ w).alloc _).alloc _).alloc _).alloc _).alloc _).alloc _⟩
set_option maxRecDepth 100000 in
set_option maxHeartbeats 1000000 in
theorem rule_17 (w : World) : Calls Tryz.prog 47 #[.int .i64 17] w fun e w' => e = .returned (.tuple #[.slice (some ⟨w.heap.size + 5, 0, none⟩) 2 2, .int .i64 (2)]) ∧ WAt w' (.slice (some ⟨w.heap.size + 5, 0, none⟩) 2 2) [(0, false), (-2, false)] ∧ Keeps (fun _ => False) w w' := by
  go_enter Tryz.func47, Tryz.ntmps47
  go_wp2_with fail
  refine bodyPost_ret (v := .tuple #[.slice (some ⟨w.heap.size + 5, 0, none⟩) 2 2, .int .i64 (2)]) (by simp [results, go_sem]) rfl ?_
  exact ⟨rfl, wants_new _ [(0, false), (-2, false)] _ (by simp), ((((((Keeps.refl _ w).alloc _).alloc _).alloc _).alloc _).alloc _).alloc _⟩
set_option maxRecDepth 100000 in
set_option maxHeartbeats 1000000 in
theorem rule_18 (w : World) : Calls Tryz.prog 47 #[.int .i64 18] w fun e w' => e = .returned (.tuple #[.slice (some ⟨w.heap.size + 5, 0, none⟩) 2 2, .int .i64 (2)]) ∧ WAt w' (.slice (some ⟨w.heap.size + 5, 0, none⟩) 2 2) [(2, false), (2, false)] ∧ Keeps (fun _ => False) w w' := by
  go_enter Tryz.func47, Tryz.ntmps47
  go_wp2_with fail
  refine bodyPost_ret (v := .tuple #[.slice (some ⟨w.heap.size + 5, 0, none⟩) 2 2, .int .i64 (2)]) (by simp [results, go_sem]) rfl ?_
  exact ⟨rfl, wants_new _ [(2, false), (2, false)] _ (by simp), ((((((Keeps.refl _ w).alloc _).alloc _).alloc _).alloc _).alloc _).alloc _⟩
set_option maxRecDepth 100000 in
set_option maxHeartbeats 1000000 in
theorem rule_19 (w : World) : Calls Tryz.prog 47 #[.int .i64 19] w fun e w' => e = .returned (.tuple #[.slice (some ⟨w.heap.size + 5, 0, none⟩) 2 2, .int .i64 (2)]) ∧ WAt w' (.slice (some ⟨w.heap.size + 5, 0, none⟩) 2 2) [(2, false), (2, false)] ∧ Keeps (fun _ => False) w w' := by
  go_enter Tryz.func47, Tryz.ntmps47
  go_wp2_with fail
  refine bodyPost_ret (v := .tuple #[.slice (some ⟨w.heap.size + 5, 0, none⟩) 2 2, .int .i64 (2)]) (by simp [results, go_sem]) rfl ?_
  exact ⟨rfl, wants_new _ [(2, false), (2, false)] _ (by simp), ((((((Keeps.refl _ w).alloc _).alloc _).alloc _).alloc _).alloc _).alloc _⟩
set_option maxRecDepth 100000 in
set_option maxHeartbeats 1000000 in
theorem rule_20 (w : World) : Calls Tryz.prog 47 #[.int .i64 20] w fun e w' => e = .returned (.tuple #[.slice (some ⟨w.heap.size + 5, 0, none⟩) 2 2, .int .i64 (-2)]) ∧ WAt w' (.slice (some ⟨w.heap.size + 5, 0, none⟩) 2 2) [(0, true), (-2, false)] ∧ Keeps (fun _ => False) w w' := by
  go_enter Tryz.func47, Tryz.ntmps47
  go_wp2_with fail
  refine bodyPost_ret (v := .tuple #[.slice (some ⟨w.heap.size + 5, 0, none⟩) 2 2, .int .i64 (-2)]) (by simp [results, go_sem]) rfl ?_
  exact ⟨rfl, wants_new _ [(0, true), (-2, false)] _ (by simp), ((((((Keeps.refl _ w).alloc _).alloc _).alloc _).alloc _).alloc _).alloc _⟩
set_option maxRecDepth 100000 in
set_option maxHeartbeats 1000000 in
theorem rule_21 (w : World) : Calls Tryz.prog 47 #[.int .i64 21] w fun e w' => e = .returned (.tuple #[.slice (some ⟨w.heap.size + 5, 0, none⟩) 2 2, .int .i64 (1)]) ∧ WAt w' (.slice (some ⟨w.heap.size + 5, 0, none⟩) 2 2) [(1, false), (1, false)] ∧ Keeps (fun _ => False) w w' := by
  go_enter Tryz.func47, Tryz.ntmps47
  go_wp2_with fail
  refine bodyPost_ret (v := .tuple #[.slice (some ⟨w.heap.size + 5, 0, none⟩) 2 2, .int .i64 (1)]) (by simp [results, go_sem]) rfl ?_
  exact ⟨rfl, wants_new _ [(1, false), (1, false)] _ (by simp), ((((((Keeps.refl _ w).alloc _).alloc _).alloc _).alloc _).alloc _).alloc _⟩
set_option maxRecDepth 100000 in
set_option maxHeartbeats 1000000 in
theorem rule_22 (w : World) : Calls Tryz.prog 47 #[.int .i64 22] w fun e w' => e = .returned (.tuple #[.slice (some ⟨w.heap.size + 5, 0, none⟩) 2 2, .int .i64 (1)]) ∧ WAt w' (.slice (some ⟨w.heap.size + 5, 0, none⟩) 2 2) [(1, false), (1, false)] ∧ Keeps (fun _ => False) w w' := by
  go_enter Tryz.func47, Tryz.ntmps47
  go_wp2_with fail
  refine bodyPost_ret (v := .tuple #[.slice (some ⟨w.heap.size + 5, 0, none⟩) 2 2, .int .i64 (1)]) (by simp [results, go_sem]) rfl ?_
  exact ⟨rfl, wants_new _ [(1, false), (1, false)] _ (by simp), ((((((Keeps.refl _ w).alloc _).alloc _).alloc _).alloc _).alloc _).alloc _⟩
set_option maxRecDepth 100000 in
set_option maxHeartbeats 1000000 in
theorem rule_23 (w : World) : Calls Tryz.prog 47 #[.int .i64 23] w fun e w' => e = .returned (.tuple #[.slice (some ⟨w.heap.size + 5, 0, none⟩) 1 1, .int .i64 (1)]) ∧ WAt w' (.slice (some ⟨w.heap.size + 5, 0, none⟩) 1 1) [(3, false)] ∧ Keeps (fun _ => False) w w' := by
  go_enter Tryz.func47, Tryz.ntmps47
  go_wp2_with fail
  refine bodyPost_ret (v := .tuple #[.slice (some ⟨w.heap.size + 5, 0, none⟩) 1 1, .int .i64 (1)]) (by simp [results, go_sem]) rfl ?_
  exact ⟨rfl, wants_new _ [(3, false)] _ (by simp), ((((((Keeps.refl _ w).alloc _).alloc _).alloc _).alloc _).alloc _).alloc _⟩
set_option maxRecDepth 100000 in
set_option maxHeartbeats 1000000 in
theorem rule_24 (w : World) : Calls Tryz.prog 47 #[.int .i64 24] w fun e w' => e = .returned (.tuple #[.slice (some ⟨w.heap.size + 5, 0, none⟩) 2 2, .int .i64 (3)]) ∧ WAt w' (.slice (some ⟨w.heap.size + 5, 0, none⟩) 2 2) [(3, false), (3, false)] ∧ Keeps (fun _ => False) w w' := by
  go_enter Tryz.func47, Tryz.ntmps47
  go_wp2_with fail
  refine bodyPost_ret (v := .tuple #[.slice (some ⟨w.heap.size + 5, 0, none⟩) 2 2, .int .i64 (3)]) (by simp [results, go_sem]) rfl ?_
  exact ⟨rfl, wants_new _ [(3, false), (3, false)] _ (by simp), ((((((Keeps.refl _ w).alloc _).alloc _).alloc _).alloc _).alloc _).alloc _⟩
set_option maxRecDepth 100000 in
set_option maxHeartbeats 1000000 in
theorem rule_25 (w : World) : Calls Tryz.prog 47 #[.int .i64 25] w fun e w' => e = .returned (.tuple #[.slice (some ⟨w.heap.size + 5, 0, none⟩) 3 3, .int .i64 (-3)]) ∧ WAt w' (.slice (some ⟨w.heap.size + 5, 0, none⟩) 3 3) [(2, false), (0, false), (-3, false)] ∧ Keeps (fun _ => False) w w' := by
  go_enter Tryz.func47, Tryz.ntmps47
  go_wp2_with fail
  refine bodyPost_ret (v := .tuple #[.slice (some ⟨w.heap.size + 5, 0, none⟩) 3 3, .int .i64 (-3)]) (by simp [results, go_sem]) rfl ?_
  exact ⟨rfl, wants_new _ [(2, false), (0, false), (-3, false)] _ (by simp), ((((((Keeps.refl _ w).alloc _).alloc _).alloc _).alloc _).alloc _).alloc _⟩
theorem rule_v (m : Nat) (h1 : 7 ≤ m) (h2 : m ≤ 25) (w : World) : Calls Tryz.prog 47 #[.int .i64 (m : Int)] w fun e w' => e = .returned (.tuple #[.slice (some ⟨w.heap.size + 5, 0, none⟩) (wantL m).1.length (wantL m).1.length, .int .i64 (wantL m).2]) ∧ WAt w' (.slice (some ⟨w.heap.size + 5, 0, none⟩) (wantL m).1.length (wantL m).1.length) (wantL m).1 ∧ Keeps (fun _ => False) w w' := by
  rcases (show m = 7 ∨ m = 8 ∨ m = 9 ∨ m = 10 ∨ m = 11 ∨ m = 12 ∨ m = 13 ∨ m = 14 ∨ m = 15 ∨ m = 16 ∨ m = 17 ∨ m = 18 ∨ m = 19 ∨ m = 20 ∨ m = 21 ∨ m = 22 ∨ m = 23 ∨ m = 24 ∨ m = 25 by omega) with rfl | rfl | rfl | rfl | rfl | rfl | rfl | rfl | rfl | rfl | rfl | rfl | rfl | rfl | rfl | rfl | rfl | rfl | rfl
  · exact rule_7 w
  · exact rule_8 w
  · exact rule_9 w
  · exact rule_10 w
  · exact rule_11 w
  · exact rule_12 w
  · exact rule_13 w
  · exact rule_14 w
  · exact rule_15 w
  · exact rule_16 w
  · exact rule_17 w
  · exact rule_18 w
  · exact rule_19 w
  · exact rule_20 w
  · exact rule_21 w
  · exact rule_22 w
  · exact rule_23 w
  · exact rule_24 w
  · exact rule_25 w
end Go.Proofs.YtljoacpaehmbdaaGreatDoor
namespace Go.Proofs.YtljoacpaehmbdaaGreatDoor
open Go.RowKit Go.Maps

theorem Tryz.info73 : (Tryz.prog.info? 73).map (fun i => (i.zero, i.size, i.bytes)) = some (some (kindV ⟨0, false⟩), 2, 16) := by kernel_rfl
/-- A list of kinds, made new. -/
theorem run_mkK (n : Nat) (hn : n ≤ 1000) (w : World) : ∃ c : Array Value, c.size = n * 2 ∧ (Instr.makeSlice 108 (.int .i64 (n : Int)) (.int .i64 (n : Int))).run Tryz.prog w = .ok (.slice (some ⟨w.heap.size, 0, none⟩) n n) (w.alloc (.cells c 73)) := by
  obtain ⟨i0, hi, hz0, hz1, hz2⟩ := info_parts Tryz.info73
  have q := run_make (P := Tryz.prog) w 108 73 i0 _ Tryz.underlying108 hi hz0 .i64 .i64 (n : Int) (n : Int) (by omega) (by omega) (by rw [hz2]; omega) (by omega)
  rw [hz1] at q
  have e : ((n : Int)).toNat = n := by omega
  rw [e] at q
  exact ⟨_, by rw [size_madeCells], q⟩
/-- This function value is that rule. -/
def RuleV (w : World) (j : Nat) (r : RuleA) (fv : Value) : Prop := match r with
  | .takes is ts => ∃ tb ib tv, fv = .func (.func 96) #[] #[.pointer (some ⟨tb, 0, none⟩), .pointer (some ⟨ib, 0, none⟩)] ∧ ib < w.heap.size ∧ tb < w.heap.size ∧ w.cell? ⟨ib, 0, none⟩ = some (.int .i64 is) ∧ w.cell? ⟨tb, 0, none⟩ = some tv ∧ IntsAt w tv ts
  | .compares ts => ∃ tb tv, fv = .func (.func 102) #[] #[.pointer (some ⟨tb, 0, none⟩)] ∧ tb < w.heap.size ∧ w.cell? ⟨tb, 0, none⟩ = some tv ∧ IntsAt w tv ts
  | .field => fv = .func (.func 82) #[.pointer (some ⟨j, 0, none⟩)] #[]
  | .has => fv = .func (.func 83) #[.pointer (some ⟨j, 0, none⟩)] #[]
  | .orElse => fv = .func (.func 85) #[] #[]
  | .pick => fv = .func (.func 86) #[] #[]
theorem RuleV.keepF {w w' : World} {j : Nat} {r : RuleA} {fv : Value} (h : RuleV w j r fv) (hk : Keeps (fun _ => False) w w') : RuleV w' j r fv := by
  cases r with
  | takes is ts =>
    obtain ⟨tb, ib, tv, e, h1, h2, h3, h4, h5⟩ := h
    exact ⟨tb, ib, tv, e, Nat.lt_of_lt_of_le h1 hk.size, Nat.lt_of_lt_of_le h2 hk.size, (hk.cell h1 id).trans h3, (hk.cell h2 id).trans h4, h5.keepF hk⟩
  | compares ts =>
    obtain ⟨tb, tv, e, h2, h4, h5⟩ := h
    exact ⟨tb, tv, e, Nat.lt_of_lt_of_le h2 hk.size, (hk.cell h2 id).trans h4, h5.keepF hk⟩
  | field => exact h
  | has => exact h
  | orElse => exact h
  | pick => exact h
/-- A judge over a schema. -/
structure JudgeAt (w : World) (j mb nn tab : Nat) (S : List FieldA) : Prop where
  map : MapAt w j mb nn S
  lt : tab < w.heap.size
  exprs : w.cell? ⟨j, 1, none⟩ = some (.slice (some ⟨tab, 0, none⟩) 26 26)
  rules : ∀ (m : Nat) (r : RuleA), (ruleL[m]?).join = some r → ∃ fv, w.cell? ⟨tab, m, none⟩ = some fv ∧ RuleV w j r fv
theorem JudgeAt.keepF {w w' : World} {j mb nn tab : Nat} {S : List FieldA} (h : JudgeAt w j mb nn tab S) (hk : Keeps (fun _ => False) w w') : JudgeAt w' j mb nn tab S :=
  ⟨h.map.keepF hk, Nat.lt_of_lt_of_le h.lt hk.size, (hk.cell h.map.lt id).trans h.exprs, fun m r hr => by
    obtain ⟨fv, h1, h2⟩ := h.rules m r hr
    exact ⟨fv, (hk.cell h.lt id).trans h1, h2.keepF hk⟩⟩
/-- The kinds of the kids, so far. -/
theorem kindsP_step (S : List FieldA) (op n : Int) (s : Txt) (kids rest : EL) (done : List KA) (all : List KA × Int)
    (h : all = if (kindsP S (.cons op n s kids rest)).2 ≠ 0 then ([], (kindsP S (.cons op n s kids rest)).2) else (done ++ (kindsP S (.cons op n s kids rest)).1, 0)) :
    ((kindP S op s kids).2 ≠ 0 → all = ([], (kindP S op s kids).2)) ∧ ((kindP S op s kids).2 = 0 → all = if (kindsP S rest).2 ≠ 0 then ([], (kindsP S rest).2) else (done ++ [(kindP S op s kids).1] ++ (kindsP S rest).1, 0)) := by
  rw [kindsP_cons] at h
  constructor
  · intro h0
    rw [if_pos h0] at h
    simpa [h0] using h
  · intro h0
    have e : ∀ A B : List KA × Int, (if (kindP S op s kids).2 ≠ 0 then A else B) = B := fun A B => if_neg (by simp [h0])
    simp only [e] at h
    by_cases h1 : (kindsP S rest).2 = 0
    · simp [h1] at h ⊢
      exact h
    · rw [if_pos h1]
      simpa [h1] using h
end Go.Proofs.YtljoacpaehmbdaaGreatDoor
namespace Go.Proofs.YtljoacpaehmbdaaGreatDoor
open Go.RowKit Go.Maps

theorem name_short {s : Txt} (h : nameB s = true) : s.length ≤ 8 := by
  unfold nameB at h
  simp only [Bool.and_eq_true, decide_eq_true_eq] at h
  exact h.1.1.1.2
theorem kidsB_range (op : Int) (h : 0 ≤ kidsB op) : ∃ m : Nat, op = m ∧ 1 ≤ m ∧ m ≤ 25 ∧ kidsB op ≤ 3 := by
  have h3 : kidsB op ≤ 3 := by
    unfold kidsB
    repeat' split
    all_goals omega
  unfold kidsB at h
  have h25 : 1 ≤ op ∧ op ≤ 25 := by
    repeat' split at h
    all_goals omega
  exact ⟨op.toNat, by omega, by omega, by omega, h3⟩
theorem kindsP_err (S : List FieldA) : ∀ l : EL, (kindsP S l).2 ≠ 0 → kindsP S l = ([], (kindsP S l).2)
  | .nil, h => absurd rfl h
  | .cons op n s kids rest, h => by
    rw [kindsP_cons] at h ⊢
    by_cases h1 : (kindP S op s kids).2 = 0
    · by_cases h2 : (kindsP S rest).2 = 0
      · simp [h1, h2] at h
      · simp [h1, h2]
    · simp [h1]
theorem root_open {op n : Int} {s : Txt} {k : Nat} (h : rootB op n s k = true) : ∃ (m : Nat) (r : RuleA), op = m ∧ m ≤ 25 ∧ (ruleL[m]?).join = some r ∧ r.kids = k ∧ k ≤ 3 ∧ (r.named = true → s.length ≤ 8) := by
  unfold rootB at h
  simp only [Bool.and_eq_true, decide_eq_true_eq] at h
  obtain ⟨h1, h2, h3⟩ := h
  obtain ⟨m, rfl, hm1, hm2, hm3⟩ := kidsB_range op h1
  obtain ⟨r, hr, hk⟩ := ruleL_kids m hm1 hm2
  refine ⟨m, r, rfl, hm2, hr, by omega, by omega, fun hn => ?_⟩
  have hq : ∀ i : Fin 26, ((ruleL[i.val]?).join).map RuleA.named = some true → i.val = 4 ∨ i.val = 5 := by decide
  have h45 := hq ⟨m, by omega⟩ (by show ((ruleL[m]?).join).map RuleA.named = some true; rw [hr]; exact congrArg some hn)
  have h45' : (m : Int) = 4 ∨ (m : Int) = 5 := by
    rcases h45 with h | h
    · exact Or.inl (by have : m = 4 := h; omega)
    · exact Or.inr (by have : m = 5 := h; omega)
  unfold leafB at h3
  rw [if_neg (by omega), if_neg (by omega), if_neg (by omega), if_pos h45'] at h3
  simp only [Bool.and_eq_true, decide_eq_true_eq] at h3
  exact name_short h3.2
/-- One kind more in its place. -/
theorem ks_step {w1 : World} {b : Nat} {c : Array Value} {k n : Nat} {done : List KA} (T : Int) (O : Bool) (hb : w1.heap[b]? = some (.cells c 73 (0, 0))) (hc : c.size = n * 2) (hk : k < n) (hl : done.length = k)
    (hd : ∀ (i : Nat) (f : KA), done[i]? = some f → c[i * 2]? = some (.int .i64 f.t) ∧ c[i * 2 + 1]? = some (.bool f.o)) :
    ∃ c2 : Array Value, ((w1.setCell ⟨b, k * 2, none⟩ (.int .i64 T)).setCell ⟨b, k * 2 + 1, none⟩ (.bool O)).heap[b]? = some (.cells c2 73 (0, 0)) ∧ c2.size = n * 2 ∧ ∀ (i : Nat) (f : KA), (done ++ [⟨T, O⟩])[i]? = some f → c2[i * 2]? = some (.int .i64 f.t) ∧ c2[i * 2 + 1]? = some (.bool f.o) := by
  refine ⟨_, heap_setCell_at (heap_setCell_at hb _) _, by simp [hc], fun i f hf => ?_⟩
  rw [List.getElem?_append] at hf
  split at hf
  · rename_i hi
    obtain ⟨h1, h2⟩ := hd i f hf
    exact ⟨by rw [Array.getElem?_setIfInBounds_ne (by omega), Array.getElem?_setIfInBounds_ne (by omega)]; exact h1, by rw [Array.getElem?_setIfInBounds_ne (by omega), Array.getElem?_setIfInBounds_ne (by omega)]; exact h2⟩
  · rename_i hi
    have hik : i = k := by
      have := (List.getElem?_eq_some_iff.1 hf).1
      simp at this
      omega
    subst hik
    rw [hl, Nat.sub_self] at hf
    simp at hf
    subst hf
    exact ⟨by simp [hc, show i * 2 < n * 2 by omega], by simp [hc, show i * 2 + 1 < n * 2 by omega]⟩
theorem ks_all {w1 : World} {b : Nat} {c : Array Value} {n : Nat} {ks : List KA} (hb : w1.heap[b]? = some (.cells c 73 (0, 0))) (hl : ks.length = n)
    (hd : ∀ (i : Nat) (f : KA), ks[i]? = some f → c[i * 2]? = some (.int .i64 f.t) ∧ c[i * 2 + 1]? = some (.bool f.o)) : KsAt w1 (.slice (some ⟨b, 0, none⟩) n n) ks := by
  subst hl
  refine ⟨⟨_, _, rfl⟩, fun _ => ⟨b, 0, _, rfl, lt_of_block hb, fun j x hx => ?_⟩, fun ao m cap e => by simp at e; omega⟩
  rw [cell_of_blk hb, Nat.zero_add]
  have hj := (List.getElem?_eq_some_iff.1 hx).1
  rw [kcs_length] at hj
  obtain ⟨f, hf⟩ : ∃ f, ks[j / 2]? = some f := ⟨_, List.getElem?_eq_getElem (by omega)⟩
  obtain ⟨h1, h2⟩ := hd _ _ hf
  rcases Nat.mod_two_eq_zero_or_one j with h | h
  · have e : j = j / 2 * 2 := by omega
    rw [e] at hx ⊢
    have := kcs_get ks (j / 2) f 0 hf (by omega)
    rw [Nat.add_zero, hx] at this
    rw [h1, this]; rfl
  · have e : j = j / 2 * 2 + 1 := by omega
    rw [e] at hx ⊢
    have := kcs_get ks (j / 2) f 1 hf (by omega)
    rw [hx] at this
    rw [h2, this]; rfl
theorem list2 {ks : List KA} (h : ks.length = 2) : ∃ a b, ks = [a, b] := by
  match ks, h with
  | [a, b], _ => exact ⟨a, b, rfl⟩
theorem list3 {ks : List KA} (h : ks.length = 3) : ∃ a b c, ks = [a, b, c] := by
  match ks, h with
  | [a, b, c], _ => exact ⟨a, b, c, rfl⟩
theorem ruleP_fit {S : List FieldA} {m : Nat} {r : RuleA} {s : Txt} {ks : List KA} (h : (ruleL[m]?).join = some r) : ruleP S (m : Int) s ks = r.fit S s ks := by
  unfold ruleP
  rw [Int.toNat_natCast, h]

end Go.Proofs.YtljoacpaehmbdaaGreatDoor
namespace Go.Proofs.YtljoacpaehmbdaaGreatDoor
open Go.RowKit Go.Maps

/-- The three blocks that the reference's walk begins with. -/
abbrev rBase (w : World) (so : Option Addr) (sn sc : Nat) (op n : Int) (s : Txt) (ao : Option Addr) (xn xc : Nat) : World := ((w.alloc (.cells #[.slice so sn sc] 26)).alloc (.cells #[.int .i64 op, .int .i64 n, str s, .slice ao xn xc] 29)).alloc (.cells #[.int .i64 0, .bool false, .int .i64 0] 58)
theorem rBase_facts (w : World) (so : Option Addr) (sn sc : Nat) (op n : Int) (s : Txt) (ao : Option Addr) (xn xc : Nat) :
    (rBase w so sn sc op n s ao xn xc).heap.size = w.heap.size + 3 ∧ Keeps (fun _ => False) w (rBase w so sn sc op n s ao xn xc) ∧ (rBase w so sn sc op n s ao xn xc).heap[w.heap.size]? = some (.cells #[.slice so sn sc] 26 (0, 0)) ∧ (rBase w so sn sc op n s ao xn xc).heap[w.heap.size + 1]? = some (.cells #[.int .i64 op, .int .i64 n, str s, .slice ao xn xc] 29 (0, 0)) ∧ (rBase w so sn sc op n s ao xn xc).heap[w.heap.size + 2]? = some (.cells #[.int .i64 0, .bool false, .int .i64 0] 58 (0, 0)) := by
  have e1 : (w.alloc (.cells #[.slice so sn sc] 26)).heap.size = w.heap.size + 1 := by simp
  have e2 : ((w.alloc (.cells #[.slice so sn sc] 26)).alloc (.cells #[.int .i64 op, .int .i64 n, str s, .slice ao xn xc] 29)).heap.size = w.heap.size + 2 := by simp
  refine ⟨by simp, (((Keeps.refl _ w).alloc _).alloc _).alloc _, ((((Keeps.refl (fun _ => False) _).alloc _).alloc _).block _ (by rw [e1]; omega) id).trans (heap_alloc_new w _), ?_, ?_⟩
  · have := heap_alloc_new (w.alloc (.cells #[.slice so sn sc] 26)) (.cells #[.int .i64 op, .int .i64 n, str s, .slice ao xn xc] 29)
    rw [e1] at this
    exact (((Keeps.refl (fun _ => False) _).alloc _).block _ (by rw [e2]; omega) id).trans this
  · have := heap_alloc_new ((w.alloc (.cells #[.slice so sn sc] 26)).alloc (.cells #[.int .i64 op, .int .i64 n, str s, .slice ao xn xc] 29)) (.cells #[.int .i64 0, .bool false, .int .i64 0] 58)
    rw [e2] at this
    exact this
/-- A struct of three cells is written over. -/
theorem set3 {w1 : World} {b : Nat} {x : Array Value} {t : TypeId} (hx : w1.heap[b]? = some (.cells x t (0, 0))) (hs : x.size = 3) (p q r : Value) :
    let w3 := ((w1.setCell ⟨b, 0, none⟩ p).setCell ⟨b, 1, none⟩ q).setCell ⟨b, 2, none⟩ r
    (w3.cell? ⟨b, 0, none⟩ = some p ∧ w3.cell? ⟨b, 1, none⟩ = some q ∧ w3.cell? ⟨b, 2, none⟩ = some r) ∧ Keeps (fun q => q = b) w1 w3 := by
  intro w3
  have hb := heap_setCell_at (o := 2) (heap_setCell_at (o := 1) (heap_setCell_at (o := 0) hx p) q) r
  refine ⟨⟨?_, ?_, ?_⟩, ((keeps_set _ _ _ _).trans (keeps_set _ _ _ _)).trans (keeps_set _ _ _ _)⟩
  all_goals (rw [cell_of_blk hb]; simp [hs])
theorem kindP_leaf (S : List FieldA) (op : Int) (s : Txt) : kindP S op s .nil = ruleP S op s [] := by simp [kindP, kindsP]

set_option maxRecDepth 100000 in
set_option maxHeartbeats 2000000 in
theorem refKind_lit (S : List FieldA) (sv : Value) (m : Nat) (n : Int) (s : Txt) (ao : Option Addr) (xn xc : Nat) (w : World) (h : FldsAt w sv S) (hm : m = 1 ∨ m = 2 ∨ m = 3 ∨ m = 6) :
    Calls Tryz.prog 25 #[.agg #[sv], exV (m : Int) n s (.slice ao xn xc)] w fun e w' => e = .returned (refV (zeroK (ruleP S (m : Int) s []))) ∧ Keeps (fun _ => False) w w' := by
  obtain ⟨so, sc, rfl⟩ := RowAt.form h
  rcases hm with rfl | rfl | rfl | rfl
  · have HF := hide (rBase_facts w so S.length sc 1 n s ao xn xc)
    clear h
    go_enter Tryz.func25, Tryz.ntmps25
    go_wp2_with fail
    refine bodyPost_ret (v := refV (⟨1, false⟩, 0)) (by simp [results, go_sem]) rfl ?_
    exact ⟨rfl, (((Keeps.refl _ w).alloc _).alloc _).alloc _⟩
  · clear h
    go_enter Tryz.func25, Tryz.ntmps25
    go_wp2_with fail
    refine bodyPost_ret (v := refV (⟨2, false⟩, 0)) (by simp [results, go_sem]) rfl ?_
    exact ⟨rfl, (((Keeps.refl _ w).alloc _).alloc _).alloc _⟩
  · clear h
    go_enter Tryz.func25, Tryz.ntmps25
    go_wp2_with fail
    refine bodyPost_ret (v := refV (⟨3, false⟩, 0)) (by simp [results, go_sem]) rfl ?_
    exact ⟨rfl, (((Keeps.refl _ w).alloc _).alloc _).alloc _⟩
  · clear h
    go_enter Tryz.func25, Tryz.ntmps25
    go_wp2_with fail
    refine bodyPost_ret (v := refV (⟨2, false⟩, 0)) (by simp [results, go_sem]) rfl ?_
    exact ⟨rfl, (((Keeps.refl _ w).alloc _).alloc _).alloc _⟩
set_option maxRecDepth 100000 in
set_option maxHeartbeats 2000000 in
theorem refKind_field (S : List FieldA) (sv : Value) (m : Nat) (n : Int) (s : Txt) (ao : Option Addr) (xn xc : Nat) (w : World) (h : FldsAt w sv S) (hl : S.length ≤ 8) (hm : m = 4 ∨ m = 5) :
    Calls Tryz.prog 25 #[.agg #[sv], exV (m : Int) n s (.slice ao xn xc)] w fun e w' => e = .returned (refV (zeroK (ruleP S (m : Int) s []))) ∧ Keeps (fun _ => False) w w' := by
  obtain ⟨so, sc, rfl⟩ := RowAt.form h
  obtain ⟨e3, hk0, b0, b1, b2⟩ := rBase_facts w so S.length sc (m : Int) n s ao xn xc
  have HC := hide (refF_v S (.slice so S.length sc) (m : Int) n s ao xn xc _ (h.keepF hk0) hl)
  have e : refNamed S (m : Int) s = zeroK (ruleP S (m : Int) s []) := by
    rcases hm with rfl | rfl
    · rfl
    · rfl
  rw [e] at HC
  obtain ⟨⟨⟨T, O⟩, E⟩, hp⟩ : ∃ p, p = zeroK (ruleP S (m : Int) s []) := ⟨_, rfl⟩
  rw [← hp] at HC ⊢
  have HK0 := hide hk0
  have B2 := hide b2
  clear h hk0 b0 b1 b2 e hp e3
  rcases hm with rfl | rfl
  · go_enter Tryz.func25, Tryz.ntmps25
    go_wp2_with (go_at_call 46; refine (unhide HC).mono ?_; rintro e w1 ⟨rfl, hk1⟩; have k2 := (hk1.block _ (lt_of_block (unhide B2)) id).trans (unhide B2); have m0 : World.cell? _ _ = some (Value.int .i64 0) := cell_of_blk k2 0; have m1 : World.cell? _ _ = some (Value.bool false) := cell_of_blk k2 1; have m2 : World.cell? _ _ = some (Value.int .i64 0) := cell_of_blk k2 2; have g0 := frozen_of_blk k2 0; have g1 := frozen_of_blk k2 1; have g2 := frozen_of_blk k2 2; have K2 := hide k2; have HK1 := hide ((unhide HK0).trans hk1); clear k2 hk1)
    obtain ⟨⟨s0, s1, s2⟩, hks⟩ := set3 (unhide K2) rfl (.int .i64 T) (.bool O) (.int .i64 E)
    refine bodyPost_ret (v := refV (⟨T, O⟩, E)) (by simp [results, go_sem, s0, s1, s2]) rfl ?_
    exact ⟨rfl, (unhide HK1).narrow hks (fun q e => by omega)⟩
  · go_enter Tryz.func25, Tryz.ntmps25
    go_wp2_with (go_at_call 46; refine (unhide HC).mono ?_; rintro e w1 ⟨rfl, hk1⟩; have k2 := (hk1.block _ (lt_of_block (unhide B2)) id).trans (unhide B2); have m0 : World.cell? _ _ = some (Value.int .i64 0) := cell_of_blk k2 0; have m1 : World.cell? _ _ = some (Value.bool false) := cell_of_blk k2 1; have m2 : World.cell? _ _ = some (Value.int .i64 0) := cell_of_blk k2 2; have g0 := frozen_of_blk k2 0; have g1 := frozen_of_blk k2 1; have g2 := frozen_of_blk k2 2; have K2 := hide k2; have HK1 := hide ((unhide HK0).trans hk1); clear k2 hk1)
    obtain ⟨⟨s0, s1, s2⟩, hks⟩ := set3 (unhide K2) rfl (.int .i64 T) (.bool O) (.int .i64 E)
    refine bodyPost_ret (v := refV (⟨T, O⟩, E)) (by simp [results, go_sem, s0, s1, s2]) rfl ?_
    exact ⟨rfl, (unhide HK1).narrow hks (fun q e => by omega)⟩
end Go.Proofs.YtljoacpaehmbdaaGreatDoor
