import Derived.Test.YtoempeobaknkcaaGreatDoorJyau
namespace Go.Proofs.YtoempeobaknkcaaGreatDoor
open Go.RowKit Go.Maps

set_option maxRecDepth 100000 in
set_option maxHeartbeats 1000000 in
theorem rule_7 (w : World) : Calls Tryz.prog 89 #[.int .i64 7] w fun e w' => e = .returned (.tuple #[.slice (some ⟨w.heap.size + 5, 0, none⟩) 1 1, .int .i64 (2)]) ∧ WAt w' (.slice (some ⟨w.heap.size + 5, 0, none⟩) 1 1) [(2, false)] ∧ Keeps (fun _ => False) w w' := by
  go_enter Tryz.func89, Tryz.ntmps89
  go_wp2_with fail
  refine bodyPost_ret (v := .tuple #[.slice (some ⟨w.heap.size + 5, 0, none⟩) 1 1, .int .i64 (2)]) (by simp [results, go_sem]) rfl ?_
  exact ⟨rfl, wants_new _ [(2, false)] _ (by simp), ((((((Keeps.refl _ w).alloc _).alloc _).alloc _).alloc _).alloc _).alloc _⟩
set_option maxRecDepth 100000 in
set_option maxHeartbeats 1000000 in
theorem rule_8 (w : World) : Calls Tryz.prog 89 #[.int .i64 8] w fun e w' => e = .returned (.tuple #[.slice (some ⟨w.heap.size + 5, 0, none⟩) 1 1, .int .i64 (1)]) ∧ WAt w' (.slice (some ⟨w.heap.size + 5, 0, none⟩) 1 1) [(1, false)] ∧ Keeps (fun _ => False) w w' := by
  go_enter Tryz.func89, Tryz.ntmps89
  go_wp2_with fail
  refine bodyPost_ret (v := .tuple #[.slice (some ⟨w.heap.size + 5, 0, none⟩) 1 1, .int .i64 (1)]) (by simp [results, go_sem]) rfl ?_
  exact ⟨rfl, wants_new _ [(1, false)] _ (by simp), ((((((Keeps.refl _ w).alloc _).alloc _).alloc _).alloc _).alloc _).alloc _⟩
set_option maxRecDepth 100000 in
set_option maxHeartbeats 1000000 in
theorem rule_9 (w : World) : Calls Tryz.prog 89 #[.int .i64 9] w fun e w' => e = .returned (.tuple #[.slice (some ⟨w.heap.size + 5, 0, none⟩) 2 2, .int .i64 (1)]) ∧ WAt w' (.slice (some ⟨w.heap.size + 5, 0, none⟩) 2 2) [(1, false), (1, false)] ∧ Keeps (fun _ => False) w w' := by
  go_enter Tryz.func89, Tryz.ntmps89
  go_wp2_with fail
  refine bodyPost_ret (v := .tuple #[.slice (some ⟨w.heap.size + 5, 0, none⟩) 2 2, .int .i64 (1)]) (by simp [results, go_sem]) rfl ?_
  exact ⟨rfl, wants_new _ [(1, false), (1, false)] _ (by simp), ((((((Keeps.refl _ w).alloc _).alloc _).alloc _).alloc _).alloc _).alloc _⟩
set_option maxRecDepth 100000 in
set_option maxHeartbeats 1000000 in
theorem rule_10 (w : World) : Calls Tryz.prog 89 #[.int .i64 10] w fun e w' => e = .returned (.tuple #[.slice (some ⟨w.heap.size + 5, 0, none⟩) 2 2, .int .i64 (1)]) ∧ WAt w' (.slice (some ⟨w.heap.size + 5, 0, none⟩) 2 2) [(1, false), (1, false)] ∧ Keeps (fun _ => False) w w' := by
  go_enter Tryz.func89, Tryz.ntmps89
  go_wp2_with fail
  refine bodyPost_ret (v := .tuple #[.slice (some ⟨w.heap.size + 5, 0, none⟩) 2 2, .int .i64 (1)]) (by simp [results, go_sem]) rfl ?_
  exact ⟨rfl, wants_new _ [(1, false), (1, false)] _ (by simp), ((((((Keeps.refl _ w).alloc _).alloc _).alloc _).alloc _).alloc _).alloc _⟩
set_option maxRecDepth 100000 in
set_option maxHeartbeats 1000000 in
theorem rule_11 (w : World) : Calls Tryz.prog 89 #[.int .i64 11] w fun e w' => e = .returned (.tuple #[.slice (some ⟨w.heap.size + 5, 0, none⟩) 2 2, .int .i64 (1)]) ∧ WAt w' (.slice (some ⟨w.heap.size + 5, 0, none⟩) 2 2) [(1, false), (1, false)] ∧ Keeps (fun _ => False) w w' := by
  go_enter Tryz.func89, Tryz.ntmps89
  go_wp2_with fail
  refine bodyPost_ret (v := .tuple #[.slice (some ⟨w.heap.size + 5, 0, none⟩) 2 2, .int .i64 (1)]) (by simp [results, go_sem]) rfl ?_
  exact ⟨rfl, wants_new _ [(1, false), (1, false)] _ (by simp), ((((((Keeps.refl _ w).alloc _).alloc _).alloc _).alloc _).alloc _).alloc _⟩
set_option maxRecDepth 100000 in
set_option maxHeartbeats 1000000 in
theorem rule_12 (w : World) : Calls Tryz.prog 89 #[.int .i64 12] w fun e w' => e = .returned (.tuple #[.slice (some ⟨w.heap.size + 5, 0, none⟩) 2 2, .int .i64 (2)]) ∧ WAt w' (.slice (some ⟨w.heap.size + 5, 0, none⟩) 2 2) [(-1, false), (-2, false)] ∧ Keeps (fun _ => False) w w' := by
  go_enter Tryz.func89, Tryz.ntmps89
  go_wp2_with fail
  refine bodyPost_ret (v := .tuple #[.slice (some ⟨w.heap.size + 5, 0, none⟩) 2 2, .int .i64 (2)]) (by simp [results, go_sem]) rfl ?_
  exact ⟨rfl, wants_new _ [(-1, false), (-2, false)] _ (by simp), ((((((Keeps.refl _ w).alloc _).alloc _).alloc _).alloc _).alloc _).alloc _⟩
set_option maxRecDepth 100000 in
set_option maxHeartbeats 1000000 in
theorem rule_13 (w : World) : Calls Tryz.prog 89 #[.int .i64 13] w fun e w' => e = .returned (.tuple #[.slice (some ⟨w.heap.size + 5, 0, none⟩) 2 2, .int .i64 (2)]) ∧ WAt w' (.slice (some ⟨w.heap.size + 5, 0, none⟩) 2 2) [(-1, false), (-2, false)] ∧ Keeps (fun _ => False) w w' := by
  go_enter Tryz.func89, Tryz.ntmps89
  go_wp2_with fail
  refine bodyPost_ret (v := .tuple #[.slice (some ⟨w.heap.size + 5, 0, none⟩) 2 2, .int .i64 (2)]) (by simp [results, go_sem]) rfl ?_
  exact ⟨rfl, wants_new _ [(-1, false), (-2, false)] _ (by simp), ((((((Keeps.refl _ w).alloc _).alloc _).alloc _).alloc _).alloc _).alloc _⟩
set_option maxRecDepth 100000 in
set_option maxHeartbeats 1000000 in
theorem rule_14 (w : World) : Calls Tryz.prog 89 #[.int .i64 14] w fun e w' => e = .returned (.tuple #[.slice (some ⟨w.heap.size + 5, 0, none⟩) 2 2, .int .i64 (2)]) ∧ WAt w' (.slice (some ⟨w.heap.size + 5, 0, none⟩) 2 2) [(-1, false), (-2, false)] ∧ Keeps (fun _ => False) w w' := by
  go_enter Tryz.func89, Tryz.ntmps89
  go_wp2_with fail
  refine bodyPost_ret (v := .tuple #[.slice (some ⟨w.heap.size + 5, 0, none⟩) 2 2, .int .i64 (2)]) (by simp [results, go_sem]) rfl ?_
  exact ⟨rfl, wants_new _ [(-1, false), (-2, false)] _ (by simp), ((((((Keeps.refl _ w).alloc _).alloc _).alloc _).alloc _).alloc _).alloc _⟩
set_option maxRecDepth 100000 in
set_option maxHeartbeats 1000000 in
theorem rule_15 (w : World) : Calls Tryz.prog 89 #[.int .i64 15] w fun e w' => e = .returned (.tuple #[.slice (some ⟨w.heap.size + 5, 0, none⟩) 2 2, .int .i64 (2)]) ∧ WAt w' (.slice (some ⟨w.heap.size + 5, 0, none⟩) 2 2) [(-1, false), (-2, false)] ∧ Keeps (fun _ => False) w w' := by
  go_enter Tryz.func89, Tryz.ntmps89
  go_wp2_with fail
  refine bodyPost_ret (v := .tuple #[.slice (some ⟨w.heap.size + 5, 0, none⟩) 2 2, .int .i64 (2)]) (by simp [results, go_sem]) rfl ?_
  exact ⟨rfl, wants_new _ [(-1, false), (-2, false)] _ (by simp), ((((((Keeps.refl _ w).alloc _).alloc _).alloc _).alloc _).alloc _).alloc _⟩
set_option maxRecDepth 100000 in
set_option maxHeartbeats 1000000 in
theorem rule_16 (w : World) : Calls Tryz.prog 89 #[.int .i64 16] w fun e w' => e = .returned (.tuple #[.slice (some ⟨w.heap.size + 5, 0, none⟩) 2 2, .int .i64 (2)]) ∧ WAt w' (.slice (some ⟨w.heap.size + 5, 0, none⟩) 2 2) [(0, false), (-2, false)] ∧ Keeps (fun _ => False) w w' := by
  go_enter Tryz.func89, Tryz.ntmps89
  go_wp2_with fail
  refine bodyPost_ret (v := .tuple #[.slice (some ⟨w.heap.size + 5, 0, none⟩) 2 2, .int .i64 (2)]) (by simp [results, go_sem]) rfl ?_
  exact ⟨rfl, wants_new _ [(0, false), (-2, false)] _ (by simp), ((((((Keeps.refl _ w).alloc _).alloc _).alloc _).alloc _).alloc _).alloc _⟩
set_option maxRecDepth 100000 in
set_option maxHeartbeats 1000000 in
theorem rule_17 (w : World) : Calls Tryz.prog 89 #[.int .i64 17] w fun e w' => e = .returned (.tuple #[.slice (some ⟨w.heap.size + 5, 0, none⟩) 2 2, .int .i64 (2)]) ∧ WAt w' (.slice (some ⟨w.heap.size + 5, 0, none⟩) 2 2) [(0, false), (-2, false)] ∧ Keeps (fun _ => False) w w' := by
  go_enter Tryz.func89, Tryz.ntmps89
  go_wp2_with fail
  refine bodyPost_ret (v := .tuple #[.slice (some ⟨w.heap.size + 5, 0, none⟩) 2 2, .int .i64 (2)]) (by simp [results, go_sem]) rfl ?_
  exact ⟨rfl, wants_new _ [(0, false), (-2, false)] _ (by simp), ((((((Keeps.refl _ w).alloc _).alloc _).alloc _).alloc _).alloc _).alloc _⟩
set_option maxRecDepth 100000 in
set_option maxHeartbeats 1000000 in
theorem rule_18 (w : World) : Calls Tryz.prog 89 #[.int .i64 18] w fun e w' => e = .returned (.tuple #[.slice (some ⟨w.heap.size + 5, 0, none⟩) 2 2, .int .i64 (2)]) ∧ WAt w' (.slice (some ⟨w.heap.size + 5, 0, none⟩) 2 2) [(2, false), (2, false)] ∧ Keeps (fun _ => False) w w' := by
  go_enter Tryz.func89, Tryz.ntmps89
  go_wp2_with fail
  refine bodyPost_ret (v := .tuple #[.slice (some ⟨w.heap.size + 5, 0, none⟩) 2 2, .int .i64 (2)]) (by simp [results, go_sem]) rfl ?_
  exact ⟨rfl, wants_new _ [(2, false), (2, false)] _ (by simp), ((((((Keeps.refl _ w).alloc _).alloc _).alloc _).alloc _).alloc _).alloc _⟩
set_option maxRecDepth 100000 in
set_option maxHeartbeats 1000000 in
theorem rule_19 (w : World) : Calls Tryz.prog 89 #[.int .i64 19] w fun e w' => e = .returned (.tuple #[.slice (some ⟨w.heap.size + 5, 0, none⟩) 2 2, .int .i64 (2)]) ∧ WAt w' (.slice (some ⟨w.heap.size + 5, 0, none⟩) 2 2) [(2, false), (2, false)] ∧ Keeps (fun _ => False) w w' := by
  go_enter Tryz.func89, Tryz.ntmps89
  go_wp2_with fail
  refine bodyPost_ret (v := .tuple #[.slice (some ⟨w.heap.size + 5, 0, none⟩) 2 2, .int .i64 (2)]) (by simp [results, go_sem]) rfl ?_
  exact ⟨rfl, wants_new _ [(2, false), (2, false)] _ (by simp), ((((((Keeps.refl _ w).alloc _).alloc _).alloc _).alloc _).alloc _).alloc _⟩
set_option maxRecDepth 100000 in
set_option maxHeartbeats 1000000 in
theorem rule_20 (w : World) : Calls Tryz.prog 89 #[.int .i64 20] w fun e w' => e = .returned (.tuple #[.slice (some ⟨w.heap.size + 5, 0, none⟩) 2 2, .int .i64 (-2)]) ∧ WAt w' (.slice (some ⟨w.heap.size + 5, 0, none⟩) 2 2) [(0, true), (-2, false)] ∧ Keeps (fun _ => False) w w' := by
  go_enter Tryz.func89, Tryz.ntmps89
  go_wp2_with fail
  refine bodyPost_ret (v := .tuple #[.slice (some ⟨w.heap.size + 5, 0, none⟩) 2 2, .int .i64 (-2)]) (by simp [results, go_sem]) rfl ?_
  exact ⟨rfl, wants_new _ [(0, true), (-2, false)] _ (by simp), ((((((Keeps.refl _ w).alloc _).alloc _).alloc _).alloc _).alloc _).alloc _⟩
set_option maxRecDepth 100000 in
set_option maxHeartbeats 1000000 in
theorem rule_21 (w : World) : Calls Tryz.prog 89 #[.int .i64 21] w fun e w' => e = .returned (.tuple #[.slice (some ⟨w.heap.size + 5, 0, none⟩) 2 2, .int .i64 (1)]) ∧ WAt w' (.slice (some ⟨w.heap.size + 5, 0, none⟩) 2 2) [(1, false), (1, false)] ∧ Keeps (fun _ => False) w w' := by
  go_enter Tryz.func89, Tryz.ntmps89
  go_wp2_with fail
  refine bodyPost_ret (v := .tuple #[.slice (some ⟨w.heap.size + 5, 0, none⟩) 2 2, .int .i64 (1)]) (by simp [results, go_sem]) rfl ?_
  exact ⟨rfl, wants_new _ [(1, false), (1, false)] _ (by simp), ((((((Keeps.refl _ w).alloc _).alloc _).alloc _).alloc _).alloc _).alloc _⟩
set_option maxRecDepth 100000 in
set_option maxHeartbeats 1000000 in
theorem rule_22 (w : World) : Calls Tryz.prog 89 #[.int .i64 22] w fun e w' => e = .returned (.tuple #[.slice (some ⟨w.heap.size + 5, 0, none⟩) 2 2, .int .i64 (1)]) ∧ WAt w' (.slice (some ⟨w.heap.size + 5, 0, none⟩) 2 2) [(1, false), (1, false)] ∧ Keeps (fun _ => False) w w' := by
  go_enter Tryz.func89, Tryz.ntmps89
  go_wp2_with fail
  refine bodyPost_ret (v := .tuple #[.slice (some ⟨w.heap.size + 5, 0, none⟩) 2 2, .int .i64 (1)]) (by simp [results, go_sem]) rfl ?_
  exact ⟨rfl, wants_new _ [(1, false), (1, false)] _ (by simp), ((((((Keeps.refl _ w).alloc _).alloc _).alloc _).alloc _).alloc _).alloc _⟩
set_option maxRecDepth 100000 in
set_option maxHeartbeats 1000000 in
theorem rule_23 (w : World) : Calls Tryz.prog 89 #[.int .i64 23] w fun e w' => e = .returned (.tuple #[.slice (some ⟨w.heap.size + 5, 0, none⟩) 1 1, .int .i64 (1)]) ∧ WAt w' (.slice (some ⟨w.heap.size + 5, 0, none⟩) 1 1) [(3, false)] ∧ Keeps (fun _ => False) w w' := by
  go_enter Tryz.func89, Tryz.ntmps89
  go_wp2_with fail
  refine bodyPost_ret (v := .tuple #[.slice (some ⟨w.heap.size + 5, 0, none⟩) 1 1, .int .i64 (1)]) (by simp [results, go_sem]) rfl ?_
  exact ⟨rfl, wants_new _ [(3, false)] _ (by simp), ((((((Keeps.refl _ w).alloc _).alloc _).alloc _).alloc _).alloc _).alloc _⟩
set_option maxRecDepth 100000 in
set_option maxHeartbeats 1000000 in
theorem rule_24 (w : World) : Calls Tryz.prog 89 #[.int .i64 24] w fun e w' => e = .returned (.tuple #[.slice (some ⟨w.heap.size + 5, 0, none⟩) 2 2, .int .i64 (3)]) ∧ WAt w' (.slice (some ⟨w.heap.size + 5, 0, none⟩) 2 2) [(3, false), (3, false)] ∧ Keeps (fun _ => False) w w' := by
  go_enter Tryz.func89, Tryz.ntmps89
  go_wp2_with fail
  refine bodyPost_ret (v := .tuple #[.slice (some ⟨w.heap.size + 5, 0, none⟩) 2 2, .int .i64 (3)]) (by simp [results, go_sem]) rfl ?_
  exact ⟨rfl, wants_new _ [(3, false), (3, false)] _ (by simp), ((((((Keeps.refl _ w).alloc _).alloc _).alloc _).alloc _).alloc _).alloc _⟩
set_option maxRecDepth 100000 in
set_option maxHeartbeats 1000000 in
theorem rule_25 (w : World) : Calls Tryz.prog 89 #[.int .i64 25] w fun e w' => e = .returned (.tuple #[.slice (some ⟨w.heap.size + 5, 0, none⟩) 3 3, .int .i64 (-3)]) ∧ WAt w' (.slice (some ⟨w.heap.size + 5, 0, none⟩) 3 3) [(2, false), (0, false), (-3, false)] ∧ Keeps (fun _ => False) w w' := by
  go_enter Tryz.func89, Tryz.ntmps89
  go_wp2_with fail
  refine bodyPost_ret (v := .tuple #[.slice (some ⟨w.heap.size + 5, 0, none⟩) 3 3, .int .i64 (-3)]) (by simp [results, go_sem]) rfl ?_
  exact ⟨rfl, wants_new _ [(2, false), (0, false), (-3, false)] _ (by simp), ((((((Keeps.refl _ w).alloc _).alloc _).alloc _).alloc _).alloc _).alloc _⟩
theorem rule_v (m : Nat) (h1 : 7 ≤ m) (h2 : m ≤ 25) (w : World) : Calls Tryz.prog 89 #[.int .i64 (m : Int)] w fun e w' => e = .returned (.tuple #[.slice (some ⟨w.heap.size + 5, 0, none⟩) (wantL m).1.length (wantL m).1.length, .int .i64 (wantL m).2]) ∧ WAt w' (.slice (some ⟨w.heap.size + 5, 0, none⟩) (wantL m).1.length (wantL m).1.length) (wantL m).1 ∧ Keeps (fun _ => False) w w' := by
  rcases (show m = 7 ∨ m = 8 ∨ m = 9 ∨ m = 10 ∨ m = 11 ∨ m = 12 ∨ m = 13 ∨ m = 14 ∨ m = 15 ∨ m = 16 ∨ m = 17 ∨ m = 18 ∨ m = 19 ∨ m = 20 ∨ m = 21 ∨ m = 22 ∨ m = 23 ∨ m = 24 ∨ m = 25 by omega) with rfl | rfl | rfl | rfl | rfl | rfl | rfl | rfl | rfl | rfl | rfl | rfl | rfl | rfl | rfl | rfl | rfl | rfl | rfl
  · exact rule_7 w
  · exact rule_8 w
  · exact rule_9 w
  · exact rule_10 w
  · exact rule_11 w
  · exact rule_12 w
  · exact rule_13 w
  · exact rule_14 w
  · exact rule_15 w
  · exact rule_16 w
  · exact rule_17 w
  · exact rule_18 w
  · exact rule_19 w
  · exact rule_20 w
  · exact rule_21 w
  · exact rule_22 w
  · exact rule_23 w
  · exact rule_24 w
  · exact rule_25 w
end Go.Proofs.YtoempeobaknkcaaGreatDoor
