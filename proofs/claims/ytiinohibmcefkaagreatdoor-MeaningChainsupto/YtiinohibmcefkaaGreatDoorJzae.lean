import Derived.Test.YtiinohibmcefkaaGreatDoorJzad
import Derived.Test.YtiinohibmcefkaaGreatDoorJzaj
namespace Go.Proofs.YtiinohibmcefkaaGreatDoor
open Go.RowKit Go.Maps
set_option maxRecDepth 100000
set_option maxHeartbeats 1000000
def wcs (l : List (Int × Bool)) : List Value := l.flatMap fun p => [.int .i64 p.1, .bool p.2]
theorem wcs_get : ∀ (l : List (Int × Bool)) (i : Nat) (x : Int × Bool) (j : Nat), l[i]? = some x → j < 2 → (wcs l)[i * 2 + j]? = [Value.int .i64 x.1, .bool x.2][j]?
 | [], i, x, j, h, _ => by simp at h
 | y :: r, 0, x, j, h, hj => by
  simp at h; subst h
  have : j < [Value.int .i64 y.1, .bool y.2].length := hj
  show (([Value.int .i64 y.1, .bool y.2] ++ wcs r))[0 * 2 + j]? = _
  rw [Nat.zero_mul, Nat.zero_add, List.getElem?_append_left this]
 | y :: r, i + 1, x, j, h, hj => by
  have ih := wcs_get r i x j (by simpa using h) hj
  show (([Value.int .i64 y.1, .bool y.2] ++ wcs r))[(i + 1) * 2 + j]? = _
  rw [List.getElem?_append_right (by simp; omega), ← ih]
  congr 1
  simp; omega
def WAt (w : World) (v : Value) (l : List (Int × Bool)) : Prop := RowAt w v l.length (wcs l)
theorem WAt.keepF {w w' : World} {v : Value} {l : List (Int × Bool)} (h : WAt w v l) (hk : Keeps (fun _ => False) w w') : WAt w' v l := RowAt.keepF h hk
theorem WAt.cells {w : World} {v : Value} {l : List (Int × Bool)} (h : WAt w v l) (h0 : 0 < l.length) :
  ∃ b off cap, v = .slice (some ⟨b, off, none⟩) l.length cap ∧ b < w.heap.size ∧ ∀ i f, l[i]? = some f → w.cell? ⟨b, off + i * 2, none⟩ = some (.int .i64 f.1) ∧ w.cell? ⟨b, off + i * 2 + 1, none⟩ = some (.bool f.2) := by
 obtain ⟨b, off, cap, e, hb, hc⟩ := RowAt.cells h h0
 refine ⟨b, off, cap, e, hb, fun i f hf => ⟨?_, ?_⟩⟩
 ·exact hc (i * 2) _ (by have := wcs_get l i f 0 hf (by omega); simpa using this)
 ·have := hc (i * 2 + 1) (.bool f.2) (by have := wcs_get l i f 1 hf (by omega); simpa using this)
  rw [show off + i * 2 + 1 = off + (i * 2 + 1) by omega]
  exact this
theorem wants_new (X : World) (l : List (Int × Bool)) (H : Nat) (hH : X.heap.size = H) : WAt (X.alloc (.cells (wcs l).toArray 181)) (.slice (some ⟨H, 0, none⟩) l.length l.length) l := by
 subst hH
 refine ⟨⟨_, _, rfl⟩, fun _ => ⟨_, 0, _, rfl, by simp, fun j x hx => ?_⟩, fun ao m cap e => by simp at e; omega⟩
 rw [cB (heap_alloc_new X _)]
 simpa using hx
def rcs (l : List KA) : List Value := l.flatMap fun k => [.int .i64 k.t, .bool k.o, .int .i64 0]
def RksAt (w : World) (v : Value) (l : List KA) : Prop := RowAt w v l.length (rcs l)
theorem RksAt.keepF {w w' : World} {v : Value} {l : List KA} (h : RksAt w v l) (hk : Keeps (fun _ => False) w w') : RksAt w' v l := RowAt.keepF h hk
theorem RksAt.cells {w : World} {v : Value} {l : List KA} (h : RksAt w v l) (h0 : 0 < l.length) :
  ∃ b off cap, v = .slice (some ⟨b, off, none⟩) l.length cap ∧ b < w.heap.size ∧ ∀ i f, l[i]? = some f → w.cell? ⟨b, off + i * 3, none⟩ = some (.int .i64 f.t) ∧ w.cell? ⟨b, off + i * 3 + 1, none⟩ = some (.bool f.o) := by
 obtain ⟨b, off, cap, e, hb, hc⟩ := RowAt.cells h h0
 refine ⟨b, off, cap, e, hb, fun i f hf => ⟨?_, ?_⟩⟩
 ·exact hc (i * 3) _ (by have := flat_get (fun k : KA => [Value.int .i64 k.t, .bool k.o, .int .i64 0]) (fun _ => rfl) l i f 0 hf (by omega); simpa [rcs] using this)
 ·have := hc (i * 3 + 1) (.bool f.o) (by have := flat_get (fun k : KA => [Value.int .i64 k.t, .bool k.o, .int .i64 0]) (fun _ => rfl) l i f 1 hf (by omega); simpa [rcs] using this)
  rw [show off + i * 3 + 1 = off + (i * 3 + 1) by omega]
  exact this
theorem asked_v (q t : Int) (ks : List KA) (v : Value) (w : World) (h : RksAt w v ks) (h2 : q = -2 → 0 < ks.length) (h3 : q = -3 → 1 < ks.length) :
  Calls Tryz.prog 151 #[.int .i64 q, .int .i64 t, v] w fun e w' => e = .returned (.bool (askedB q t ks)) ∧ w' = w := by
 unfold askedB
 by_cases q0 : q = 0
 ·rw [if_pos q0]
  subst q0
  obtain ⟨ko, kc, rfl⟩ := RowAt.form h
  go_enter Tryz.func151, Tryz.ntmps151
  go_wp2_with fail
  go_ret
  exact ⟨rfl, rfl⟩
 rw [if_neg q0]
 have d0 : (q == 0) = false := by simpa using q0
 by_cases q1 : q = -1
 ·rw [if_pos q1]
  subst q1
  obtain ⟨ko, kc, rfl⟩ := RowAt.form h
  clear h2 h3 d0 q0
  by_cases t1 : t = 1
  ·subst t1
   go_enter Tryz.func151, Tryz.ntmps151
   go_wp2_with fail
   go_ret
   exact ⟨rfl, rfl⟩
  ·have e1 : (t == 1) = false := by simpa using t1
   rw [decide_eq_false t1, Bool.false_or]
   clear t1
   go_enter Tryz.func151, Tryz.ntmps151
   go_wp2_with fail
   go_ret
   exact ⟨ret_bool (by first | rfl | simp), rfl⟩
 rw [if_neg q1]
 have d1 : (q == -1) = false := by simpa using q1
 by_cases q2 : q = -2
 ·rw [if_pos q2]
  obtain ⟨b, off, c, rfl, hb, hc⟩ := h.cells (h2 q2)
  have hl := h2 q2
  obtain ⟨k0, hk0⟩ : ∃ k, ks[0]? = some k := ⟨_, List.getElem?_eq_getElem hl⟩
  have c0 := (hc 0 k0 hk0).1
  have e0 : kth ks 0 = k0 := by simp [kth, List.getD, hk0]
  rw [e0]
  simp only [Nat.zero_mul, Nat.add_zero] at c0
  have i1 : (0 : Int) < (ks.length : Int) := by omega
  subst q2
  clear h2 h3 d0 d1 q0 q1 hc h hk0 e0
  go_enter Tryz.func151, Tryz.ntmps151
  go_wp2_with fail
  go_ret
  exact ⟨ret_bool (by first | rfl | simp), rfl⟩
 rw [if_neg q2]
 have d2 : (q == -2) = false := by simpa using q2
 by_cases q3 : q = -3
 ·rw [if_pos q3]
  have hl := h3 q3
  obtain ⟨b, off, c, rfl, hb, hc⟩ := h.cells (by omega)
  obtain ⟨k0, hk0⟩ : ∃ k, ks[1]? = some k := ⟨_, List.getElem?_eq_getElem hl⟩
  have c0 := (hc 1 k0 hk0).1
  have e0 : kth ks 1 = k0 := by simp [kth, List.getD, hk0]
  rw [e0]
  simp only [Nat.one_mul] at c0
  have i1 : (1 : Int) < (ks.length : Int) := by omega
  subst q3
  clear h2 h3 d0 d1 d2 q0 q1 q2 hc h hk0 e0
  go_enter Tryz.func151, Tryz.ntmps151
  go_wp2_with fail
  go_ret
  exact ⟨ret_bool (by first | rfl | simp), rfl⟩
 rw [if_neg q3]
 have d3 : (q == -3) = false := by simpa using q3
 obtain ⟨ko, kc, rfl⟩ := RowAt.form h
 clear h2 h3 q0 q1 q2 q3 h
 go_enter Tryz.func151, Tryz.ntmps151
 go_wp2_with fail
 go_ret
 exact ⟨ret_bool (by first | rfl | simp), rfl⟩
end Go.Proofs.YtiinohibmcefkaaGreatDoor
namespace Go.Proofs.YtiinohibmcefkaaGreatDoor
open Go.RowKit Go.Maps
set_option maxRecDepth 100000
set_option maxHeartbeats 1000000
theorem rule_7 (w : World) : Calls Tryz.prog 150 #[.int .i64 7] w fun e w' => e = .returned (.tuple #[.slice (some ⟨w.heap.size + 5, 0, none⟩) 1 1, .int .i64 (2)]) ∧ WAt w' (.slice (some ⟨w.heap.size + 5, 0, none⟩) 1 1) [(2, false)] ∧ Keeps (fun _ => False) w w' := by
 go_enter Tryz.func150, Tryz.ntmps150
 go_wp2_with fail
 refine bodyPost_ret (v := .tuple #[.slice (some ⟨w.heap.size + 5, 0, none⟩) 1 1, .int .i64 (2)]) (by simp [results, go_sem]) rfl ?_
 exact ⟨rfl, wants_new _ [(2, false)] _ (by simp), ((((((Keeps.refl _ w).alloc _).alloc _).alloc _).alloc _).alloc _).alloc _⟩
theorem rule_8 (w : World) : Calls Tryz.prog 150 #[.int .i64 8] w fun e w' => e = .returned (.tuple #[.slice (some ⟨w.heap.size + 5, 0, none⟩) 1 1, .int .i64 (1)]) ∧ WAt w' (.slice (some ⟨w.heap.size + 5, 0, none⟩) 1 1) [(1, false)] ∧ Keeps (fun _ => False) w w' := by
 go_enter Tryz.func150, Tryz.ntmps150
 go_wp2_with fail
 refine bodyPost_ret (v := .tuple #[.slice (some ⟨w.heap.size + 5, 0, none⟩) 1 1, .int .i64 (1)]) (by simp [results, go_sem]) rfl ?_
 exact ⟨rfl, wants_new _ [(1, false)] _ (by simp), ((((((Keeps.refl _ w).alloc _).alloc _).alloc _).alloc _).alloc _).alloc _⟩
theorem rule_9 (w : World) : Calls Tryz.prog 150 #[.int .i64 9] w fun e w' => e = .returned (.tuple #[.slice (some ⟨w.heap.size + 5, 0, none⟩) 2 2, .int .i64 (1)]) ∧ WAt w' (.slice (some ⟨w.heap.size + 5, 0, none⟩) 2 2) [(1, false), (1, false)] ∧ Keeps (fun _ => False) w w' := by
 go_enter Tryz.func150, Tryz.ntmps150
 go_wp2_with fail
 refine bodyPost_ret (v := .tuple #[.slice (some ⟨w.heap.size + 5, 0, none⟩) 2 2, .int .i64 (1)]) (by simp [results, go_sem]) rfl ?_
 exact ⟨rfl, wants_new _ [(1, false), (1, false)] _ (by simp), ((((((Keeps.refl _ w).alloc _).alloc _).alloc _).alloc _).alloc _).alloc _⟩
theorem rule_10 (w : World) : Calls Tryz.prog 150 #[.int .i64 10] w fun e w' => e = .returned (.tuple #[.slice (some ⟨w.heap.size + 5, 0, none⟩) 2 2, .int .i64 (1)]) ∧ WAt w' (.slice (some ⟨w.heap.size + 5, 0, none⟩) 2 2) [(1, false), (1, false)] ∧ Keeps (fun _ => False) w w' := by
 go_enter Tryz.func150, Tryz.ntmps150
 go_wp2_with fail
 refine bodyPost_ret (v := .tuple #[.slice (some ⟨w.heap.size + 5, 0, none⟩) 2 2, .int .i64 (1)]) (by simp [results, go_sem]) rfl ?_
 exact ⟨rfl, wants_new _ [(1, false), (1, false)] _ (by simp), ((((((Keeps.refl _ w).alloc _).alloc _).alloc _).alloc _).alloc _).alloc _⟩
theorem rule_11 (w : World) : Calls Tryz.prog 150 #[.int .i64 11] w fun e w' => e = .returned (.tuple #[.slice (some ⟨w.heap.size + 5, 0, none⟩) 2 2, .int .i64 (1)]) ∧ WAt w' (.slice (some ⟨w.heap.size + 5, 0, none⟩) 2 2) [(1, false), (1, false)] ∧ Keeps (fun _ => False) w w' := by
 go_enter Tryz.func150, Tryz.ntmps150
 go_wp2_with fail
 refine bodyPost_ret (v := .tuple #[.slice (some ⟨w.heap.size + 5, 0, none⟩) 2 2, .int .i64 (1)]) (by simp [results, go_sem]) rfl ?_
 exact ⟨rfl, wants_new _ [(1, false), (1, false)] _ (by simp), ((((((Keeps.refl _ w).alloc _).alloc _).alloc _).alloc _).alloc _).alloc _⟩
theorem rule_12 (w : World) : Calls Tryz.prog 150 #[.int .i64 12] w fun e w' => e = .returned (.tuple #[.slice (some ⟨w.heap.size + 5, 0, none⟩) 2 2, .int .i64 (2)]) ∧ WAt w' (.slice (some ⟨w.heap.size + 5, 0, none⟩) 2 2) [(-1, false), (-2, false)] ∧ Keeps (fun _ => False) w w' := by
 go_enter Tryz.func150, Tryz.ntmps150
 go_wp2_with fail
 refine bodyPost_ret (v := .tuple #[.slice (some ⟨w.heap.size + 5, 0, none⟩) 2 2, .int .i64 (2)]) (by simp [results, go_sem]) rfl ?_
 exact ⟨rfl, wants_new _ [(-1, false), (-2, false)] _ (by simp), ((((((Keeps.refl _ w).alloc _).alloc _).alloc _).alloc _).alloc _).alloc _⟩
theorem rule_13 (w : World) : Calls Tryz.prog 150 #[.int .i64 13] w fun e w' => e = .returned (.tuple #[.slice (some ⟨w.heap.size + 5, 0, none⟩) 2 2, .int .i64 (2)]) ∧ WAt w' (.slice (some ⟨w.heap.size + 5, 0, none⟩) 2 2) [(-1, false), (-2, false)] ∧ Keeps (fun _ => False) w w' := by
 go_enter Tryz.func150, Tryz.ntmps150
 go_wp2_with fail
 refine bodyPost_ret (v := .tuple #[.slice (some ⟨w.heap.size + 5, 0, none⟩) 2 2, .int .i64 (2)]) (by simp [results, go_sem]) rfl ?_
 exact ⟨rfl, wants_new _ [(-1, false), (-2, false)] _ (by simp), ((((((Keeps.refl _ w).alloc _).alloc _).alloc _).alloc _).alloc _).alloc _⟩
theorem rule_14 (w : World) : Calls Tryz.prog 150 #[.int .i64 14] w fun e w' => e = .returned (.tuple #[.slice (some ⟨w.heap.size + 5, 0, none⟩) 2 2, .int .i64 (2)]) ∧ WAt w' (.slice (some ⟨w.heap.size + 5, 0, none⟩) 2 2) [(-1, false), (-2, false)] ∧ Keeps (fun _ => False) w w' := by
 go_enter Tryz.func150, Tryz.ntmps150
 go_wp2_with fail
 refine bodyPost_ret (v := .tuple #[.slice (some ⟨w.heap.size + 5, 0, none⟩) 2 2, .int .i64 (2)]) (by simp [results, go_sem]) rfl ?_
 exact ⟨rfl, wants_new _ [(-1, false), (-2, false)] _ (by simp), ((((((Keeps.refl _ w).alloc _).alloc _).alloc _).alloc _).alloc _).alloc _⟩
theorem rule_15 (w : World) : Calls Tryz.prog 150 #[.int .i64 15] w fun e w' => e = .returned (.tuple #[.slice (some ⟨w.heap.size + 5, 0, none⟩) 2 2, .int .i64 (2)]) ∧ WAt w' (.slice (some ⟨w.heap.size + 5, 0, none⟩) 2 2) [(-1, false), (-2, false)] ∧ Keeps (fun _ => False) w w' := by
 go_enter Tryz.func150, Tryz.ntmps150
 go_wp2_with fail
 refine bodyPost_ret (v := .tuple #[.slice (some ⟨w.heap.size + 5, 0, none⟩) 2 2, .int .i64 (2)]) (by simp [results, go_sem]) rfl ?_
 exact ⟨rfl, wants_new _ [(-1, false), (-2, false)] _ (by simp), ((((((Keeps.refl _ w).alloc _).alloc _).alloc _).alloc _).alloc _).alloc _⟩
theorem rule_16 (w : World) : Calls Tryz.prog 150 #[.int .i64 16] w fun e w' => e = .returned (.tuple #[.slice (some ⟨w.heap.size + 5, 0, none⟩) 2 2, .int .i64 (2)]) ∧ WAt w' (.slice (some ⟨w.heap.size + 5, 0, none⟩) 2 2) [(0, false), (-2, false)] ∧ Keeps (fun _ => False) w w' := by
 go_enter Tryz.func150, Tryz.ntmps150
 go_wp2_with fail
 refine bodyPost_ret (v := .tuple #[.slice (some ⟨w.heap.size + 5, 0, none⟩) 2 2, .int .i64 (2)]) (by simp [results, go_sem]) rfl ?_
 exact ⟨rfl, wants_new _ [(0, false), (-2, false)] _ (by simp), ((((((Keeps.refl _ w).alloc _).alloc _).alloc _).alloc _).alloc _).alloc _⟩
theorem rule_17 (w : World) : Calls Tryz.prog 150 #[.int .i64 17] w fun e w' => e = .returned (.tuple #[.slice (some ⟨w.heap.size + 5, 0, none⟩) 2 2, .int .i64 (2)]) ∧ WAt w' (.slice (some ⟨w.heap.size + 5, 0, none⟩) 2 2) [(0, false), (-2, false)] ∧ Keeps (fun _ => False) w w' := by
 go_enter Tryz.func150, Tryz.ntmps150
 go_wp2_with fail
 refine bodyPost_ret (v := .tuple #[.slice (some ⟨w.heap.size + 5, 0, none⟩) 2 2, .int .i64 (2)]) (by simp [results, go_sem]) rfl ?_
 exact ⟨rfl, wants_new _ [(0, false), (-2, false)] _ (by simp), ((((((Keeps.refl _ w).alloc _).alloc _).alloc _).alloc _).alloc _).alloc _⟩
theorem rule_18 (w : World) : Calls Tryz.prog 150 #[.int .i64 18] w fun e w' => e = .returned (.tuple #[.slice (some ⟨w.heap.size + 5, 0, none⟩) 2 2, .int .i64 (2)]) ∧ WAt w' (.slice (some ⟨w.heap.size + 5, 0, none⟩) 2 2) [(2, false), (2, false)] ∧ Keeps (fun _ => False) w w' := by
 go_enter Tryz.func150, Tryz.ntmps150
 go_wp2_with fail
 refine bodyPost_ret (v := .tuple #[.slice (some ⟨w.heap.size + 5, 0, none⟩) 2 2, .int .i64 (2)]) (by simp [results, go_sem]) rfl ?_
 exact ⟨rfl, wants_new _ [(2, false), (2, false)] _ (by simp), ((((((Keeps.refl _ w).alloc _).alloc _).alloc _).alloc _).alloc _).alloc _⟩
theorem rule_19 (w : World) : Calls Tryz.prog 150 #[.int .i64 19] w fun e w' => e = .returned (.tuple #[.slice (some ⟨w.heap.size + 5, 0, none⟩) 2 2, .int .i64 (2)]) ∧ WAt w' (.slice (some ⟨w.heap.size + 5, 0, none⟩) 2 2) [(2, false), (2, false)] ∧ Keeps (fun _ => False) w w' := by
 go_enter Tryz.func150, Tryz.ntmps150
 go_wp2_with fail
 refine bodyPost_ret (v := .tuple #[.slice (some ⟨w.heap.size + 5, 0, none⟩) 2 2, .int .i64 (2)]) (by simp [results, go_sem]) rfl ?_
 exact ⟨rfl, wants_new _ [(2, false), (2, false)] _ (by simp), ((((((Keeps.refl _ w).alloc _).alloc _).alloc _).alloc _).alloc _).alloc _⟩
theorem rule_20 (w : World) : Calls Tryz.prog 150 #[.int .i64 20] w fun e w' => e = .returned (.tuple #[.slice (some ⟨w.heap.size + 5, 0, none⟩) 2 2, .int .i64 (-2)]) ∧ WAt w' (.slice (some ⟨w.heap.size + 5, 0, none⟩) 2 2) [(0, true), (-2, false)] ∧ Keeps (fun _ => False) w w' := by
 go_enter Tryz.func150, Tryz.ntmps150
 go_wp2_with fail
 refine bodyPost_ret (v := .tuple #[.slice (some ⟨w.heap.size + 5, 0, none⟩) 2 2, .int .i64 (-2)]) (by simp [results, go_sem]) rfl ?_
 exact ⟨rfl, wants_new _ [(0, true), (-2, false)] _ (by simp), ((((((Keeps.refl _ w).alloc _).alloc _).alloc _).alloc _).alloc _).alloc _⟩
theorem rule_21 (w : World) : Calls Tryz.prog 150 #[.int .i64 21] w fun e w' => e = .returned (.tuple #[.slice (some ⟨w.heap.size + 5, 0, none⟩) 2 2, .int .i64 (1)]) ∧ WAt w' (.slice (some ⟨w.heap.size + 5, 0, none⟩) 2 2) [(1, false), (1, false)] ∧ Keeps (fun _ => False) w w' := by
 go_enter Tryz.func150, Tryz.ntmps150
 go_wp2_with fail
 refine bodyPost_ret (v := .tuple #[.slice (some ⟨w.heap.size + 5, 0, none⟩) 2 2, .int .i64 (1)]) (by simp [results, go_sem]) rfl ?_
 exact ⟨rfl, wants_new _ [(1, false), (1, false)] _ (by simp), ((((((Keeps.refl _ w).alloc _).alloc _).alloc _).alloc _).alloc _).alloc _⟩
theorem rule_22 (w : World) : Calls Tryz.prog 150 #[.int .i64 22] w fun e w' => e = .returned (.tuple #[.slice (some ⟨w.heap.size + 5, 0, none⟩) 2 2, .int .i64 (1)]) ∧ WAt w' (.slice (some ⟨w.heap.size + 5, 0, none⟩) 2 2) [(1, false), (1, false)] ∧ Keeps (fun _ => False) w w' := by
 go_enter Tryz.func150, Tryz.ntmps150
 go_wp2_with fail
 refine bodyPost_ret (v := .tuple #[.slice (some ⟨w.heap.size + 5, 0, none⟩) 2 2, .int .i64 (1)]) (by simp [results, go_sem]) rfl ?_
 exact ⟨rfl, wants_new _ [(1, false), (1, false)] _ (by simp), ((((((Keeps.refl _ w).alloc _).alloc _).alloc _).alloc _).alloc _).alloc _⟩
theorem rule_23 (w : World) : Calls Tryz.prog 150 #[.int .i64 23] w fun e w' => e = .returned (.tuple #[.slice (some ⟨w.heap.size + 5, 0, none⟩) 1 1, .int .i64 (1)]) ∧ WAt w' (.slice (some ⟨w.heap.size + 5, 0, none⟩) 1 1) [(3, false)] ∧ Keeps (fun _ => False) w w' := by
 go_enter Tryz.func150, Tryz.ntmps150
 go_wp2_with fail
 refine bodyPost_ret (v := .tuple #[.slice (some ⟨w.heap.size + 5, 0, none⟩) 1 1, .int .i64 (1)]) (by simp [results, go_sem]) rfl ?_
 exact ⟨rfl, wants_new _ [(3, false)] _ (by simp), ((((((Keeps.refl _ w).alloc _).alloc _).alloc _).alloc _).alloc _).alloc _⟩
theorem rule_24 (w : World) : Calls Tryz.prog 150 #[.int .i64 24] w fun e w' => e = .returned (.tuple #[.slice (some ⟨w.heap.size + 5, 0, none⟩) 2 2, .int .i64 (3)]) ∧ WAt w' (.slice (some ⟨w.heap.size + 5, 0, none⟩) 2 2) [(3, false), (3, false)] ∧ Keeps (fun _ => False) w w' := by
 go_enter Tryz.func150, Tryz.ntmps150
 go_wp2_with fail
 refine bodyPost_ret (v := .tuple #[.slice (some ⟨w.heap.size + 5, 0, none⟩) 2 2, .int .i64 (3)]) (by simp [results, go_sem]) rfl ?_
 exact ⟨rfl, wants_new _ [(3, false), (3, false)] _ (by simp), ((((((Keeps.refl _ w).alloc _).alloc _).alloc _).alloc _).alloc _).alloc _⟩
theorem rule_25 (w : World) : Calls Tryz.prog 150 #[.int .i64 25] w fun e w' => e = .returned (.tuple #[.slice (some ⟨w.heap.size + 5, 0, none⟩) 3 3, .int .i64 (-3)]) ∧ WAt w' (.slice (some ⟨w.heap.size + 5, 0, none⟩) 3 3) [(2, false), (0, false), (-3, false)] ∧ Keeps (fun _ => False) w w' := by
 go_enter Tryz.func150, Tryz.ntmps150
 go_wp2_with fail
 refine bodyPost_ret (v := .tuple #[.slice (some ⟨w.heap.size + 5, 0, none⟩) 3 3, .int .i64 (-3)]) (by simp [results, go_sem]) rfl ?_
 exact ⟨rfl, wants_new _ [(2, false), (0, false), (-3, false)] _ (by simp), ((((((Keeps.refl _ w).alloc _).alloc _).alloc _).alloc _).alloc _).alloc _⟩
theorem rule_v (m : Nat) (h1 : 7 ≤ m) (h2 : m ≤ 25) (w : World) : Calls Tryz.prog 150 #[.int .i64 (m : Int)] w fun e w' => e = .returned (.tuple #[.slice (some ⟨w.heap.size + 5, 0, none⟩) (wantL m).1.length (wantL m).1.length, .int .i64 (wantL m).2]) ∧ WAt w' (.slice (some ⟨w.heap.size + 5, 0, none⟩) (wantL m).1.length (wantL m).1.length) (wantL m).1 ∧ Keeps (fun _ => False) w w' := by
 rcases (show m = 7 ∨ m = 8 ∨ m = 9 ∨ m = 10 ∨ m = 11 ∨ m = 12 ∨ m = 13 ∨ m = 14 ∨ m = 15 ∨ m = 16 ∨ m = 17 ∨ m = 18 ∨ m = 19 ∨ m = 20 ∨ m = 21 ∨ m = 22 ∨ m = 23 ∨ m = 24 ∨ m = 25 by omega) with rfl | rfl | rfl | rfl | rfl | rfl | rfl | rfl | rfl | rfl | rfl | rfl | rfl | rfl | rfl | rfl | rfl | rfl | rfl
 ·exact rule_7 w
 ·exact rule_8 w
 ·exact rule_9 w
 ·exact rule_10 w
 ·exact rule_11 w
 ·exact rule_12 w
 ·exact rule_13 w
 ·exact rule_14 w
 ·exact rule_15 w
 ·exact rule_16 w
 ·exact rule_17 w
 ·exact rule_18 w
 ·exact rule_19 w
 ·exact rule_20 w
 ·exact rule_21 w
 ·exact rule_22 w
 ·exact rule_23 w
 ·exact rule_24 w
 ·exact rule_25 w
end Go.Proofs.YtiinohibmcefkaaGreatDoor
namespace Go.Proofs.YtiinohibmcefkaaGreatDoor
open Go.RowKit Go.Maps
set_option maxRecDepth 100000
set_option maxHeartbeats 2000000
abbrev rBase (w : World) (so : Option Addr) (sn sc : Nat) (op n : Int) (s : Txt) (ao : Option Addr) (xn xc : Nat) : World := ((w.alloc (.cells #[.slice so sn sc] 24)).alloc (.cells #[.int .i64 op, .int .i64 n, str s, .slice ao xn xc] 27)).alloc (.cells #[.int .i64 0, .bool false, .int .i64 0] 134)
theorem rBase_facts (w : World) (so : Option Addr) (sn sc : Nat) (op n : Int) (s : Txt) (ao : Option Addr) (xn xc : Nat) :
  (rBase w so sn sc op n s ao xn xc).heap.size = w.heap.size + 3 ∧ Keeps (fun _ => False) w (rBase w so sn sc op n s ao xn xc) ∧ (rBase w so sn sc op n s ao xn xc).heap[w.heap.size]? = some (.cells #[.slice so sn sc] 24 (0, 0)) ∧ (rBase w so sn sc op n s ao xn xc).heap[w.heap.size + 1]? = some (.cells #[.int .i64 op, .int .i64 n, str s, .slice ao xn xc] 27 (0, 0)) ∧ (rBase w so sn sc op n s ao xn xc).heap[w.heap.size + 2]? = some (.cells #[.int .i64 0, .bool false, .int .i64 0] 134 (0, 0)) := by
 have e1 : (w.alloc (.cells #[.slice so sn sc] 24)).heap.size = w.heap.size + 1 := by simp
 have e2 : ((w.alloc (.cells #[.slice so sn sc] 24)).alloc (.cells #[.int .i64 op, .int .i64 n, str s, .slice ao xn xc] 27)).heap.size = w.heap.size + 2 := by simp
 refine ⟨by simp, (((Keeps.refl _ w).alloc _).alloc _).alloc _, ((((Keeps.refl (fun _ => False) _).alloc _).alloc _).block _ (by rw [e1]; omega) id).trans (heap_alloc_new w _), ?_, ?_⟩
 ·have := heap_alloc_new (w.alloc (.cells #[.slice so sn sc] 24)) (.cells #[.int .i64 op, .int .i64 n, str s, .slice ao xn xc] 27)
  rw [e1] at this
  exact (((Keeps.refl (fun _ => False) _).alloc _).block _ (by rw [e2]; omega) id).trans this
 ·have := heap_alloc_new ((w.alloc (.cells #[.slice so sn sc] 24)).alloc (.cells #[.int .i64 op, .int .i64 n, str s, .slice ao xn xc] 27)) (.cells #[.int .i64 0, .bool false, .int .i64 0] 134)
  rw [e2] at this
  exact this
theorem set3 {w1 : World} {b : Nat} {x : Array Value} {t : TypeId} (hx : w1.heap[b]? = some (.cells x t (0, 0))) (hs : x.size = 3) (p q r : Value) :
  let w3 := ((w1.setCell ⟨b, 0, none⟩ p).setCell ⟨b, 1, none⟩ q).setCell ⟨b, 2, none⟩ r
  (w3.cell? ⟨b, 0, none⟩ = some p ∧ w3.cell? ⟨b, 1, none⟩ = some q ∧ w3.cell? ⟨b, 2, none⟩ = some r) ∧ Keeps (fun q => q = b) w1 w3 := by
 intro w3
 have hb := heap_setCell_at (o := 2) (heap_setCell_at (o := 1) (heap_setCell_at (o := 0) hx p) q) r
 refine ⟨⟨?_, ?_, ?_⟩, ((keeps_set _ _ _ _).trans (keeps_set _ _ _ _)).trans (keeps_set _ _ _ _)⟩
 all_goals (rw [cB hb]; simp [hs])
theorem kindP_leaf (S : List FieldA) (op : Int) (s : Txt) : kindP S op s .nil = ruleP S op s [] := by simp [kindP, kindsP]
theorem refKind_lit (S : List FieldA) (sv : Value) (m : Nat) (n : Int) (s : Txt) (ao : Option Addr) (xn xc : Nat) (w : World) (h : FldsAt w sv S) (hm : m = 1 ∨ m = 2 ∨ m = 3 ∨ m = 6) :
  Calls Tryz.prog 87 #[.agg #[sv], exV (m : Int) n s (.slice ao xn xc)] w fun e w' => e = .returned (refV (zeroK (ruleP S (m : Int) s []))) ∧ Keeps (fun _ => False) w w' := by
 obtain ⟨so, sc, rfl⟩ := RowAt.form h
 rcases hm with rfl | rfl | rfl | rfl
 ·have HF := hide (rBase_facts w so S.length sc 1 n s ao xn xc)
  clear h
  go_enter Tryz.func87, Tryz.ntmps87
  go_wp2_with fail
  refine bodyPost_ret (v := refV (⟨1, false⟩, 0)) (by simp [results, go_sem]) rfl ?_
  exact ⟨rfl, (((Keeps.refl _ w).alloc _).alloc _).alloc _⟩
 ·clear h
  go_enter Tryz.func87, Tryz.ntmps87
  go_wp2_with fail
  refine bodyPost_ret (v := refV (⟨2, false⟩, 0)) (by simp [results, go_sem]) rfl ?_
  exact ⟨rfl, (((Keeps.refl _ w).alloc _).alloc _).alloc _⟩
 ·clear h
  go_enter Tryz.func87, Tryz.ntmps87
  go_wp2_with fail
  refine bodyPost_ret (v := refV (⟨3, false⟩, 0)) (by simp [results, go_sem]) rfl ?_
  exact ⟨rfl, (((Keeps.refl _ w).alloc _).alloc _).alloc _⟩
 ·clear h
  go_enter Tryz.func87, Tryz.ntmps87
  go_wp2_with fail
  refine bodyPost_ret (v := refV (⟨2, false⟩, 0)) (by simp [results, go_sem]) rfl ?_
  exact ⟨rfl, (((Keeps.refl _ w).alloc _).alloc _).alloc _⟩
theorem refKind_field (S : List FieldA) (sv : Value) (m : Nat) (n : Int) (s : Txt) (ao : Option Addr) (xn xc : Nat) (w : World) (h : FldsAt w sv S) (hl : S.length ≤ 8) (hm : m = 4 ∨ m = 5) :
  Calls Tryz.prog 87 #[.agg #[sv], exV (m : Int) n s (.slice ao xn xc)] w fun e w' => e = .returned (refV (zeroK (ruleP S (m : Int) s []))) ∧ Keeps (fun _ => False) w w' := by
 obtain ⟨so, sc, rfl⟩ := RowAt.form h
 obtain ⟨e3, hk0, b0, b1, b2⟩ := rBase_facts w so S.length sc (m : Int) n s ao xn xc
 have HC := hide (refF_v S (.slice so S.length sc) (m : Int) n s ao xn xc _ (h.keepF hk0) hl)
 have e : refNamed S (m : Int) s = zeroK (ruleP S (m : Int) s []) := by
  rcases hm with rfl | rfl
  ·rfl
  ·rfl
 rw [e] at HC
 obtain ⟨⟨⟨T, O⟩, E⟩, hp⟩ : ∃ p, p = zeroK (ruleP S (m : Int) s []) := ⟨_, rfl⟩
 rw [← hp] at HC ⊢
 have HK0 := hide hk0
 have B2 := hide b2
 clear h hk0 b0 b1 b2 e hp e3
 rcases hm with rfl | rfl
 ·go_enter Tryz.func87, Tryz.ntmps87
  go_wp2_with (go_at_call 149; refine (uh HC).mono ?_; rintro e w1 ⟨rfl, hk1⟩; have k2 := (hk1.block _ (lt_of_block (uh B2)) id).trans (uh B2); have m0 : World.cell? _ _ = some (Value.int .i64 0) := cB k2 0; have m1 : World.cell? _ _ = some (Value.bool false) := cB k2 1; have m2 : World.cell? _ _ = some (Value.int .i64 0) := cB k2 2; have g0 := fB k2 0; have g1 := fB k2 1; have g2 := fB k2 2; have K2 := hide k2; have HK1 := hide ((uh HK0).trans hk1); clear k2 hk1)
  obtain ⟨⟨s0, s1, s2⟩, hks⟩ := set3 (uh K2) rfl (.int .i64 T) (.bool O) (.int .i64 E)
  refine bodyPost_ret (v := refV (⟨T, O⟩, E)) (by simp [results, go_sem, s0, s1, s2]) rfl ?_
  exact ⟨rfl, (uh HK1).narrow hks (fun q e => by omega)⟩
 ·go_enter Tryz.func87, Tryz.ntmps87
  go_wp2_with (go_at_call 149; refine (uh HC).mono ?_; rintro e w1 ⟨rfl, hk1⟩; have k2 := (hk1.block _ (lt_of_block (uh B2)) id).trans (uh B2); have m0 : World.cell? _ _ = some (Value.int .i64 0) := cB k2 0; have m1 : World.cell? _ _ = some (Value.bool false) := cB k2 1; have m2 : World.cell? _ _ = some (Value.int .i64 0) := cB k2 2; have g0 := fB k2 0; have g1 := fB k2 1; have g2 := fB k2 2; have K2 := hide k2; have HK1 := hide ((uh HK0).trans hk1); clear k2 hk1)
  obtain ⟨⟨s0, s1, s2⟩, hks⟩ := set3 (uh K2) rfl (.int .i64 T) (.bool O) (.int .i64 E)
  refine bodyPost_ret (v := refV (⟨T, O⟩, E)) (by simp [results, go_sem, s0, s1, s2]) rfl ?_
  exact ⟨rfl, (uh HK1).narrow hks (fun q e => by omega)⟩
end Go.Proofs.YtiinohibmcefkaaGreatDoor
