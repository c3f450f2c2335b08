import Derived.Test.YtiinohibmcefkaaGreatDoorJzag
import Derived.Test.YtiinohibmcefkaaGreatDoorJae
import Derived.Test.YtiinohibmcefkaaGreatDoorJba
import Derived.Deep.DeepCutAuto
namespace Go.Proofs.YtiinohibmcefkaaGreatDoor
open Go.RowKit Go.Maps
set_option maxRecDepth 100000
set_option maxHeartbeats 4000000
theorem one_cells {w : World} {v : Value} {a : ValA} (h : ValsAt w v [a]) : ∃ kb ko cap, v = .slice (some ⟨kb, ko, none⟩) 1 cap ∧ kb < w.heap.size ∧ w.cell? ⟨kb, ko, none⟩ = some (.int .i64 a.kind) ∧ w.cell? ⟨kb, ko + 1, none⟩ = some (.int .i64 a.n) ∧ w.cell? ⟨kb, ko + 2, none⟩ = some (str a.s) := by
 obtain ⟨kb, ko, cap, e, hb, hc⟩ := h.cells (by simp)
 have := hc 0 a rfl
 simp only [Nat.zero_mul, Nat.add_zero] at this
 exact ⟨kb, ko, cap, e, hb, this⟩
def holdsR (op : Int) (a b : ValA) : Bool := if op = 12 then lessR a b else if op = 13 then !lessR b a else if op = 14 then lessR b a else if op = 15 then !lessR a b else if op = 16 then decide (a = b) else if op = 17 then !decide (a = b) else if op = 18 then decide (a.n = 1) && decide (b.n = 1) else decide (a.n = 1) || decide (b.n = 1)
theorem holds_v (op : Int) (a b : ValA) (w : World) (hop : op = 12 ∨ op = 13 ∨ op = 14 ∨ op = 15 ∨ op = 16 ∨ op = 17 ∨ op = 18 ∨ op = 19) (ha : a.s.length ≤ 20) (hb : b.s.length ≤ 20) : Calls Tryz.prog 155 #[.int .i64 op, a.v, b.v] w fun e w' => e = .returned (.bool (holdsR op a b)) ∧ Keeps (fun _ => False) w w' := by
 obtain ⟨X, hX⟩ : ∃ X, (w.alloc (.cells #[.int .i64 a.kind, .int .i64 a.n, str a.s] 41)).alloc (.cells #[.int .i64 b.kind, .int .i64 b.n, str b.s] 41) = X := ⟨_, rfl⟩
 have PK : Keeps (fun _ => False) w X := hX ▸ (((Keeps.refl _ w).alloc _).alloc _)
 have P4 : X.heap[w.heap.size]? = some (.cells #[.int .i64 a.kind, .int .i64 a.n, str a.s] 41 (0, 0)) := hX ▸ (((Keeps.refl (fun _ => False) _).alloc _).block _ (by simp) id).trans (heap_alloc_new w _)
 have P5 : X.heap[w.heap.size + 1]? = some (.cells #[.int .i64 b.kind, .int .i64 b.n, str b.s] 41 (0, 0)) := hX ▸ alloc_at _ _ _ (by simp)
 obtain ⟨x0, x1, x2⟩ := cl3 P4
 obtain ⟨y0, y1, y2⟩ := cl3 P5
 have HL1 : Hid (Calls Tryz.prog 199 #[.agg #[.int .i64 a.kind, .int .i64 a.n, str a.s], .agg #[.int .i64 b.kind, .int .i64 b.n, str b.s]] X _) := hide (lessB_v a b X ha)
 have HL2 : Hid (Calls Tryz.prog 199 #[.agg #[.int .i64 b.kind, .int .i64 b.n, str b.s], .agg #[.int .i64 a.kind, .int .i64 a.n, str a.s]] X _) := hide (lessB_v b a X hb)
 have HEQ : Hid (Calls Tryz.prog 25 #[.agg #[.int .i64 a.kind, .int .i64 a.n, str a.s], .agg #[.int .i64 b.kind, .int .i64 b.n, str b.s]] X _) := hide (eqValue_any a b X)
 have HPK := hide PK
 show Calls _ _ #[_, .agg #[.int .i64 a.kind, .int .i64 a.n, str a.s], .agg #[.int .i64 b.kind, .int .i64 b.n, str b.s]] _ _
 clear P4 P5 PK ha hb
 rcases hop with rfl | rfl | rfl | rfl | rfl | rfl | rfl | rfl
 ·go_enter Tryz.func155, Tryz.ntmps155
  go_wp2_with fail
  refine (uh HL1).mono ?_
  rintro e w1 ⟨rfl, hk1⟩
  have HK1 := hide hk1
  clear hk1
  go_wp2_with fail
  go_ret
  exact ⟨rfl, (uh HPK).trans (uh HK1)⟩
 ·go_enter Tryz.func155, Tryz.ntmps155
  go_wp2_with fail
  refine (uh HL2).mono ?_
  rintro e w1 ⟨rfl, hk1⟩
  have HK1 := hide hk1
  clear hk1
  go_wp2_with fail
  go_ret
  exact ⟨rfl, (uh HPK).trans (uh HK1)⟩
 ·go_enter Tryz.func155, Tryz.ntmps155
  go_wp2_with fail
  refine (uh HL2).mono ?_
  rintro e w1 ⟨rfl, hk1⟩
  have HK1 := hide hk1
  clear hk1
  go_wp2_with fail
  go_ret
  exact ⟨rfl, (uh HPK).trans (uh HK1)⟩
 ·go_enter Tryz.func155, Tryz.ntmps155
  go_wp2_with fail
  refine (uh HL1).mono ?_
  rintro e w1 ⟨rfl, hk1⟩
  have HK1 := hide hk1
  clear hk1
  go_wp2_with fail
  go_ret
  exact ⟨rfl, (uh HPK).trans (uh HK1)⟩
 ·go_enter Tryz.func155, Tryz.ntmps155
  go_wp2_with fail
  refine (uh HEQ).mono ?_
  rintro e w1 ⟨rfl, hk1⟩
  have HK1 := hide hk1
  clear hk1
  go_wp2_with fail
  go_ret
  exact ⟨rfl, (uh HPK).trans (uh HK1)⟩
 ·go_enter Tryz.func155, Tryz.ntmps155
  go_wp2_with fail
  refine (uh HEQ).mono ?_
  rintro e w1 ⟨rfl, hk1⟩
  have HK1 := hide hk1
  clear hk1
  go_wp2_with fail
  go_ret
  exact ⟨rfl, (uh HPK).trans (uh HK1)⟩
 ·obtain ⟨p, hp⟩ : ∃ p : Bool, p = decide (a.n = 1) := ⟨_, rfl⟩
  have hp2 : (a.n == 1) = p := by rw [hp]; rfl
  have hp3 : decide (a.n = 1) = p := hp.symm
  show Calls _ _ _ _ fun e w' => e = .returned (.bool (decide (a.n = 1) && decide (b.n = 1))) ∧ _
  rw [← hp]
  clear hp
  cases p
  all_goals
   go_enter Tryz.func155, Tryz.ntmps155
   go_wp2_with fail
   all_goals (go_ret; exact ⟨by first | rfl | simp, uh HPK⟩)
 ·obtain ⟨p, hp⟩ : ∃ p : Bool, p = decide (a.n = 1) := ⟨_, rfl⟩
  have hp2 : (a.n == 1) = p := by rw [hp]; rfl
  have hp3 : decide (a.n = 1) = p := hp.symm
  show Calls _ _ _ _ fun e w' => e = .returned (.bool (decide (a.n = 1) || decide (b.n = 1))) ∧ _
  rw [← hp]
  clear hp
  cases p
  all_goals
   go_enter Tryz.func155, Tryz.ntmps155
   go_wp2_with fail
   all_goals (go_ret; exact ⟨by first | rfl | simp, uh HPK⟩)
theorem of9_v (a b : ValA) (kv : Value) (w : World) (h : ValsAt w kv [a, b]) : Calls Tryz.prog 94 #[.int .i64 9, kv] w fun e w' => e = .returned (numV (wrap64 (a.n + b.n))).v ∧ Keeps (fun _ => False) w w' := by
 obtain ⟨kb, ko, cap, rfl, hb, ⟨x0, x1, x2⟩, ⟨y0, y1, y2⟩⟩ := two_cells h
 obtain ⟨X, hX⟩ : ∃ X, w.alloc (.cells #[.int .i64 0, .int .i64 0, .string ⟨#[]⟩] 41) = X := ⟨_, rfl⟩
 have HP := hide (hX ▸ heap_alloc_new w _ : X.heap[w.heap.size]? = some (.cells #[.int .i64 0, .int .i64 0, .string ⟨#[]⟩] 41 (0, 0)))
 have kX : Keeps (fun _ => False) w X := hX ▸ kAlloc w _
 have HKW := hide kX
 have HKX := hide (Keeps.refl (fun _ => False) X)
 have HB := hide (Nat.lt_of_lt_of_le hb kX.size)
 replace x0 := (kX.cell hb id).trans x0
 replace x1 := (kX.cell hb id).trans x1
 replace x2 := (kX.cell hb id).trans x2
 replace y0 := (kX.cell hb id).trans y0
 replace y1 := (kX.cell hb id).trans y1
 replace y2 := (kX.cell hb id).trans y2
 clear h hb kX
 go_enter Tryz.func94, Tryz.ntmps94
 go_upto_region 7 with fail
 rename_i Q0 K0 hc0
 refine wp_region_last (X := X) (by kernel_rfl) 10 rfl _ rfl rfl (by decide) (by kernel_rfl) [24, 25, 26, 27, 28, 29, 30, 31, 32, 33] (by decide) rfl (by first | rfl | kernel_rfl | simp [opsB]) (uh HKX) (fun i v W1 => match i with | 0 => v = .slice (some ⟨kb, ko, none⟩) 2 cap | 1 => v = .pointer (some ⟨kb, ko + 0 * 3, none⟩) | 2 => v = .pointer (some ⟨kb, ko + 0 * 3 + 1, none⟩) | 3 => v = .int .i64 a.n | 4 => v = .slice (some ⟨kb, ko, none⟩) 2 cap | 5 => v = .pointer (some ⟨kb, ko + 1 * 3, none⟩) | 6 => v = .pointer (some ⟨kb, ko + 1 * 3 + 1, none⟩) | 7 => v = .int .i64 b.n | 8 => v = .int .i64 (wrap64 ( a.n +  b.n)) | 9 => v = (numV  (wrap64 ( a.n +  b.n))).v | _ => True) ?_ ?_ ?_
 ·intro i v w1 w2 hq hk
  rcases i with _ | _ | _ | _ | _ | _ | _ | _ | _ | _ | i
  all_goals exact hq
 ·intro i o A W1 him ho hs hk hd K' hK
  rcases i with _ | _ | _ | _ | _ | _ | _ | _ | _ | _ | i
  ·obtain rfl := Option.some.inj ho
   exact step_move rfl ((hs.at rfl 1 (by decide)).trans rfl) (hK _ _ rfl (Keeps.refl _ _))
  ·obtain rfl := Option.some.inj ho
   exact step_index29 0 rfl (hd ⟨0, .data⟩ (by simp) rfl) (by decide) (hK _ _ rfl (Keeps.refl _ _))
  ·obtain rfl := Option.some.inj ho
   exact step_field1 rfl (hd ⟨1, .data⟩ (by simp) rfl) (hK _ _ rfl (Keeps.refl _ _))
  ·obtain rfl := Option.some.inj ho
   exact step_load2 rfl (hd ⟨2, .data⟩ (by simp) rfl) ((hk.cell (uh HB) id).trans x1) (hK _ _ rfl (Keeps.refl _ _))
  ·obtain rfl := Option.some.inj ho
   exact step_move rfl ((hs.at rfl 1 (by decide)).trans rfl) (hK _ _ rfl (Keeps.refl _ _))
  ·obtain rfl := Option.some.inj ho
   exact step_index29 1 rfl (hd ⟨4, .data⟩ (by simp) rfl) (by decide) (hK _ _ rfl (Keeps.refl _ _))
  ·obtain rfl := Option.some.inj ho
   exact step_field1 rfl (hd ⟨5, .data⟩ (by simp) rfl) (hK _ _ rfl (Keeps.refl _ _))
  ·obtain rfl := Option.some.inj ho
   exact step_load2 rfl (hd ⟨6, .data⟩ (by simp) rfl) ((hk.cell (uh HB) id).trans y1) (hK _ _ rfl (Keeps.refl _ _))
  ·obtain rfl := Option.some.inj ho
   exact step_add rfl (hd ⟨3, .data⟩ (by simp) rfl) (hd ⟨7, .data⟩ (by simp) rfl) (hK _ _ rfl (Keeps.refl _ _))
  ·obtain rfl := Option.some.inj ho
   exact step_c89 rfl (hd ⟨8, .data⟩ (by simp) rfl) (num_v  (wrap64 ( a.n +  b.n)) _) (fun _ h => hK _ _ rfl h)
  ·omega
 ·intro A W hs hk hall K' hK
  have hl : A.tmps.getD 33 undef = (numV  (wrap64 ( a.n +  b.n))).v := hall 9 (by decide)
  have hb := (hs.at rfl 4 (by decide)).trans rfl
  refine wp_store_row 41 (.tmp 4) (.tmp 33) rfl _ _ hb hl 41 _ ((hk.block _ (lt_of_block (uh HP)) id).trans (uh HP)) (by kernel_rfl) rfl (by simp [Value.oneCell']) ?_
  refine hK _ _ (hc0 _ _ ?_)
  have hz := hs.size
  have hdef := hs.defers
  have p4 := hb
  have hr := setRow_heap W w.heap.size _ (#[.int .i64 (numV  (wrap64 ( a.n +  b.n))).kind, .int .i64 (numV  (wrap64 ( a.n +  b.n))).n, str (numV  (wrap64 ( a.n +  b.n))).s] : Array Value) 41 (0, 0) ((hk.block _ (lt_of_block (uh HP)) id).trans (uh HP))
  have HR := hide hr
  have HKE := hide (((uh HKW).trans hk).narrow (keeps_row W w.heap.size (#[.int .i64 (numV  (wrap64 ( a.n +  b.n))).kind, .int .i64 (numV  (wrap64 ( a.n +  b.n))).n, str (numV  (wrap64 ( a.n +  b.n))).s] : Array Value)) (fun i e => by omega))
  have HP4 := hide p4
  have HD := hide (hdef.trans rfl)
  clear hs hk hall hl hb hz p4 hr hK hdef
  go_wp2_with fail
  refine bodyPost_ret (v := .agg #[.int .i64 (numV  (wrap64 ( a.n +  b.n))).kind, .int .i64 (numV  (wrap64 ( a.n +  b.n))).n, str (numV  (wrap64 ( a.n +  b.n))).s]) (results_cell_row rfl _ _ w.heap.size 41 _ (0, 0) _ (uh HP4) (uh HR) Tryz.underlying41 rfl (by kernel_rfl)) (uh HD) ?_
  exact ⟨rfl, uh HKE⟩
theorem of10_v (a b : ValA) (kv : Value) (w : World) (h : ValsAt w kv [a, b]) : Calls Tryz.prog 94 #[.int .i64 10, kv] w fun e w' => e = .returned (numV (wrap64 (a.n - b.n))).v ∧ Keeps (fun _ => False) w w' := by
 obtain ⟨kb, ko, cap, rfl, hb, ⟨x0, x1, x2⟩, ⟨y0, y1, y2⟩⟩ := two_cells h
 obtain ⟨X, hX⟩ : ∃ X, w.alloc (.cells #[.int .i64 0, .int .i64 0, .string ⟨#[]⟩] 41) = X := ⟨_, rfl⟩
 have HP := hide (hX ▸ heap_alloc_new w _ : X.heap[w.heap.size]? = some (.cells #[.int .i64 0, .int .i64 0, .string ⟨#[]⟩] 41 (0, 0)))
 have kX : Keeps (fun _ => False) w X := hX ▸ kAlloc w _
 have HKW := hide kX
 have HKX := hide (Keeps.refl (fun _ => False) X)
 have HB := hide (Nat.lt_of_lt_of_le hb kX.size)
 replace x0 := (kX.cell hb id).trans x0
 replace x1 := (kX.cell hb id).trans x1
 replace x2 := (kX.cell hb id).trans x2
 replace y0 := (kX.cell hb id).trans y0
 replace y1 := (kX.cell hb id).trans y1
 replace y2 := (kX.cell hb id).trans y2
 clear h hb kX
 go_enter Tryz.func94, Tryz.ntmps94
 go_upto_region 9 with fail
 rename_i Q0 K0 hc0
 refine wp_region_last (X := X) (by kernel_rfl) 10 rfl _ rfl rfl (by decide) (by kernel_rfl) [36, 37, 38, 39, 40, 41, 42, 43, 44, 45] (by decide) rfl (by first | rfl | kernel_rfl | simp [opsB]) (uh HKX) (fun i v W1 => match i with | 0 => v = .slice (some ⟨kb, ko, none⟩) 2 cap | 1 => v = .pointer (some ⟨kb, ko + 0 * 3, none⟩) | 2 => v = .pointer (some ⟨kb, ko + 0 * 3 + 1, none⟩) | 3 => v = .int .i64 a.n | 4 => v = .slice (some ⟨kb, ko, none⟩) 2 cap | 5 => v = .pointer (some ⟨kb, ko + 1 * 3, none⟩) | 6 => v = .pointer (some ⟨kb, ko + 1 * 3 + 1, none⟩) | 7 => v = .int .i64 b.n | 8 => v = .int .i64 (wrap64 ( a.n -  b.n)) | 9 => v = (numV  (wrap64 ( a.n -  b.n))).v | _ => True) ?_ ?_ ?_
 ·intro i v w1 w2 hq hk
  rcases i with _ | _ | _ | _ | _ | _ | _ | _ | _ | _ | i
  all_goals exact hq
 ·intro i o A W1 him ho hs hk hd K' hK
  rcases i with _ | _ | _ | _ | _ | _ | _ | _ | _ | _ | i
  ·obtain rfl := Option.some.inj ho
   exact step_move rfl ((hs.at rfl 1 (by decide)).trans rfl) (hK _ _ rfl (Keeps.refl _ _))
  ·obtain rfl := Option.some.inj ho
   exact step_index29 0 rfl (hd ⟨0, .data⟩ (by simp) rfl) (by decide) (hK _ _ rfl (Keeps.refl _ _))
  ·obtain rfl := Option.some.inj ho
   exact step_field1 rfl (hd ⟨1, .data⟩ (by simp) rfl) (hK _ _ rfl (Keeps.refl _ _))
  ·obtain rfl := Option.some.inj ho
   exact step_load2 rfl (hd ⟨2, .data⟩ (by simp) rfl) ((hk.cell (uh HB) id).trans x1) (hK _ _ rfl (Keeps.refl _ _))
  ·obtain rfl := Option.some.inj ho
   exact step_move rfl ((hs.at rfl 1 (by decide)).trans rfl) (hK _ _ rfl (Keeps.refl _ _))
  ·obtain rfl := Option.some.inj ho
   exact step_index29 1 rfl (hd ⟨4, .data⟩ (by simp) rfl) (by decide) (hK _ _ rfl (Keeps.refl _ _))
  ·obtain rfl := Option.some.inj ho
   exact step_field1 rfl (hd ⟨5, .data⟩ (by simp) rfl) (hK _ _ rfl (Keeps.refl _ _))
  ·obtain rfl := Option.some.inj ho
   exact step_load2 rfl (hd ⟨6, .data⟩ (by simp) rfl) ((hk.cell (uh HB) id).trans y1) (hK _ _ rfl (Keeps.refl _ _))
  ·obtain rfl := Option.some.inj ho
   exact step_sub rfl (hd ⟨3, .data⟩ (by simp) rfl) (hd ⟨7, .data⟩ (by simp) rfl) (hK _ _ rfl (Keeps.refl _ _))
  ·obtain rfl := Option.some.inj ho
   exact step_c89 rfl (hd ⟨8, .data⟩ (by simp) rfl) (num_v  (wrap64 ( a.n -  b.n)) _) (fun _ h => hK _ _ rfl h)
  ·omega
 ·intro A W hs hk hall K' hK
  have hl : A.tmps.getD 45 undef = (numV  (wrap64 ( a.n -  b.n))).v := hall 9 (by decide)
  have hb := (hs.at rfl 4 (by decide)).trans rfl
  refine wp_store_row 41 (.tmp 4) (.tmp 45) rfl _ _ hb hl 41 _ ((hk.block _ (lt_of_block (uh HP)) id).trans (uh HP)) (by kernel_rfl) rfl (by simp [Value.oneCell']) ?_
  refine hK _ _ (hc0 _ _ ?_)
  have hz := hs.size
  have hdef := hs.defers
  have p4 := hb
  have hr := setRow_heap W w.heap.size _ (#[.int .i64 (numV  (wrap64 ( a.n -  b.n))).kind, .int .i64 (numV  (wrap64 ( a.n -  b.n))).n, str (numV  (wrap64 ( a.n -  b.n))).s] : Array Value) 41 (0, 0) ((hk.block _ (lt_of_block (uh HP)) id).trans (uh HP))
  have HR := hide hr
  have HKE := hide (((uh HKW).trans hk).narrow (keeps_row W w.heap.size (#[.int .i64 (numV  (wrap64 ( a.n -  b.n))).kind, .int .i64 (numV  (wrap64 ( a.n -  b.n))).n, str (numV  (wrap64 ( a.n -  b.n))).s] : Array Value)) (fun i e => by omega))
  have HP4 := hide p4
  have HD := hide (hdef.trans rfl)
  clear hs hk hall hl hb hz p4 hr hK hdef
  go_wp2_with fail
  refine bodyPost_ret (v := .agg #[.int .i64 (numV  (wrap64 ( a.n -  b.n))).kind, .int .i64 (numV  (wrap64 ( a.n -  b.n))).n, str (numV  (wrap64 ( a.n -  b.n))).s]) (results_cell_row rfl _ _ w.heap.size 41 _ (0, 0) _ (uh HP4) (uh HR) Tryz.underlying41 rfl (by kernel_rfl)) (uh HD) ?_
  exact ⟨rfl, uh HKE⟩
theorem of11_v (a b : ValA) (kv : Value) (w : World) (h : ValsAt w kv [a, b]) : Calls Tryz.prog 94 #[.int .i64 11, kv] w fun e w' => e = .returned (numV (wrap64 (a.n * b.n))).v ∧ Keeps (fun _ => False) w w' := by
 obtain ⟨kb, ko, cap, rfl, hb, ⟨x0, x1, x2⟩, ⟨y0, y1, y2⟩⟩ := two_cells h
 obtain ⟨X, hX⟩ : ∃ X, w.alloc (.cells #[.int .i64 0, .int .i64 0, .string ⟨#[]⟩] 41) = X := ⟨_, rfl⟩
 have HP := hide (hX ▸ heap_alloc_new w _ : X.heap[w.heap.size]? = some (.cells #[.int .i64 0, .int .i64 0, .string ⟨#[]⟩] 41 (0, 0)))
 have kX : Keeps (fun _ => False) w X := hX ▸ kAlloc w _
 have HKW := hide kX
 have HKX := hide (Keeps.refl (fun _ => False) X)
 have HB := hide (Nat.lt_of_lt_of_le hb kX.size)
 replace x0 := (kX.cell hb id).trans x0
 replace x1 := (kX.cell hb id).trans x1
 replace x2 := (kX.cell hb id).trans x2
 replace y0 := (kX.cell hb id).trans y0
 replace y1 := (kX.cell hb id).trans y1
 replace y2 := (kX.cell hb id).trans y2
 clear h hb kX
 go_enter Tryz.func94, Tryz.ntmps94
 go_upto_region 11 with fail
 rename_i Q0 K0 hc0
 refine wp_region_last (X := X) (by kernel_rfl) 10 rfl _ rfl rfl (by decide) (by kernel_rfl) [48, 49, 50, 51, 52, 53, 54, 55, 56, 57] (by decide) rfl (by first | rfl | kernel_rfl | simp [opsB]) (uh HKX) (fun i v W1 => match i with | 0 => v = .slice (some ⟨kb, ko, none⟩) 2 cap | 1 => v = .pointer (some ⟨kb, ko + 0 * 3, none⟩) | 2 => v = .pointer (some ⟨kb, ko + 0 * 3 + 1, none⟩) | 3 => v = .int .i64 a.n | 4 => v = .slice (some ⟨kb, ko, none⟩) 2 cap | 5 => v = .pointer (some ⟨kb, ko + 1 * 3, none⟩) | 6 => v = .pointer (some ⟨kb, ko + 1 * 3 + 1, none⟩) | 7 => v = .int .i64 b.n | 8 => v = .int .i64 (wrap64 ( a.n *  b.n)) | 9 => v = (numV  (wrap64 ( a.n *  b.n))).v | _ => True) ?_ ?_ ?_
 ·intro i v w1 w2 hq hk
  rcases i with _ | _ | _ | _ | _ | _ | _ | _ | _ | _ | i
  all_goals exact hq
 ·intro i o A W1 him ho hs hk hd K' hK
  rcases i with _ | _ | _ | _ | _ | _ | _ | _ | _ | _ | i
  ·obtain rfl := Option.some.inj ho
   exact step_move rfl ((hs.at rfl 1 (by decide)).trans rfl) (hK _ _ rfl (Keeps.refl _ _))
  ·obtain rfl := Option.some.inj ho
   exact step_index29 0 rfl (hd ⟨0, .data⟩ (by simp) rfl) (by decide) (hK _ _ rfl (Keeps.refl _ _))
  ·obtain rfl := Option.some.inj ho
   exact step_field1 rfl (hd ⟨1, .data⟩ (by simp) rfl) (hK _ _ rfl (Keeps.refl _ _))
  ·obtain rfl := Option.some.inj ho
   exact step_load2 rfl (hd ⟨2, .data⟩ (by simp) rfl) ((hk.cell (uh HB) id).trans x1) (hK _ _ rfl (Keeps.refl _ _))
  ·obtain rfl := Option.some.inj ho
   exact step_move rfl ((hs.at rfl 1 (by decide)).trans rfl) (hK _ _ rfl (Keeps.refl _ _))
  ·obtain rfl := Option.some.inj ho
   exact step_index29 1 rfl (hd ⟨4, .data⟩ (by simp) rfl) (by decide) (hK _ _ rfl (Keeps.refl _ _))
  ·obtain rfl := Option.some.inj ho
   exact step_field1 rfl (hd ⟨5, .data⟩ (by simp) rfl) (hK _ _ rfl (Keeps.refl _ _))
  ·obtain rfl := Option.some.inj ho
   exact step_load2 rfl (hd ⟨6, .data⟩ (by simp) rfl) ((hk.cell (uh HB) id).trans y1) (hK _ _ rfl (Keeps.refl _ _))
  ·obtain rfl := Option.some.inj ho
   exact step_mul rfl (hd ⟨3, .data⟩ (by simp) rfl) (hd ⟨7, .data⟩ (by simp) rfl) (hK _ _ rfl (Keeps.refl _ _))
  ·obtain rfl := Option.some.inj ho
   exact step_c89 rfl (hd ⟨8, .data⟩ (by simp) rfl) (num_v  (wrap64 ( a.n *  b.n)) _) (fun _ h => hK _ _ rfl h)
  ·omega
 ·intro A W hs hk hall K' hK
  have hl : A.tmps.getD 57 undef = (numV  (wrap64 ( a.n *  b.n))).v := hall 9 (by decide)
  have hb := (hs.at rfl 4 (by decide)).trans rfl
  refine wp_store_row 41 (.tmp 4) (.tmp 57) rfl _ _ hb hl 41 _ ((hk.block _ (lt_of_block (uh HP)) id).trans (uh HP)) (by kernel_rfl) rfl (by simp [Value.oneCell']) ?_
  refine hK _ _ (hc0 _ _ ?_)
  have hz := hs.size
  have hdef := hs.defers
  have p4 := hb
  have hr := setRow_heap W w.heap.size _ (#[.int .i64 (numV  (wrap64 ( a.n *  b.n))).kind, .int .i64 (numV  (wrap64 ( a.n *  b.n))).n, str (numV  (wrap64 ( a.n *  b.n))).s] : Array Value) 41 (0, 0) ((hk.block _ (lt_of_block (uh HP)) id).trans (uh HP))
  have HR := hide hr
  have HKE := hide (((uh HKW).trans hk).narrow (keeps_row W w.heap.size (#[.int .i64 (numV  (wrap64 ( a.n *  b.n))).kind, .int .i64 (numV  (wrap64 ( a.n *  b.n))).n, str (numV  (wrap64 ( a.n *  b.n))).s] : Array Value)) (fun i e => by omega))
  have HP4 := hide p4
  have HD := hide (hdef.trans rfl)
  clear hs hk hall hl hb hz p4 hr hK hdef
  go_wp2_with fail
  refine bodyPost_ret (v := .agg #[.int .i64 (numV  (wrap64 ( a.n *  b.n))).kind, .int .i64 (numV  (wrap64 ( a.n *  b.n))).n, str (numV  (wrap64 ( a.n *  b.n))).s]) (results_cell_row rfl _ _ w.heap.size 41 _ (0, 0) _ (uh HP4) (uh HR) Tryz.underlying41 rfl (by kernel_rfl)) (uh HD) ?_
  exact ⟨rfl, uh HKE⟩
theorem of21_v (a b : ValA) (kv : Value) (w : World) (h : ValsAt w kv [a, b]) : Calls Tryz.prog 94 #[.int .i64 21, kv] w fun e w' => e = .returned (numV (min a.n b.n)).v ∧ Keeps (fun _ => False) w w' := by
 obtain ⟨kb, ko, cap, rfl, hb, ⟨x0, x1, x2⟩, ⟨y0, y1, y2⟩⟩ := two_cells h
 obtain ⟨X, hX⟩ : ∃ X, w.alloc (.cells #[.int .i64 0, .int .i64 0, .string ⟨#[]⟩] 41) = X := ⟨_, rfl⟩
 have HP := hide (hX ▸ heap_alloc_new w _ : X.heap[w.heap.size]? = some (.cells #[.int .i64 0, .int .i64 0, .string ⟨#[]⟩] 41 (0, 0)))
 have kX : Keeps (fun _ => False) w X := hX ▸ kAlloc w _
 have HKW := hide kX
 have HKX := hide (Keeps.refl (fun _ => False) X)
 have HB := hide (Nat.lt_of_lt_of_le hb kX.size)
 replace x0 := (kX.cell hb id).trans x0
 replace x1 := (kX.cell hb id).trans x1
 replace x2 := (kX.cell hb id).trans x2
 replace y0 := (kX.cell hb id).trans y0
 replace y1 := (kX.cell hb id).trans y1
 replace y2 := (kX.cell hb id).trans y2
 clear h hb kX
 go_enter Tryz.func94, Tryz.ntmps94
 go_upto_region 13 with fail
 rename_i Q0 K0 hc0
 refine wp_region_last (X := X) (by kernel_rfl) 10 rfl _ rfl rfl (by decide) (by kernel_rfl) [60, 61, 62, 63, 64, 65, 66, 67, 68, 69] (by decide) rfl (by first | rfl | kernel_rfl | simp [opsB]) (uh HKX) (fun i v W1 => match i with | 0 => v = .slice (some ⟨kb, ko, none⟩) 2 cap | 1 => v = .pointer (some ⟨kb, ko + 0 * 3, none⟩) | 2 => v = .pointer (some ⟨kb, ko + 0 * 3 + 1, none⟩) | 3 => v = .int .i64 a.n | 4 => v = .slice (some ⟨kb, ko, none⟩) 2 cap | 5 => v = .pointer (some ⟨kb, ko + 1 * 3, none⟩) | 6 => v = .pointer (some ⟨kb, ko + 1 * 3 + 1, none⟩) | 7 => v = .int .i64 b.n | 8 => v = .int .i64 (min  a.n  b.n) | 9 => v = (numV  (min  a.n  b.n)).v | _ => True) ?_ ?_ ?_
 ·intro i v w1 w2 hq hk
  rcases i with _ | _ | _ | _ | _ | _ | _ | _ | _ | _ | i
  all_goals exact hq
 ·intro i o A W1 him ho hs hk hd K' hK
  rcases i with _ | _ | _ | _ | _ | _ | _ | _ | _ | _ | i
  ·obtain rfl := Option.some.inj ho
   exact step_move rfl ((hs.at rfl 1 (by decide)).trans rfl) (hK _ _ rfl (Keeps.refl _ _))
  ·obtain rfl := Option.some.inj ho
   exact step_index29 0 rfl (hd ⟨0, .data⟩ (by simp) rfl) (by decide) (hK _ _ rfl (Keeps.refl _ _))
  ·obtain rfl := Option.some.inj ho
   exact step_field1 rfl (hd ⟨1, .data⟩ (by simp) rfl) (hK _ _ rfl (Keeps.refl _ _))
  ·obtain rfl := Option.some.inj ho
   exact step_load2 rfl (hd ⟨2, .data⟩ (by simp) rfl) ((hk.cell (uh HB) id).trans x1) (hK _ _ rfl (Keeps.refl _ _))
  ·obtain rfl := Option.some.inj ho
   exact step_move rfl ((hs.at rfl 1 (by decide)).trans rfl) (hK _ _ rfl (Keeps.refl _ _))
  ·obtain rfl := Option.some.inj ho
   exact step_index29 1 rfl (hd ⟨4, .data⟩ (by simp) rfl) (by decide) (hK _ _ rfl (Keeps.refl _ _))
  ·obtain rfl := Option.some.inj ho
   exact step_field1 rfl (hd ⟨5, .data⟩ (by simp) rfl) (hK _ _ rfl (Keeps.refl _ _))
  ·obtain rfl := Option.some.inj ho
   exact step_load2 rfl (hd ⟨6, .data⟩ (by simp) rfl) ((hk.cell (uh HB) id).trans y1) (hK _ _ rfl (Keeps.refl _ _))
  ·obtain rfl := Option.some.inj ho
   exact step_min rfl (hd ⟨3, .data⟩ (by simp) rfl) (hd ⟨7, .data⟩ (by simp) rfl) (hK _ _ rfl (Keeps.refl _ _))
  ·obtain rfl := Option.some.inj ho
   exact step_c89 rfl (hd ⟨8, .data⟩ (by simp) rfl) (num_v  (min  a.n  b.n) _) (fun _ h => hK _ _ rfl h)
  ·omega
 ·intro A W hs hk hall K' hK
  have hl : A.tmps.getD 69 undef = (numV  (min  a.n  b.n)).v := hall 9 (by decide)
  have hb := (hs.at rfl 4 (by decide)).trans rfl
  refine wp_store_row 41 (.tmp 4) (.tmp 69) rfl _ _ hb hl 41 _ ((hk.block _ (lt_of_block (uh HP)) id).trans (uh HP)) (by kernel_rfl) rfl (by simp [Value.oneCell']) ?_
  refine hK _ _ (hc0 _ _ ?_)
  have hz := hs.size
  have hdef := hs.defers
  have p4 := hb
  have hr := setRow_heap W w.heap.size _ (#[.int .i64 (numV  (min  a.n  b.n)).kind, .int .i64 (numV  (min  a.n  b.n)).n, str (numV  (min  a.n  b.n)).s] : Array Value) 41 (0, 0) ((hk.block _ (lt_of_block (uh HP)) id).trans (uh HP))
  have HR := hide hr
  have HKE := hide (((uh HKW).trans hk).narrow (keeps_row W w.heap.size (#[.int .i64 (numV  (min  a.n  b.n)).kind, .int .i64 (numV  (min  a.n  b.n)).n, str (numV  (min  a.n  b.n)).s] : Array Value)) (fun i e => by omega))
  have HP4 := hide p4
  have HD := hide (hdef.trans rfl)
  clear hs hk hall hl hb hz p4 hr hK hdef
  go_wp2_with fail
  refine bodyPost_ret (v := .agg #[.int .i64 (numV  (min  a.n  b.n)).kind, .int .i64 (numV  (min  a.n  b.n)).n, str (numV  (min  a.n  b.n)).s]) (results_cell_row rfl _ _ w.heap.size 41 _ (0, 0) _ (uh HP4) (uh HR) Tryz.underlying41 rfl (by kernel_rfl)) (uh HD) ?_
  exact ⟨rfl, uh HKE⟩
theorem of22_v (a b : ValA) (kv : Value) (w : World) (h : ValsAt w kv [a, b]) : Calls Tryz.prog 94 #[.int .i64 22, kv] w fun e w' => e = .returned (numV (max a.n b.n)).v ∧ Keeps (fun _ => False) w w' := by
 obtain ⟨kb, ko, cap, rfl, hb, ⟨x0, x1, x2⟩, ⟨y0, y1, y2⟩⟩ := two_cells h
 obtain ⟨X, hX⟩ : ∃ X, w.alloc (.cells #[.int .i64 0, .int .i64 0, .string ⟨#[]⟩] 41) = X := ⟨_, rfl⟩
 have HP := hide (hX ▸ heap_alloc_new w _ : X.heap[w.heap.size]? = some (.cells #[.int .i64 0, .int .i64 0, .string ⟨#[]⟩] 41 (0, 0)))
 have kX : Keeps (fun _ => False) w X := hX ▸ kAlloc w _
 have HKW := hide kX
 have HKX := hide (Keeps.refl (fun _ => False) X)
 have HB := hide (Nat.lt_of_lt_of_le hb kX.size)
 replace x0 := (kX.cell hb id).trans x0
 replace x1 := (kX.cell hb id).trans x1
 replace x2 := (kX.cell hb id).trans x2
 replace y0 := (kX.cell hb id).trans y0
 replace y1 := (kX.cell hb id).trans y1
 replace y2 := (kX.cell hb id).trans y2
 clear h hb kX
 go_enter Tryz.func94, Tryz.ntmps94
 go_upto_region 15 with fail
 rename_i Q0 K0 hc0
 refine wp_region_last (X := X) (by kernel_rfl) 10 rfl _ rfl rfl (by decide) (by kernel_rfl) [72, 73, 74, 75, 76, 77, 78, 79, 80, 81] (by decide) rfl (by first | rfl | kernel_rfl | simp [opsB]) (uh HKX) (fun i v W1 => match i with | 0 => v = .slice (some ⟨kb, ko, none⟩) 2 cap | 1 => v = .pointer (some ⟨kb, ko + 0 * 3, none⟩) | 2 => v = .pointer (some ⟨kb, ko + 0 * 3 + 1, none⟩) | 3 => v = .int .i64 a.n | 4 => v = .slice (some ⟨kb, ko, none⟩) 2 cap | 5 => v = .pointer (some ⟨kb, ko + 1 * 3, none⟩) | 6 => v = .pointer (some ⟨kb, ko + 1 * 3 + 1, none⟩) | 7 => v = .int .i64 b.n | 8 => v = .int .i64 (max  a.n  b.n) | 9 => v = (numV  (max  a.n  b.n)).v | _ => True) ?_ ?_ ?_
 ·intro i v w1 w2 hq hk
  rcases i with _ | _ | _ | _ | _ | _ | _ | _ | _ | _ | i
  all_goals exact hq
 ·intro i o A W1 him ho hs hk hd K' hK
  rcases i with _ | _ | _ | _ | _ | _ | _ | _ | _ | _ | i
  ·obtain rfl := Option.some.inj ho
   exact step_move rfl ((hs.at rfl 1 (by decide)).trans rfl) (hK _ _ rfl (Keeps.refl _ _))
  ·obtain rfl := Option.some.inj ho
   exact step_index29 0 rfl (hd ⟨0, .data⟩ (by simp) rfl) (by decide) (hK _ _ rfl (Keeps.refl _ _))
  ·obtain rfl := Option.some.inj ho
   exact step_field1 rfl (hd ⟨1, .data⟩ (by simp) rfl) (hK _ _ rfl (Keeps.refl _ _))
  ·obtain rfl := Option.some.inj ho
   exact step_load2 rfl (hd ⟨2, .data⟩ (by simp) rfl) ((hk.cell (uh HB) id).trans x1) (hK _ _ rfl (Keeps.refl _ _))
  ·obtain rfl := Option.some.inj ho
   exact step_move rfl ((hs.at rfl 1 (by decide)).trans rfl) (hK _ _ rfl (Keeps.refl _ _))
  ·obtain rfl := Option.some.inj ho
   exact step_index29 1 rfl (hd ⟨4, .data⟩ (by simp) rfl) (by decide) (hK _ _ rfl (Keeps.refl _ _))
  ·obtain rfl := Option.some.inj ho
   exact step_field1 rfl (hd ⟨5, .data⟩ (by simp) rfl) (hK _ _ rfl (Keeps.refl _ _))
  ·obtain rfl := Option.some.inj ho
   exact step_load2 rfl (hd ⟨6, .data⟩ (by simp) rfl) ((hk.cell (uh HB) id).trans y1) (hK _ _ rfl (Keeps.refl _ _))
  ·obtain rfl := Option.some.inj ho
   exact step_max rfl (hd ⟨3, .data⟩ (by simp) rfl) (hd ⟨7, .data⟩ (by simp) rfl) (hK _ _ rfl (Keeps.refl _ _))
  ·obtain rfl := Option.some.inj ho
   exact step_c89 rfl (hd ⟨8, .data⟩ (by simp) rfl) (num_v  (max  a.n  b.n) _) (fun _ h => hK _ _ rfl h)
  ·omega
 ·intro A W hs hk hall K' hK
  have hl : A.tmps.getD 81 undef = (numV  (max  a.n  b.n)).v := hall 9 (by decide)
  have hb := (hs.at rfl 4 (by decide)).trans rfl
  refine wp_store_row 41 (.tmp 4) (.tmp 81) rfl _ _ hb hl 41 _ ((hk.block _ (lt_of_block (uh HP)) id).trans (uh HP)) (by kernel_rfl) rfl (by simp [Value.oneCell']) ?_
  refine hK _ _ (hc0 _ _ ?_)
  have hz := hs.size
  have hdef := hs.defers
  have p4 := hb
  have hr := setRow_heap W w.heap.size _ (#[.int .i64 (numV  (max  a.n  b.n)).kind, .int .i64 (numV  (max  a.n  b.n)).n, str (numV  (max  a.n  b.n)).s] : Array Value) 41 (0, 0) ((hk.block _ (lt_of_block (uh HP)) id).trans (uh HP))
  have HR := hide hr
  have HKE := hide (((uh HKW).trans hk).narrow (keeps_row W w.heap.size (#[.int .i64 (numV  (max  a.n  b.n)).kind, .int .i64 (numV  (max  a.n  b.n)).n, str (numV  (max  a.n  b.n)).s] : Array Value)) (fun i e => by omega))
  have HP4 := hide p4
  have HD := hide (hdef.trans rfl)
  clear hs hk hall hl hb hz p4 hr hK hdef
  go_wp2_with fail
  refine bodyPost_ret (v := .agg #[.int .i64 (numV  (max  a.n  b.n)).kind, .int .i64 (numV  (max  a.n  b.n)).n, str (numV  (max  a.n  b.n)).s]) (results_cell_row rfl _ _ w.heap.size 41 _ (0, 0) _ (uh HP4) (uh HR) Tryz.underlying41 rfl (by kernel_rfl)) (uh HD) ?_
  exact ⟨rfl, uh HKE⟩
theorem of24_v (a b : ValA) (kv : Value) (w : World) (h : ValsAt w kv [a, b]) (ha : a.s.length ≤ 20) (hb2 : b.s.length ≤ 20) : Calls Tryz.prog 94 #[.int .i64 24, kv] w fun e w' => e = .returned (bytV (catT a.s b.s)).v ∧ Keeps (fun _ => False) w w' := by
 obtain ⟨kb, ko, cap, rfl, hb, ⟨x0, x1, x2⟩, ⟨y0, y1, y2⟩⟩ := two_cells h
 obtain ⟨X, hX⟩ : ∃ X, w.alloc (.cells #[.int .i64 0, .int .i64 0, .string ⟨#[]⟩] 41) = X := ⟨_, rfl⟩
 have HP := hide (hX ▸ heap_alloc_new w _ : X.heap[w.heap.size]? = some (.cells #[.int .i64 0, .int .i64 0, .string ⟨#[]⟩] 41 (0, 0)))
 have kX : Keeps (fun _ => False) w X := hX ▸ kAlloc w _
 have HKW := hide kX
 have HKX := hide (Keeps.refl (fun _ => False) X)
 have HB := hide (Nat.lt_of_lt_of_le hb kX.size)
 replace x0 := (kX.cell hb id).trans x0
 replace x1 := (kX.cell hb id).trans x1
 replace x2 := (kX.cell hb id).trans x2
 replace y0 := (kX.cell hb id).trans y0
 replace y1 := (kX.cell hb id).trans y1
 replace y2 := (kX.cell hb id).trans y2
 clear h hb kX
 go_enter Tryz.func94, Tryz.ntmps94
 go_upto_region 19 with fail
 rename_i Q0 K0 hc0
 refine wp_region_last (X := X) (by kernel_rfl) 10 rfl _ rfl rfl (by decide) (by kernel_rfl) [92, 93, 94, 95, 96, 97, 98, 99, 100, 101] (by decide) rfl (by first | rfl | kernel_rfl | simp [opsB]) (uh HKX) (fun i v W1 => match i with | 0 => v = .slice (some ⟨kb, ko, none⟩) 2 cap | 1 => v = .pointer (some ⟨kb, ko + 0 * 3, none⟩) | 2 => v = .pointer (some ⟨kb, ko + 0 * 3 + 2, none⟩) | 3 => v = str a.s | 4 => v = .slice (some ⟨kb, ko, none⟩) 2 cap | 5 => v = .pointer (some ⟨kb, ko + 1 * 3, none⟩) | 6 => v = .pointer (some ⟨kb, ko + 1 * 3 + 2, none⟩) | 7 => v = str b.s | 8 => v = str (catT a.s b.s) | 9 => v = (bytV (catT a.s b.s)).v | _ => True) ?_ ?_ ?_
 ·intro i v w1 w2 hq hk
  rcases i with _ | _ | _ | _ | _ | _ | _ | _ | _ | _ | i
  all_goals exact hq
 ·intro i o A W1 him ho hs hk hd K' hK
  rcases i with _ | _ | _ | _ | _ | _ | _ | _ | _ | _ | i
  ·obtain rfl := Option.some.inj ho
   exact step_move rfl ((hs.at rfl 1 (by decide)).trans rfl) (hK _ _ rfl (Keeps.refl _ _))
  ·obtain rfl := Option.some.inj ho
   exact step_index29 0 rfl (hd ⟨0, .data⟩ (by simp) rfl) (by decide) (hK _ _ rfl (Keeps.refl _ _))
  ·obtain rfl := Option.some.inj ho
   exact step_field2 rfl (hd ⟨1, .data⟩ (by simp) rfl) (hK _ _ rfl (Keeps.refl _ _))
  ·obtain rfl := Option.some.inj ho
   exact step_load9 rfl (hd ⟨2, .data⟩ (by simp) rfl) ((hk.cell (uh HB) id).trans x2) (hK _ _ rfl (Keeps.refl _ _))
  ·obtain rfl := Option.some.inj ho
   exact step_move rfl ((hs.at rfl 1 (by decide)).trans rfl) (hK _ _ rfl (Keeps.refl _ _))
  ·obtain rfl := Option.some.inj ho
   exact step_index29 1 rfl (hd ⟨4, .data⟩ (by simp) rfl) (by decide) (hK _ _ rfl (Keeps.refl _ _))
  ·obtain rfl := Option.some.inj ho
   exact step_field2 rfl (hd ⟨5, .data⟩ (by simp) rfl) (hK _ _ rfl (Keeps.refl _ _))
  ·obtain rfl := Option.some.inj ho
   exact step_load9 rfl (hd ⟨6, .data⟩ (by simp) rfl) ((hk.cell (uh HB) id).trans y2) (hK _ _ rfl (Keeps.refl _ _))
  ·obtain rfl := Option.some.inj ho
   exact step_c154 rfl (hd ⟨3, .data⟩ (by simp) rfl) (hd ⟨7, .data⟩ (by simp) rfl) (catR_v a.s b.s _ ha hb2) (fun _ h => hK _ _ rfl h)
  ·obtain rfl := Option.some.inj ho
   exact step_c91 rfl (hd ⟨8, .data⟩ (by simp) rfl) (byt_v (catT a.s b.s) _) (fun _ h => hK _ _ rfl h)
  ·omega
 ·intro A W hs hk hall K' hK
  have hl : A.tmps.getD 101 undef = (bytV (catT a.s b.s)).v := hall 9 (by decide)
  have hb := (hs.at rfl 4 (by decide)).trans rfl
  refine wp_store_row 41 (.tmp 4) (.tmp 101) rfl _ _ hb hl 41 _ ((hk.block _ (lt_of_block (uh HP)) id).trans (uh HP)) (by kernel_rfl) rfl (by simp [Value.oneCell']) ?_
  refine hK _ _ (hc0 _ _ ?_)
  have hz := hs.size
  have hdef := hs.defers
  have p4 := hb
  have hr := setRow_heap W w.heap.size _ (#[.int .i64 (bytV (catT a.s b.s)).kind, .int .i64 (bytV (catT a.s b.s)).n, str (bytV (catT a.s b.s)).s] : Array Value) 41 (0, 0) ((hk.block _ (lt_of_block (uh HP)) id).trans (uh HP))
  have HR := hide hr
  have HKE := hide (((uh HKW).trans hk).narrow (keeps_row W w.heap.size (#[.int .i64 (bytV (catT a.s b.s)).kind, .int .i64 (bytV (catT a.s b.s)).n, str (bytV (catT a.s b.s)).s] : Array Value)) (fun i e => by omega))
  have HP4 := hide p4
  have HD := hide (hdef.trans rfl)
  clear hs hk hall hl hb hz p4 hr hK hdef
  go_wp2_with fail
  refine bodyPost_ret (v := .agg #[.int .i64 (bytV (catT a.s b.s)).kind, .int .i64 (bytV (catT a.s b.s)).n, str (bytV (catT a.s b.s)).s]) (results_cell_row rfl _ _ w.heap.size 41 _ (0, 0) _ (uh HP4) (uh HR) Tryz.underlying41 rfl (by kernel_rfl)) (uh HD) ?_
  exact ⟨rfl, uh HKE⟩
theorem opH {op : Int} (h : op = 12 ∨ op = 13 ∨ op = 14 ∨ op = 15 ∨ op = 16 ∨ op = 17 ∨ op = 18 ∨ op = 19) : ¬ op = 7 ∧ (op == 7) = false ∧ ¬ op = 8 ∧ (op == 8) = false ∧ ¬ op = 9 ∧ (op == 9) = false ∧ ¬ op = 10 ∧ (op == 10) = false ∧ ¬ op = 11 ∧ (op == 11) = false ∧ ¬ op = 20 ∧ (op == 20) = false ∧ ¬ op = 21 ∧ (op == 21) = false ∧ ¬ op = 22 ∧ (op == 22) = false ∧ ¬ op = 23 ∧ (op == 23) = false ∧ ¬ op = 24 ∧ (op == 24) = false ∧ ¬ op = 25 ∧ (op == 25) = false := by
 rcases h with rfl | rfl | rfl | rfl | rfl | rfl | rfl | rfl <;> decide
theorem ofH_v (op : Int) (hop : op = 12 ∨ op = 13 ∨ op = 14 ∨ op = 15 ∨ op = 16 ∨ op = 17 ∨ op = 18 ∨ op = 19) (a b : ValA) (kv : Value) (w : World) (h : ValsAt w kv [a, b]) (hs20 : a.s.length ≤ 20) (hs21 : b.s.length ≤ 20) : Calls Tryz.prog 94 #[.int .i64 op, kv] w fun e w' => e = .returned (truV (holdsR op a b)).v ∧ Keeps (fun _ => False) w w' := by
 obtain ⟨n7, b7, n8, b8, n9, b9, n10, b10, n11, b11, n20, b20, n21, b21, n22, b22, n23, b23, n24, b24, n25, b25⟩ := opH hop
 have HOP := hide hop
 clear hop
 obtain ⟨kb, ko, cap, rfl, hb, ⟨x0, x1, x2⟩, ⟨y0, y1, y2⟩⟩ := two_cells h
 obtain ⟨X, hX⟩ : ∃ X, w.alloc (.cells #[.int .i64 0, .int .i64 0, .string ⟨#[]⟩] 41) = X := ⟨_, rfl⟩
 have HP := hide (hX ▸ heap_alloc_new w _ : X.heap[w.heap.size]? = some (.cells #[.int .i64 0, .int .i64 0, .string ⟨#[]⟩] 41 (0, 0)))
 have kX : Keeps (fun _ => False) w X := hX ▸ kAlloc w _
 have HKW := hide kX
 have HKX := hide (Keeps.refl (fun _ => False) X)
 have HB := hide (Nat.lt_of_lt_of_le hb kX.size)
 replace x0 := (kX.cell hb id).trans x0
 replace x1 := (kX.cell hb id).trans x1
 replace x2 := (kX.cell hb id).trans x2
 replace y0 := (kX.cell hb id).trans y0
 replace y1 := (kX.cell hb id).trans y1
 replace y2 := (kX.cell hb id).trans y2
 clear h hb kX
 go_enter Tryz.func94, Tryz.ntmps94
 go_upto_region 28 with fail
 rename_i Q0 K0 hc0
 refine wp_region_last (X := X) (by kernel_rfl) 9 rfl _ rfl rfl (by decide) (by kernel_rfl) [128, 129, 130, 131, 132, 133, 134, 135, 136] (by decide) rfl (by first | rfl | kernel_rfl | simp [opsB]) (uh HKX) (fun i v W1 => match i with | 0 => v = .int .i64 op | 1 => v = .slice (some ⟨kb, ko, none⟩) 2 cap | 2 => v = .pointer (some ⟨kb, ko + 0 * 3, none⟩) | 3 => v = .agg #[.int .i64 a.kind, .int .i64 a.n, str a.s] | 4 => v = .slice (some ⟨kb, ko, none⟩) 2 cap | 5 => v = .pointer (some ⟨kb, ko + 1 * 3, none⟩) | 6 => v = .agg #[.int .i64 b.kind, .int .i64 b.n, str b.s] | 7 => v = .bool (holdsR  op a b) | 8 => v = (truV (holdsR  op a b)).v | _ => True) ?_ ?_ ?_
 ·intro i v w1 w2 hq hk
  rcases i with _ | _ | _ | _ | _ | _ | _ | _ | _ | i
  all_goals exact hq
 ·intro i o A W1 him ho hs hk hd K' hK
  rcases i with _ | _ | _ | _ | _ | _ | _ | _ | _ | i
  ·obtain rfl := Option.some.inj ho
   exact step_move rfl ((hs.at rfl 0 (by decide)).trans rfl) (hK _ _ rfl (Keeps.refl _ _))
  ·obtain rfl := Option.some.inj ho
   exact step_move rfl ((hs.at rfl 1 (by decide)).trans rfl) (hK _ _ rfl (Keeps.refl _ _))
  ·obtain rfl := Option.some.inj ho
   exact step_index29 0 rfl (hd ⟨1, .data⟩ (by simp) rfl) (by decide) (hK _ _ rfl (Keeps.refl _ _))
  ·obtain rfl := Option.some.inj ho
   exact step_load41 rfl (hd ⟨2, .data⟩ (by simp) rfl) ((hk.cell (uh HB) id).trans x0) ((hk.cell (uh HB) id).trans x1) ((hk.cell (uh HB) id).trans x2) (hK _ _ rfl (Keeps.refl _ _))
  ·obtain rfl := Option.some.inj ho
   exact step_move rfl ((hs.at rfl 1 (by decide)).trans rfl) (hK _ _ rfl (Keeps.refl _ _))
  ·obtain rfl := Option.some.inj ho
   exact step_index29 1 rfl (hd ⟨4, .data⟩ (by simp) rfl) (by decide) (hK _ _ rfl (Keeps.refl _ _))
  ·obtain rfl := Option.some.inj ho
   exact step_load41 rfl (hd ⟨5, .data⟩ (by simp) rfl) ((hk.cell (uh HB) id).trans y0) ((hk.cell (uh HB) id).trans y1) ((hk.cell (uh HB) id).trans y2) (hK _ _ rfl (Keeps.refl _ _))
  ·obtain rfl := Option.some.inj ho
   exact step_c155 rfl (hd ⟨0, .data⟩ (by simp) rfl) (hd ⟨3, .data⟩ (by simp) rfl) (hd ⟨6, .data⟩ (by simp) rfl) (holds_v op a b _ (uh HOP) hs20 hs21) (fun _ h => hK _ _ rfl h)
  ·obtain rfl := Option.some.inj ho
   exact step_c90 rfl (hd ⟨7, .data⟩ (by simp) rfl) (tru_v (holdsR  op a b) _) (fun _ h => hK _ _ rfl h)
  ·omega
 ·intro A W hs hk hall K' hK
  have hl : A.tmps.getD 136 undef = (truV (holdsR  op a b)).v := hall 8 (by decide)
  have hb := (hs.at rfl 4 (by decide)).trans rfl
  refine wp_store_row 41 (.tmp 4) (.tmp 136) rfl _ _ hb hl 41 _ ((hk.block _ (lt_of_block (uh HP)) id).trans (uh HP)) (by kernel_rfl) rfl (by simp [Value.oneCell']) ?_
  refine hK _ _ (hc0 _ _ ?_)
  have hz := hs.size
  have hdef := hs.defers
  have p4 := hb
  have hr := setRow_heap W w.heap.size _ (#[.int .i64 (truV (holdsR  op a b)).kind, .int .i64 (truV (holdsR  op a b)).n, str (truV (holdsR  op a b)).s] : Array Value) 41 (0, 0) ((hk.block _ (lt_of_block (uh HP)) id).trans (uh HP))
  have HR := hide hr
  have HKE := hide (((uh HKW).trans hk).narrow (keeps_row W w.heap.size (#[.int .i64 (truV (holdsR  op a b)).kind, .int .i64 (truV (holdsR  op a b)).n, str (truV (holdsR  op a b)).s] : Array Value)) (fun i e => by omega))
  have HP4 := hide p4
  have HD := hide (hdef.trans rfl)
  clear hs hk hall hl hb hz p4 hr hK hdef
  go_wp2_with fail
  refine bodyPost_ret (v := .agg #[.int .i64 (truV (holdsR  op a b)).kind, .int .i64 (truV (holdsR  op a b)).n, str (truV (holdsR  op a b)).s]) (results_cell_row rfl _ _ w.heap.size 41 _ (0, 0) _ (uh HP4) (uh HR) Tryz.underlying41 rfl (by kernel_rfl)) (uh HD) ?_
  exact ⟨rfl, uh HKE⟩
theorem of7_v (a : ValA) (kv : Value) (w : World) (h : ValsAt w kv [a]) : Calls Tryz.prog 94 #[.int .i64 7, kv] w fun e w' => e = .returned (truV (decide (a.n = 0))).v ∧ Keeps (fun _ => False) w w' := by
 obtain ⟨kb, ko, cap, rfl, hb, x0, x1, x2⟩ := one_cells h
 obtain ⟨X, hX⟩ : ∃ X, w.alloc (.cells #[.int .i64 0, .int .i64 0, .string ⟨#[]⟩] 41) = X := ⟨_, rfl⟩
 have HP := hide (hX ▸ heap_alloc_new w _ : X.heap[w.heap.size]? = some (.cells #[.int .i64 0, .int .i64 0, .string ⟨#[]⟩] 41 (0, 0)))
 have kX : Keeps (fun _ => False) w X := hX ▸ kAlloc w _
 have HKW := hide kX
 replace x0 := (kX.cell hb id).trans x0
 replace x1 := (kX.cell hb id).trans x1
 replace x2 := (kX.cell hb id).trans x2
 clear h hb kX
 go_enter Tryz.func94, Tryz.ntmps94
 go_wp2_with fail
 refine (tru_v (decide (a.n = 0)) _).mono ?_
 rintro e w1 ⟨rfl, hk1⟩
 generalize hx : truV (decide (a.n = 0)) = x at *
 obtain ⟨z0, z1, z2, y0, y1, y2, s0, s1, s2⟩ := res_facts (uh HP) hk1 x
 have HK := hide (((uh HKW).trans hk1).fresh (by omega) (keeps_set3 w1 w.heap.size (.int .i64 x.kind) (.int .i64 x.n) (str x.s)))
 have HXE := hide hx
 unfold ValA.v
 clear hk1 hx
 go_wp2_with fail
 refine bodyPost_ret (v := .agg #[.int .i64 x.kind, .int .i64 x.n, str x.s]) (by simp [results, go_sem, s0, s1, s2]) rfl ?_
 exact ⟨by rw [← uh HXE]; rfl, uh HK⟩
theorem of8_v (a : ValA) (kv : Value) (w : World) (h : ValsAt w kv [a]) : Calls Tryz.prog 94 #[.int .i64 8, kv] w fun e w' => e = .returned (numV (wrap64 (-a.n))).v ∧ Keeps (fun _ => False) w w' := by
 obtain ⟨kb, ko, cap, rfl, hb, x0, x1, x2⟩ := one_cells h
 obtain ⟨X, hX⟩ : ∃ X, w.alloc (.cells #[.int .i64 0, .int .i64 0, .string ⟨#[]⟩] 41) = X := ⟨_, rfl⟩
 have HP := hide (hX ▸ heap_alloc_new w _ : X.heap[w.heap.size]? = some (.cells #[.int .i64 0, .int .i64 0, .string ⟨#[]⟩] 41 (0, 0)))
 have kX : Keeps (fun _ => False) w X := hX ▸ kAlloc w _
 have HKW := hide kX
 replace x0 := (kX.cell hb id).trans x0
 replace x1 := (kX.cell hb id).trans x1
 replace x2 := (kX.cell hb id).trans x2
 clear h hb kX
 go_enter Tryz.func94, Tryz.ntmps94
 go_wp2_with fail
 refine (num_v (wrap64 (-a.n)) _).mono ?_
 rintro e w1 ⟨rfl, hk1⟩
 generalize hx : numV (wrap64 (-a.n)) = x at *
 obtain ⟨z0, z1, z2, y0, y1, y2, s0, s1, s2⟩ := res_facts (uh HP) hk1 x
 have HK := hide (((uh HKW).trans hk1).fresh (by omega) (keeps_set3 w1 w.heap.size (.int .i64 x.kind) (.int .i64 x.n) (str x.s)))
 have HXE := hide hx
 unfold ValA.v
 clear hk1 hx
 go_wp2_with fail
 refine bodyPost_ret (v := .agg #[.int .i64 x.kind, .int .i64 x.n, str x.s]) (by simp [results, go_sem, s0, s1, s2]) rfl ?_
 exact ⟨by rw [← uh HXE]; rfl, uh HK⟩
theorem of23_v (a : ValA) (kv : Value) (w : World) (h : ValsAt w kv [a]) (_ : a.s.length ≤ 20) : Calls Tryz.prog 94 #[.int .i64 23, kv] w fun e w' => e = .returned (numV (a.s.length : Int)).v ∧ Keeps (fun _ => False) w w' := by
 obtain ⟨kb, ko, cap, rfl, hb, x0, x1, x2⟩ := one_cells h
 obtain ⟨X, hX⟩ : ∃ X, w.alloc (.cells #[.int .i64 0, .int .i64 0, .string ⟨#[]⟩] 41) = X := ⟨_, rfl⟩
 have HP := hide (hX ▸ heap_alloc_new w _ : X.heap[w.heap.size]? = some (.cells #[.int .i64 0, .int .i64 0, .string ⟨#[]⟩] 41 (0, 0)))
 have kX : Keeps (fun _ => False) w X := hX ▸ kAlloc w _
 have HKW := hide kX
 replace x0 := (kX.cell hb id).trans x0
 replace x1 := (kX.cell hb id).trans x1
 replace x2 := (kX.cell hb id).trans x2
 clear h hb kX
 go_enter Tryz.func94, Tryz.ntmps94
 go_wp2_with fail
 refine (num_v (a.s.length : Int) _).mono ?_
 rintro e w1 ⟨rfl, hk1⟩
 generalize hx : numV (a.s.length : Int) = x at *
 obtain ⟨z0, z1, z2, y0, y1, y2, s0, s1, s2⟩ := res_facts (uh HP) hk1 x
 have HK := hide (((uh HKW).trans hk1).fresh (by omega) (keeps_set3 w1 w.heap.size (.int .i64 x.kind) (.int .i64 x.n) (str x.s)))
 have HXE := hide hx
 unfold ValA.v
 clear hk1 hx
 go_wp2_with fail
 refine bodyPost_ret (v := .agg #[.int .i64 x.kind, .int .i64 x.n, str x.s]) (by simp [results, go_sem, s0, s1, s2]) rfl ?_
 exact ⟨by rw [← uh HXE]; rfl, uh HK⟩
end Go.Proofs.YtiinohibmcefkaaGreatDoor
