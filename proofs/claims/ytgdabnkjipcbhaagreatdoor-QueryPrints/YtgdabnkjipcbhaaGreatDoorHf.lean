import Derived.Test.YtgdabnkjipcbhaaGreatDoorHe
namespace Go.Proofs.YtgdabnkjipcbhaaGreatDoor
open Go.RowKit Go.Maps

set_option maxRecDepth 100000 in
set_option maxHeartbeats 1600000 in
theorem writeNegLit_v (B b : Nat) (t : Txt) (n : Int) (s : Txt) (f : FormA) (o0 n0 : Int) (s0 : Txt) (k0 : EL) (up : Nat) (kv : Value) (w : World) (hE : Env B b w) (hS : SlE (belZ B) w up kv (.cons o0 n0 s0 k0 .nil)) (hI : Lib.IsBuilder 64 5 B b (bs t) w) (hW : WrE o0 n0 s0 k0) (hr : 1 ≤ f.right ∧ f.right ≤ 8) (hft : f.text.length ≤ 4) (ho : o0 = 1) (hn : 0 ≤ n0) (hl : t.length + 600 * (k0.size + 1) + 20 ≤ 70368744177000) :
    Calls Tryz.prog 70 #[.pointer (some ⟨b, 0, none⟩), exV 8 n s kv, formV f] w fun e w' => e = .returned (.tuple #[]) ∧ Lib.IsBuilder 64 5 B b (bs (t ++ f.text ++ atT (o0, n0, textE o0 n0 s0 k0) 10)) w' ∧ Keeps (KB w B b) w w' := by
  have HO := hide ho
  clear ho
  have HS := hide hS
  obtain ⟨ao, cap, hb, off, rfl, hcap, ha, hx⟩ := hS.open
  obtain ⟨rfl, hp⟩ := ha (by simp [EL.len])
  have e2 : (EL.cons o0 n0 s0 k0 .nil).len = 1 := rfl
  rw [e2] at hcap ⊢ HS
  obtain ⟨fsh, ftx, fk, frk, fle, fri⟩ := f
  simp only at hr hft ⊢
  obtain ⟨w2, hw2, hk2, hz2, hx2, hy2, hxc, hyc⟩ := boxed2 w #[.int .i64 8, .int .i64 n, str s, .slice (some ⟨hb, off, none⟩) 1 cap] #[.int .i64 fsh, str ftx, .int .i64 fk, .int .i64 frk, .int .i64 fle, .int .i64 fri] 54 111
  have HX2 := hide hx2
  have HY0 := hide hy2
  have HK2 := hide hk2
  have HI2 := hide (ib_keepF hI hk2)
  have HS2 := hide ((unhide HS).keepF hk2)
  have HE2 := hide (hE.keepF hk2)
  have d1 := hyc 1 (str ftx) rfl
  have d5 := hyc 5 (.int .i64 fri) rfl
  have e0 := hxc 0 (.int .i64 8) rfl
  have e3 := hxc 3 (.slice (some ⟨hb, off, none⟩) 1 cap) rfl
  clear hyc hx hS hI ha HS hE hxc hx2 hy2 hk2
  have HC43 := hide (ws_step (s := ftx) (unhide HK2).any (unhide HI2) (by omega) (unhide HE2).size)
  go_enter Tryz.func70, Tryz.ntmps70
  go_wp2_with fail
  clear hw2
  refine (unhide HC43).mono ?_
  rintro e w3 ⟨rfl, hi3, hk23, hk3⟩
  have HK3 := hide hk3
  have HI3 := hide hi3
  have HE3 := hide ((unhide HE2).kb hk23)
  have hs3 := (unhide HS2).kb (unhide HI2) hk23
  have HS3 := hide hs3
  have g0 := box_kb (unhide HI2) hk23 (unhide HX2) (by decide) (by decide) e0
  have g3 := box_kb (unhide HI2) hk23 (unhide HX2) (by decide) (by decide) e3
  have g5 := box_kb (unhide HI2) hk23 (unhide HY0) (by decide) (by decide) d5
  have sz3 : w2.heap.size ≤ w3.heap.size := hk23.size
  obtain ⟨ao', cap', hb', off', hv', _, ha', hx⟩ := hs3.open
  obtain ⟨rfl, _⟩ := ha' (by simp [EL.len])
  rw [e2] at hv'
  injection hv' with q1 q2 q3
  injection q1 with q1
  injection q1 with q1 q4
  subst q1 q4 q3
  obtain ⟨a1, a2, a3, a4, a5, ⟨q0, p0, a6, a7, a8⟩, _⟩ := hx
  have HS0 : Hid (SlE (belZ B) w3 hb (.slice q0 k0.len p0) k0) := ⟨q0, p0, rfl, a7, a8⟩
  have hb3 : hb < w3.heap.size := a1
  have hy3 : w.heap.size + 1 < w3.heap.size := by omega
  clear HC43 hi3 hk3 hk23 HI2 HS2 HE2 HX2 HY0 d1 d5 e0 e3 ha' a2 a8 HS3
  go_wp2_with fail
  have n1 : w3.heap.size ≠ w.heap.size + 1 := by omega
  have n2 : w3.heap.size ≠ w.heap.size := by omega
  have n3 : w3.heap.size ≠ hb := by omega
  go_region_held3 (fun w' => w'.cell? ⟨w.heap.size, 3, none⟩ = some (.slice (some ⟨hb, off, none⟩) 1 cap) ∧ w'.cell? ⟨hb, off, none⟩ = some (.int .i64 o0) ∧ w'.cell? ⟨hb, off + 1, none⟩ = some (.int .i64 n0) ∧ w'.cell? ⟨hb, off + 2, none⟩ = some (str s0) ∧ w'.cell? ⟨hb, off + 3, none⟩ = some (.slice q0 k0.len p0) ∧ w'.cell? ⟨w.heap.size + 1, 5, none⟩ = some (.int .i64 fri)) (first | exact ⟨g3, a3, a4, a5, a6, g5⟩ | (refine ⟨?_, ?_, ?_, ?_, ?_, ?_⟩ <;> first | (simp only [cell_far n1, cell_far n2, cell_far n3]; assumption) | (go_keep; done))) (fail)
  obtain ⟨hk34, hz4, h4b, h4c⟩ := boxD w3 #[.int .i64 o0, .int .i64 n0, str s0, .slice q0 k0.len p0] 54
  have m0 := (hk34.cell (o := 0) (show w.heap.size < w3.heap.size by omega) id).trans g0
  have HI4 := hide (ib_keepF (unhide HI3) hk34)
  have HE4 := hide ((unhide HE3).keepF hk34)
  have HS4 := hide ((unhide HS0).keepF hk34)
  have HK4 : Hid (Keeps (KB w B b) w _) := kb_trans (unhide HK3) hk34.any
  have HB4 := hide h4b
  have r0 := h4c 0 (.int .i64 o0) rfl
  have r1 := h4c 1 (.int .i64 n0) rfl
  have r2 := h4c 2 (str s0) rfl
  have r3 := h4c 3 (.slice q0 k0.len p0) rfl
  clear hk34 h4b h4c g0 g3 g5 a3 a4 a5 a6 HI3 HE3 HS0 HK3
  generalize (w3.alloc (.cells #[.int .i64 o0, .int .i64 n0, .string ⟨List.toArray s0⟩, .slice q0 k0.len p0] 54)).drew = w4 at *
  have HW := hide (hW B b (t ++ ftx) 10 hb (.slice q0 k0.len p0) w4 (Or.inr ⟨rfl, unhide HO, hn⟩) (unhide HE4) (unhide HS4) (unhide HI4) (by simp; omega))
  clear HI4 HE4 HS4 HB4 hW
  have dp : (o0 == 1) = true := by simpa using (unhide HO)
  go_wp2_with fail
  refine (unhide HW).mono ?_
  rintro e w6 ⟨rfl, hi6, hk6⟩
  have HI6 := hide hi6
  have HK6 := hide (kb_trans (unhide HK4) hk6)
  clear hi6 hk6
  go_wp2_with fail
  go_end0
  exact ⟨rfl, unhide HI6, unhide HK6⟩

set_option maxRecDepth 100000 in
set_option maxHeartbeats 1600000 in
theorem writeNegLow_v (B b : Nat) (t : Txt) (n : Int) (s : Txt) (f : FormA) (o0 n0 : Int) (s0 : Txt) (k0 : EL) (up : Nat) (kv : Value) (w : World) (hE : Env B b w) (hS : SlE (belZ B) w up kv (.cons o0 n0 s0 k0 .nil)) (hI : Lib.IsBuilder 64 5 B b (bs t) w) (hW : WrE o0 n0 s0 k0) (hr : 1 ≤ f.right ∧ f.right ≤ 8) (hft : f.text.length ≤ 4) (ho : o0 = 1) (hn : ¬ 0 ≤ n0) (hl : t.length + 600 * (k0.size + 1) + 20 ≤ 70368744177000) :
    Calls Tryz.prog 70 #[.pointer (some ⟨b, 0, none⟩), exV 8 n s kv, formV f] w fun e w' => e = .returned (.tuple #[]) ∧ Lib.IsBuilder 64 5 B b (bs (t ++ f.text ++ atT (o0, n0, textE o0 n0 s0 k0) f.right)) w' ∧ Keeps (KB w B b) w w' := by
  have HO := hide ho
  clear ho
  have HS := hide hS
  obtain ⟨ao, cap, hb, off, rfl, hcap, ha, hx⟩ := hS.open
  obtain ⟨rfl, hp⟩ := ha (by simp [EL.len])
  have e2 : (EL.cons o0 n0 s0 k0 .nil).len = 1 := rfl
  rw [e2] at hcap ⊢ HS
  obtain ⟨fsh, ftx, fk, frk, fle, fri⟩ := f
  simp only at hr hft ⊢
  obtain ⟨w2, hw2, hk2, hz2, hx2, hy2, hxc, hyc⟩ := boxed2 w #[.int .i64 8, .int .i64 n, str s, .slice (some ⟨hb, off, none⟩) 1 cap] #[.int .i64 fsh, str ftx, .int .i64 fk, .int .i64 frk, .int .i64 fle, .int .i64 fri] 54 111
  have HX2 := hide hx2
  have HY0 := hide hy2
  have HK2 := hide hk2
  have HI2 := hide (ib_keepF hI hk2)
  have HS2 := hide ((unhide HS).keepF hk2)
  have HE2 := hide (hE.keepF hk2)
  have d1 := hyc 1 (str ftx) rfl
  have d5 := hyc 5 (.int .i64 fri) rfl
  have e0 := hxc 0 (.int .i64 8) rfl
  have e3 := hxc 3 (.slice (some ⟨hb, off, none⟩) 1 cap) rfl
  clear hyc hx hS hI ha HS hE hxc hx2 hy2 hk2
  have HC43 := hide (ws_step (s := ftx) (unhide HK2).any (unhide HI2) (by omega) (unhide HE2).size)
  go_enter Tryz.func70, Tryz.ntmps70
  go_wp2_with fail
  clear hw2
  refine (unhide HC43).mono ?_
  rintro e w3 ⟨rfl, hi3, hk23, hk3⟩
  have HK3 := hide hk3
  have HI3 := hide hi3
  have HE3 := hide ((unhide HE2).kb hk23)
  have hs3 := (unhide HS2).kb (unhide HI2) hk23
  have HS3 := hide hs3
  have g0 := box_kb (unhide HI2) hk23 (unhide HX2) (by decide) (by decide) e0
  have g3 := box_kb (unhide HI2) hk23 (unhide HX2) (by decide) (by decide) e3
  have g5 := box_kb (unhide HI2) hk23 (unhide HY0) (by decide) (by decide) d5
  have sz3 : w2.heap.size ≤ w3.heap.size := hk23.size
  obtain ⟨ao', cap', hb', off', hv', _, ha', hx⟩ := hs3.open
  obtain ⟨rfl, _⟩ := ha' (by simp [EL.len])
  rw [e2] at hv'
  injection hv' with q1 q2 q3
  injection q1 with q1
  injection q1 with q1 q4
  subst q1 q4 q3
  obtain ⟨a1, a2, a3, a4, a5, ⟨q0, p0, a6, a7, a8⟩, _⟩ := hx
  have HS0 : Hid (SlE (belZ B) w3 hb (.slice q0 k0.len p0) k0) := ⟨q0, p0, rfl, a7, a8⟩
  have hb3 : hb < w3.heap.size := a1
  have hy3 : w.heap.size + 1 < w3.heap.size := by omega
  clear HC43 hi3 hk3 hk23 HI2 HS2 HE2 HX2 HY0 d1 d5 e0 e3 ha' a2 a8 HS3
  go_wp2_with fail
  have n1 : w3.heap.size ≠ w.heap.size + 1 := by omega
  have n2 : w3.heap.size ≠ w.heap.size := by omega
  have n3 : w3.heap.size ≠ hb := by omega
  go_region_held3 (fun w' => w'.cell? ⟨w.heap.size, 3, none⟩ = some (.slice (some ⟨hb, off, none⟩) 1 cap) ∧ w'.cell? ⟨hb, off, none⟩ = some (.int .i64 o0) ∧ w'.cell? ⟨hb, off + 1, none⟩ = some (.int .i64 n0) ∧ w'.cell? ⟨hb, off + 2, none⟩ = some (str s0) ∧ w'.cell? ⟨hb, off + 3, none⟩ = some (.slice q0 k0.len p0) ∧ w'.cell? ⟨w.heap.size + 1, 5, none⟩ = some (.int .i64 fri)) (first | exact ⟨g3, a3, a4, a5, a6, g5⟩ | (refine ⟨?_, ?_, ?_, ?_, ?_, ?_⟩ <;> first | (simp only [cell_far n1, cell_far n2, cell_far n3]; assumption) | (go_keep; done))) (fail)
  obtain ⟨hk34, hz4, h4b, h4c⟩ := boxD w3 #[.int .i64 o0, .int .i64 n0, str s0, .slice q0 k0.len p0] 54
  have m0 := (hk34.cell (o := 0) (show w.heap.size < w3.heap.size by omega) id).trans g0
  have HI4 := hide (ib_keepF (unhide HI3) hk34)
  have HE4 := hide ((unhide HE3).keepF hk34)
  have HS4 := hide ((unhide HS0).keepF hk34)
  have HK4 : Hid (Keeps (KB w B b) w _) := kb_trans (unhide HK3) hk34.any
  have HB4 := hide h4b
  have r0 := h4c 0 (.int .i64 o0) rfl
  have r1 := h4c 1 (.int .i64 n0) rfl
  have r2 := h4c 2 (str s0) rfl
  have r3 := h4c 3 (.slice q0 k0.len p0) rfl
  clear hk34 h4b h4c g0 g3 g5 a3 a4 a5 a6 HI3 HE3 HS0 HK3
  generalize (w3.alloc (.cells #[.int .i64 o0, .int .i64 n0, .string ⟨List.toArray s0⟩, .slice q0 k0.len p0] 54)).drew = w4 at *
  have HW := hide (hW B b (t ++ ftx) fri hb (.slice q0 k0.len p0) w4 (Or.inl hr) (unhide HE4) (unhide HS4) (unhide HI4) (by simp; omega))
  clear HI4 HE4 HS4 HB4 hW
  have dp : (o0 == 1) = true := by simpa using (unhide HO)
  go_wp2_with fail
  refine (unhide HW).mono ?_
  rintro e w6 ⟨rfl, hi6, hk6⟩
  have HI6 := hide hi6
  have HK6 := hide (kb_trans (unhide HK4) hk6)
  clear hi6 hk6
  go_wp2_with fail
  go_end0
  exact ⟨rfl, unhide HI6, unhide HK6⟩

set_option maxRecDepth 100000 in
set_option maxHeartbeats 1600000 in
theorem writeNegAny_v (B b : Nat) (t : Txt) (n : Int) (s : Txt) (f : FormA) (o0 n0 : Int) (s0 : Txt) (k0 : EL) (up : Nat) (kv : Value) (w : World) (hE : Env B b w) (hS : SlE (belZ B) w up kv (.cons o0 n0 s0 k0 .nil)) (hI : Lib.IsBuilder 64 5 B b (bs t) w) (hW : WrE o0 n0 s0 k0) (hr : 1 ≤ f.right ∧ f.right ≤ 8) (hft : f.text.length ≤ 4) (ho : ¬ o0 = 1) (hl : t.length + 600 * (k0.size + 1) + 20 ≤ 70368744177000) :
    Calls Tryz.prog 70 #[.pointer (some ⟨b, 0, none⟩), exV 8 n s kv, formV f] w fun e w' => e = .returned (.tuple #[]) ∧ Lib.IsBuilder 64 5 B b (bs (t ++ f.text ++ atT (o0, n0, textE o0 n0 s0 k0) f.right)) w' ∧ Keeps (KB w B b) w w' := by
  have HS := hide hS
  obtain ⟨ao, cap, hb, off, rfl, hcap, ha, hx⟩ := hS.open
  obtain ⟨rfl, hp⟩ := ha (by simp [EL.len])
  have e2 : (EL.cons o0 n0 s0 k0 .nil).len = 1 := rfl
  rw [e2] at hcap ⊢ HS
  obtain ⟨fsh, ftx, fk, frk, fle, fri⟩ := f
  simp only at hr hft ⊢
  obtain ⟨w2, hw2, hk2, hz2, hx2, hy2, hxc, hyc⟩ := boxed2 w #[.int .i64 8, .int .i64 n, str s, .slice (some ⟨hb, off, none⟩) 1 cap] #[.int .i64 fsh, str ftx, .int .i64 fk, .int .i64 frk, .int .i64 fle, .int .i64 fri] 54 111
  have HX2 := hide hx2
  have HY0 := hide hy2
  have HK2 := hide hk2
  have HI2 := hide (ib_keepF hI hk2)
  have HS2 := hide ((unhide HS).keepF hk2)
  have HE2 := hide (hE.keepF hk2)
  have d1 := hyc 1 (str ftx) rfl
  have d5 := hyc 5 (.int .i64 fri) rfl
  have e0 := hxc 0 (.int .i64 8) rfl
  have e3 := hxc 3 (.slice (some ⟨hb, off, none⟩) 1 cap) rfl
  clear hyc hx hS hI ha HS hE hxc hx2 hy2 hk2
  have HC43 := hide (ws_step (s := ftx) (unhide HK2).any (unhide HI2) (by omega) (unhide HE2).size)
  go_enter Tryz.func70, Tryz.ntmps70
  go_wp2_with fail
  clear hw2
  refine (unhide HC43).mono ?_
  rintro e w3 ⟨rfl, hi3, hk23, hk3⟩
  have HK3 := hide hk3
  have HI3 := hide hi3
  have HE3 := hide ((unhide HE2).kb hk23)
  have hs3 := (unhide HS2).kb (unhide HI2) hk23
  have HS3 := hide hs3
  have g0 := box_kb (unhide HI2) hk23 (unhide HX2) (by decide) (by decide) e0
  have g3 := box_kb (unhide HI2) hk23 (unhide HX2) (by decide) (by decide) e3
  have g5 := box_kb (unhide HI2) hk23 (unhide HY0) (by decide) (by decide) d5
  have sz3 : w2.heap.size ≤ w3.heap.size := hk23.size
  obtain ⟨ao', cap', hb', off', hv', _, ha', hx⟩ := hs3.open
  obtain ⟨rfl, _⟩ := ha' (by simp [EL.len])
  rw [e2] at hv'
  injection hv' with q1 q2 q3
  injection q1 with q1
  injection q1 with q1 q4
  subst q1 q4 q3
  obtain ⟨a1, a2, a3, a4, a5, ⟨q0, p0, a6, a7, a8⟩, _⟩ := hx
  have HS0 : Hid (SlE (belZ B) w3 hb (.slice q0 k0.len p0) k0) := ⟨q0, p0, rfl, a7, a8⟩
  have hb3 : hb < w3.heap.size := a1
  have hy3 : w.heap.size + 1 < w3.heap.size := by omega
  clear HC43 hi3 hk3 hk23 HI2 HS2 HE2 HX2 HY0 d1 d5 e0 e3 ha' a2 a8 HS3
  go_wp2_with fail
  have n1 : w3.heap.size ≠ w.heap.size + 1 := by omega
  have n2 : w3.heap.size ≠ w.heap.size := by omega
  have n3 : w3.heap.size ≠ hb := by omega
  go_region_held3 (fun w' => w'.cell? ⟨w.heap.size, 3, none⟩ = some (.slice (some ⟨hb, off, none⟩) 1 cap) ∧ w'.cell? ⟨hb, off, none⟩ = some (.int .i64 o0) ∧ w'.cell? ⟨hb, off + 1, none⟩ = some (.int .i64 n0) ∧ w'.cell? ⟨hb, off + 2, none⟩ = some (str s0) ∧ w'.cell? ⟨hb, off + 3, none⟩ = some (.slice q0 k0.len p0) ∧ w'.cell? ⟨w.heap.size + 1, 5, none⟩ = some (.int .i64 fri)) (first | exact ⟨g3, a3, a4, a5, a6, g5⟩ | (refine ⟨?_, ?_, ?_, ?_, ?_, ?_⟩ <;> first | (simp only [cell_far n1, cell_far n2, cell_far n3]; assumption) | (go_keep; done))) (fail)
  obtain ⟨hk34, hz4, h4b, h4c⟩ := boxD w3 #[.int .i64 o0, .int .i64 n0, str s0, .slice q0 k0.len p0] 54
  have m0 := (hk34.cell (o := 0) (show w.heap.size < w3.heap.size by omega) id).trans g0
  have HI4 := hide (ib_keepF (unhide HI3) hk34)
  have HE4 := hide ((unhide HE3).keepF hk34)
  have HS4 := hide ((unhide HS0).keepF hk34)
  have HK4 : Hid (Keeps (KB w B b) w _) := kb_trans (unhide HK3) hk34.any
  have HB4 := hide h4b
  have r0 := h4c 0 (.int .i64 o0) rfl
  have r1 := h4c 1 (.int .i64 n0) rfl
  have r2 := h4c 2 (str s0) rfl
  have r3 := h4c 3 (.slice q0 k0.len p0) rfl
  clear hk34 h4b h4c g0 g3 g5 a3 a4 a5 a6 HI3 HE3 HS0 HK3
  generalize (w3.alloc (.cells #[.int .i64 o0, .int .i64 n0, .string ⟨List.toArray s0⟩, .slice q0 k0.len p0] 54)).drew = w4 at *
  have HW := hide (hW B b (t ++ ftx) fri hb (.slice q0 k0.len p0) w4 (Or.inl hr) (unhide HE4) (unhide HS4) (unhide HI4) (by simp; omega))
  clear HI4 HE4 HS4 HB4 hW
  have dn : (o0 == 1) = false := by simpa using ho
  clear ho
  go_wp2_with fail
  refine (unhide HW).mono ?_
  rintro e w6 ⟨rfl, hi6, hk6⟩
  have HI6 := hide hi6
  have HK6 := hide (kb_trans (unhide HK4) hk6)
  clear hi6 hk6
  go_wp2_with fail
  go_end0
  exact ⟨rfl, unhide HI6, unhide HK6⟩
end Go.Proofs.YtgdabnkjipcbhaaGreatDoor
