import Derived.Test.YtgdabnkjipcbhaaGreatDoorHd
namespace Go.Proofs.YtgdabnkjipcbhaaGreatDoor
open Go.RowKit Go.Maps

/-- writeString where only the frame is carried on. -/
theorem ws_step {B b : Nat} {t s : Txt} {w0 w : World} (hk : Keeps (KB w0 B b) w0 w) (h : Lib.IsBuilder 64 5 B b (bs t) w) (hlen : t.length + s.length ≤ 70368744177664) (hBw : B ≤ w.heap.size) :
    Calls Tryz.prog 31 #[.pointer (some ⟨b, 0, none⟩), str s] w fun e w' => e = .returned (.tuple #[.int .i64 s.length, .nilIface]) ∧ Lib.IsBuilder 64 5 B b (bs (t ++ s)) w' ∧ Keeps (KB w B b) w w' ∧ Keeps (KB w0 B b) w0 w' :=
  (writeString_v B b t s w h hlen hBw).mono fun _ _ q => ⟨q.1, q.2.1, q.2.2, kb_trans hk q.2.2⟩
theorem wb_step {B b : Nat} {t : Txt} (c : UInt8) (i : Int) (hi : num c = i) {w0 w : World} (hk : Keeps (KB w0 B b) w0 w) (h : Lib.IsBuilder 64 5 B b (bs t) w) (hlen : t.length ≤ 70368744177000) (hBw : B ≤ w.heap.size) :
    Calls Tryz.prog 68 #[.pointer (some ⟨b, 0, none⟩), .int .u8 i] w fun e w' => e = .returned .nilIface ∧ Lib.IsBuilder 64 5 B b (bs (t ++ [c])) w' ∧ Keeps (KB w B b) w w' ∧ Keeps (KB w0 B b) w0 w' := by
  subst hi
  exact (writeByte_v B b t c w h hlen hBw).mono fun _ _ q => ⟨q.1, q.2.1, q.2.2, kb_trans hk q.2.2⟩

theorem boxed2 (w : World) (cs ds : Array Value) (t u : TypeId) : ∃ w2, (w.alloc (.cells cs t)).alloc (.cells ds u) = w2 ∧ Keeps (fun _ => False) w w2 ∧ w2.heap.size = w.heap.size + 2 ∧ w2.heap[w.heap.size]? = some (.cells cs t (0, 0)) ∧ w2.heap[w.heap.size + 1]? = some (.cells ds u (0, 0)) ∧ (∀ (j : Nat) (x : Value), cs[j]? = some x → w2.cell? ⟨w.heap.size, j, none⟩ = some x) ∧ ∀ (j : Nat) (x : Value), ds[j]? = some x → w2.cell? ⟨w.heap.size + 1, j, none⟩ = some x := by
  obtain ⟨h1, h2, h3⟩ := boxedT w cs t
  obtain ⟨k1, k2, k3⟩ := boxedT (w.alloc (.cells cs t)) ds u
  have e : (w.alloc (.cells cs t)).heap.size = w.heap.size + 1 := by simp
  refine ⟨_, rfl, (unhide h1).trans (unhide k1), by simp, ((unhide k1).block _ h2 id).trans (heap_alloc_new w _), ?_, fun j x hx => ((unhide k1).cell h2 id).trans (h3 j x hx), fun j x hx => ?_⟩
  · have := heap_alloc_new (w.alloc (.cells cs t)) (.cells ds u)
    rw [e] at this
    exact this
  · have := k3 j x hx
    rw [e] at this
    exact this

theorem boxD (w : World) (cs : Array Value) (t : TypeId) : Keeps (fun _ => False) w (w.alloc (.cells cs t)).drew ∧ (w.alloc (.cells cs t)).drew.heap.size = w.heap.size + 1 ∧ (w.alloc (.cells cs t)).drew.heap[w.heap.size]? = some (.cells cs t (0, 0)) ∧ ∀ (j : Nat) (x : Value), cs[j]? = some x → (w.alloc (.cells cs t)).drew.cell? ⟨w.heap.size, j, none⟩ = some x := by
  obtain ⟨h1, h2, h3⟩ := boxedT w cs t
  refine ⟨(unhide h1).drew, by show (w.alloc (.cells cs t)).heap.size = _; simp, heap_alloc_new w _, fun j x hx => ?_⟩
  exact (((Keeps.refl (fun _ => False) (w.alloc (.cells cs t))).drew).cell h2 id).trans (h3 j x hx)

set_option maxRecDepth 100000 in
set_option maxHeartbeats 1600000 in
theorem writeNot_v (B b : Nat) (t : Txt) (n : Int) (s : Txt) (f : FormA) (o0 n0 : Int) (s0 : Txt) (k0 : EL) (up : Nat) (kv : Value) (w : World) (hE : Env B b w) (hS : SlE (belZ B) w up kv (.cons o0 n0 s0 k0 .nil)) (hI : Lib.IsBuilder 64 5 B b (bs t) w) (hW : WrE o0 n0 s0 k0) (hr : 1 ≤ f.right ∧ f.right ≤ 8) (hft : f.text.length ≤ 4) (hl : t.length + 600 * (k0.size + 1) + 20 ≤ 70368744177000) :
    Calls Tryz.prog 70 #[.pointer (some ⟨b, 0, none⟩), exV 7 n s kv, formV f] w fun e w' => e = .returned (.tuple #[]) ∧ Lib.IsBuilder 64 5 B b (bs (t ++ f.text ++ [32] ++ atT (o0, n0, textE o0 n0 s0 k0) f.right)) w' ∧ Keeps (KB w B b) w w' := by
  have HS := hide hS
  obtain ⟨ao, cap, hb, off, rfl, hcap, ha, hx⟩ := hS.open
  obtain ⟨rfl, hp⟩ := ha (by simp [EL.len])
  have e2 : (EL.cons o0 n0 s0 k0 .nil).len = 1 := rfl
  rw [e2] at hcap ⊢ HS
  obtain ⟨fsh, ftx, fk, frk, fle, fri⟩ := f
  simp only at hr hft ⊢
  obtain ⟨w2, hw2, hk2, hz2, hx2, hy2, hxc, hyc⟩ := boxed2 w #[.int .i64 7, .int .i64 n, str s, .slice (some ⟨hb, off, none⟩) 1 cap] #[.int .i64 fsh, str ftx, .int .i64 fk, .int .i64 frk, .int .i64 fle, .int .i64 fri] 54 111
  have HX2 := hide hx2
  have HY0 := hide hy2
  have HK2 := hide hk2
  have HI2 := hide (ib_keepF hI hk2)
  have HS2 := hide ((unhide HS).keepF hk2)
  have HE2 := hide (hE.keepF hk2)
  have d1 := hyc 1 (str ftx) rfl
  have d5 := hyc 5 (.int .i64 fri) rfl
  have e0 := hxc 0 (.int .i64 7) rfl
  have e3 := hxc 3 (.slice (some ⟨hb, off, none⟩) 1 cap) rfl
  clear hyc hx hS hI ha HS hE hxc hx2 hy2 hk2
  have HC43 := hide (ws_step (s := ftx) (unhide HK2).any (unhide HI2) (by omega) (unhide HE2).size)
  go_enter Tryz.func70, Tryz.ntmps70
  go_wp2_with fail
  clear hw2
  refine (unhide HC43).mono ?_
  rintro e w3 ⟨rfl, hi3, hk23, hk3⟩
  have HK3 := hide hk3
  have HI3 := hide hi3
  have HE3 := hide ((unhide HE2).kb hk23)
  have hs3 := (unhide HS2).kb (unhide HI2) hk23
  have HS3 := hide hs3
  have g0 := box_kb (unhide HI2) hk23 (unhide HX2) (by decide) (by decide) e0
  have g3 := box_kb (unhide HI2) hk23 (unhide HX2) (by decide) (by decide) e3
  have g5 := box_kb (unhide HI2) hk23 (unhide HY0) (by decide) (by decide) d5
  have sz3 : w2.heap.size ≤ w3.heap.size := hk23.size
  obtain ⟨ao', cap', hb', off', hv', _, ha', hx⟩ := hs3.open
  obtain ⟨rfl, _⟩ := ha' (by simp [EL.len])
  rw [e2] at hv'
  injection hv' with q1 q2 q3
  injection q1 with q1
  injection q1 with q1 q4
  subst q1 q4 q3
  obtain ⟨a1, a2, a3, a4, a5, ⟨q0, p0, a6, a7, a8⟩, _⟩ := hx
  have HS0 : Hid (SlE (belZ B) w3 hb (.slice q0 k0.len p0) k0) := ⟨q0, p0, rfl, a7, a8⟩
  have hb3 : hb < w3.heap.size := a1
  have hy3 : w.heap.size + 1 < w3.heap.size := by omega
  clear HC43 hi3 hk3 hk23 HI2 HS2 HE2 HX2 HY0 d1 d5 e0 e3 ha' a2 a8 HS3
  go_wp2_with fail
  have n1 : w3.heap.size ≠ w.heap.size + 1 := by omega
  have n2 : w3.heap.size ≠ w.heap.size := by omega
  have n3 : w3.heap.size ≠ hb := by omega
  go_region_held3 (fun w' => w'.cell? ⟨w.heap.size, 3, none⟩ = some (.slice (some ⟨hb, off, none⟩) 1 cap) ∧ w'.cell? ⟨hb, off, none⟩ = some (.int .i64 o0) ∧ w'.cell? ⟨hb, off + 1, none⟩ = some (.int .i64 n0) ∧ w'.cell? ⟨hb, off + 2, none⟩ = some (str s0) ∧ w'.cell? ⟨hb, off + 3, none⟩ = some (.slice q0 k0.len p0) ∧ w'.cell? ⟨w.heap.size + 1, 5, none⟩ = some (.int .i64 fri)) (first | exact ⟨g3, a3, a4, a5, a6, g5⟩ | (refine ⟨?_, ?_, ?_, ?_, ?_, ?_⟩ <;> first | (simp only [cell_far n1, cell_far n2, cell_far n3]; assumption) | (go_keep; done))) (fail)
  obtain ⟨hk34, hz4, h4b, h4c⟩ := boxD w3 #[.int .i64 o0, .int .i64 n0, str s0, .slice q0 k0.len p0] 54
  have m0 := (hk34.cell (o := 0) (show w.heap.size < w3.heap.size by omega) id).trans g0
  have HI4 := hide (ib_keepF (unhide HI3) hk34)
  have HE4 := hide ((unhide HE3).keepF hk34)
  have HS4 := hide ((unhide HS0).keepF hk34)
  have HK4 : Hid (Keeps (KB w B b) w _) := kb_trans (unhide HK3) hk34.any
  have HB4 := hide h4b
  have r0 := h4c 0 (.int .i64 o0) rfl
  have r1 := h4c 1 (.int .i64 n0) rfl
  have r2 := h4c 2 (str s0) rfl
  have r3 := h4c 3 (.slice q0 k0.len p0) rfl
  clear hk34 h4b h4c g0 g3 g5 a3 a4 a5 a6 HI3 HE3 HS0 HK3
  generalize (w3.alloc (.cells #[.int .i64 o0, .int .i64 n0, .string ⟨List.toArray s0⟩, .slice q0 k0.len p0] 54)).drew = w4 at *
  go_wp2_with fail
  refine (wb_step 32 32 rfl (unhide HK4) (unhide HI4) (by simp; omega) (unhide HE4).size).mono ?_
  rintro e w5 ⟨rfl, hi5, hk45, hk5⟩
  have u0 := box_kb (unhide HI4) hk45 (unhide HB4) (by decide) (by decide) r0
  have u1 := box_kb (unhide HI4) hk45 (unhide HB4) (by decide) (by decide) r1
  have u2 := box_kb (unhide HI4) hk45 (unhide HB4) (by decide) (by decide) r2
  have u3 := box_kb (unhide HI4) hk45 (unhide HB4) (by decide) (by decide) r3
  have HW := hide (hW B b (t ++ ftx ++ [32]) fri hb (.slice q0 k0.len p0) w5 (Or.inl hr) ((unhide HE4).kb hk45) ((unhide HS4).kb (unhide HI4) hk45) hi5 (by simp; omega))
  have HK5 := hide hk5
  clear hi5 hk45 hk5 r0 r1 r2 r3 m0 HI4 HE4 HS4 HB4 HK4 hW
  go_wp2_with fail
  refine (unhide HW).mono ?_
  rintro e w6 ⟨rfl, hi6, hk6⟩
  have HI6 := hide hi6
  have HK6 := hide (kb_trans (unhide HK5) hk6)
  clear hi6 hk6
  go_wp2_with fail
  go_end0
  exact ⟨rfl, unhide HI6, unhide HK6⟩
end Go.Proofs.YtgdabnkjipcbhaaGreatDoor
