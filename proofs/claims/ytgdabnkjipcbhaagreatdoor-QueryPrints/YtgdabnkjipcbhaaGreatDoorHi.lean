import Derived.Test.YtgdabnkjipcbhaaGreatDoorHh
namespace Go.Proofs.YtgdabnkjipcbhaaGreatDoor
open Go.RowKit Go.Maps

theorem kid0 {B : Nat} {w : World} {hb off : Nat} {o n : Int} {s : Txt} {k r : EL} (h : ExIn (belZ B) w (.cons o n s k r) hb off) : ∃ ao cap, hb < w.heap.size ∧ w.cell? ⟨hb, off, none⟩ = some (.int .i64 o) ∧ w.cell? ⟨hb, off + 1, none⟩ = some (.int .i64 n) ∧ w.cell? ⟨hb, off + 2, none⟩ = some (str s) ∧ w.cell? ⟨hb, off + 3, none⟩ = some (.slice ao k.len cap) ∧ Hid (SlE (belZ B) w hb (.slice ao k.len cap) k) := by
  obtain ⟨h1, _, h3, h4, h5, ⟨kao, kcap, h6, h7, h8⟩, _⟩ := h
  exact ⟨kao, kcap, h1, h3, h4, h5, h6, kao, kcap, rfl, h7, h8⟩

set_option maxRecDepth 100000 in
set_option maxHeartbeats 1600000 in
theorem wBetween_v (B b : Nat) (t : Txt) (m : Nat) (n : Int) (s : Txt) (want : Int) (ao : Option Addr) (k cap : Nat) (f : FormA) (w : World) (hf : formsL[m]? = some f) (hm : m < 26) (hsh : f.shape = 3) (hw : ¬ f.rank < want) (hE : Env B b w) (o0 n0 o1 n1 : Int) (s0 s1 : Txt) (k0 k1 : EL) (up : Nat) (hk : k = 2) (hS : SlE (belZ B) w up (.slice ao k cap) (.cons o0 n0 s0 k0 (.cons o1 n1 s1 k1 .nil))) (hI : Lib.IsBuilder 64 5 B b (bs t) w) (hW : KidsW (.cons o0 n0 s0 k0 (.cons o1 n1 s1 k1 .nil))) (hr : (1 ≤ f.left ∧ f.left ≤ 8) ∧ 1 ≤ f.right ∧ f.right ≤ 8) (hft : f.text.length ≤ 4) (hl : t.length + 600 * (k0.size + 1) + 600 * (k1.size + 1) + 30 ≤ 70368744177000) :
    Calls Tryz.prog 45 #[.pointer (some ⟨b, 0, none⟩), exV m n s (.slice ao k cap), .int .i64 want] w fun e w' => e = .returned (.tuple #[]) ∧ Lib.IsBuilder 64 5 B b (bs (t ++ (atT (o0, n0, textE o0 n0 s0 k0) f.left ++ [32] ++ f.text ++ [32] ++ atT (o1, n1, textE o1 n1 s1 k1) f.right))) w' ∧ Keeps (KB w B b) w w' := by
  obtain ⟨fsh, ftx, fk, frk, fle, fri⟩ := f
  simp only at hsh hw hr hft ⊢
  subst hk
  subst hsh
  obtain ⟨hk1, hz1, hx1, hxc⟩ := boxA w #[.int .i64 m, .int .i64 n, str s, .slice ao 2 cap] 54
  have HE1 := hide (hE.keepF hk1)
  have F0 := fun (x : Value) (j : Nat) (hj : (FormA.cs ⟨3, ftx, fk, frk, fle, fri⟩)[j]? = some x) => (unhide HE1).forms.cell m _ hf j x hj
  have f0 : (w.alloc (.cells #[.int .i64 m, .int .i64 n, str s, .slice ao 2 cap] 54)).cell? ⟨4, m * 6, none⟩ = some (.int .i64 3) := F0 (.int .i64 3) 0 rfl
  have f1 := F0 (str ftx) 1 rfl
  have f2 := F0 (.int .i64 fk) 2 rfl
  have f3 := F0 (.int .i64 frk) 3 rfl
  have f4 := F0 (.int .i64 fle) 4 rfl
  have f5 := F0 (.int .i64 fri) 5 rfl
  have c0 := hxc 0 (.int .i64 m) rfl
  have c1 := hxc 1 (.int .i64 n) rfl
  have c2 := hxc 2 (str s) rfl
  have c3 := hxc 3 (.slice ao 2 cap) rfl
  have i0 : (0 : Int) ≤ (m : Int) := by omega
  have i1 : (m : Int) < 26 := by omega
  clear F0 hxc hk1 hf hx1 HE1
  obtain ⟨w2, hw2, hk2, hz2, hx2, hy2, hxc, hyc⟩ := boxed2 w #[.int .i64 m, .int .i64 n, str s, .slice ao 2 cap] #[.int .i64 3, str ftx, .int .i64 fk, .int .i64 frk, .int .i64 fle, .int .i64 fri] 54 111
  have d0 := hyc 0 (.int .i64 3) rfl
  have d1 := hyc 1 (str ftx) rfl
  have d2 := hyc 2 (.int .i64 fk) rfl
  have d3 := hyc 3 (.int .i64 frk) rfl
  have d4 := hyc 4 (.int .i64 fle) rfl
  have d5 := hyc 5 (.int .i64 fri) rfl
  have e0 := hxc 0 (.int .i64 m) rfl
  have e1 := hxc 1 (.int .i64 n) rfl
  have e2 := hxc 2 (str s) rfl
  have e3 := hxc 3 (.slice ao 2 cap) rfl
  have HK2 := hide hk2
  have HI2 := hide (ib_keepF hI hk2)
  have HE2 := hide (hE.keepF hk2)
  obtain ⟨ao', cap', hb, off, hv, hcap, ha, hx⟩ := hS.open
  obtain ⟨rfl, _⟩ := ha (by simp [EL.len])
  injection hv with q1 q2 q3
  subst q1 q3
  have hcap2 : 2 ≤ cap := hcap
  have HX2 := hide (hx.keepF hk2)
  obtain ⟨qo, qc, b1, a3, a4, a5, a6, HS0⟩ := kid0 (hx.keepF hk2)
  have HD : Hid (Keeps (fun _ => False) w2 w2.drew) := (Keeps.refl _ w2).drew
  have HW0 := hide (hW.1 B b t fle hb (.slice qo k0.len qc) w2.drew (Or.inl hr.1) ((unhide HE2).keepF (unhide HD)) ((unhide HS0).keepF (unhide HD)) (ib_keepF (unhide HI2) (unhide HD)) (by omega))
  have HW1 := hide hW.2.2.1
  have hTl := hW.2.1
  have hnb : ¬ KB w2.drew B b hb := by obtain ⟨_, hc, _⟩ := unhide HX2; exact bel_not (ib_keepF (unhide HI2) (unhide HD)) hc
  have hnx : ¬ KB w2.drew B b w.heap.size := kb_not (ib_keepF (unhide HI2) (unhide HD)) (w := w2.drew) hx2 (by decide) (by decide)
  have hny : ¬ KB w2.drew B b (w.heap.size + 1) := kb_not (ib_keepF (unhide HI2) (unhide HD)) (w := w2.drew) hy2 (by decide) (by decide)
  have lx : w.heap.size < w2.drew.heap.size := by show _ < w2.heap.size; omega
  have ly : w.heap.size + 1 < w2.drew.heap.size := by show _ < w2.heap.size; omega
  have HBX := hide hx2
  have HBY := hide hy2
  have hA0 := at_le (o0, n0, textE o0 n0 s0 k0) fle
  simp only at hA0
  generalize atT (o0, n0, textE o0 n0 s0 k0) fle = T0 at *
  clear hE hI hk2 hx2 hy2 hxc hyc hx ha hS hW hcap q2
  go_enter Tryz.func45, Tryz.ntmps45
  go_wp2_with fail
  clear hw2
  go_region_held3 (fun w' => w'.cell? ⟨w.heap.size, 3, none⟩ = some (.slice (some ⟨hb, off, none⟩) 2 cap) ∧ w'.cell? ⟨hb, off, none⟩ = some (.int .i64 o0) ∧ w'.cell? ⟨hb, off + 1, none⟩ = some (.int .i64 n0) ∧ w'.cell? ⟨hb, off + 2, none⟩ = some (str s0) ∧ w'.cell? ⟨hb, off + 3, none⟩ = some (.slice qo k0.len qc) ∧ w'.cell? ⟨w.heap.size + 1, 4, none⟩ = some (.int .i64 fle)) (first | exact ⟨s3, s4, s5, s6, s7, s8⟩ | exact ⟨e3, a3, a4, a5, a6, d4⟩) ((go_at_call 45; refine (unhide HW0).mono ?_; rintro e w3 ⟨rfl, hi3, hk3⟩; have s3 := (hk3.cell lx hnx).trans e3; have s4 := (hk3.cell b1 hnb).trans a3; have s5 := (hk3.cell b1 hnb).trans a4; have s6 := (hk3.cell b1 hnb).trans a5; have s7 := (hk3.cell b1 hnb).trans a6; have s8 := (hk3.cell ly hny).trans d4; have HI3 := hide hi3; have HKK := hide hk3; clear hi3 hk3))
  have hk3 : Keeps (KB w2 B b) w2 w3 := kb_trans (unhide HD).any (unhide HKK)
  have HK3 := hide (kb_trans (unhide HK2).any hk3)
  have HE3 := hide ((unhide HE2).kb hk3)
  have HX3 := hide ((unhide HX2).kb (unhide HI2) hk3)
  have g1 := box_kb (unhide HI2) hk3 (unhide HBY) (by decide) (by decide) d1
  have g5 := box_kb (unhide HI2) hk3 (unhide HBY) (by decide) (by decide) d5
  have g3 := box_kb (unhide HI2) hk3 (unhide HBX) (by decide) (by decide) e3
  have HBX3 : Hid (w3.heap[w.heap.size]? = _) := (hk3.block _ (lt_of_block (unhide HBX)) (kb_not (unhide HI2) (unhide HBX) (by decide) (by decide))).trans (unhide HBX)
  have HBY3 : Hid (w3.heap[w.heap.size + 1]? = _) := (hk3.block _ (lt_of_block (unhide HBY)) (kb_not (unhide HI2) (unhide HBY) (by decide) (by decide))).trans (unhide HBY)
  clear hk3 s3 s4 s5 s6 s7 s8 hnb hnx hny lx ly HI2 HE2 HX2 HBX HBY a3 a4 a5 a6 d0 d1 d2 d3 d4 d5 e0 e1 e2 e3 f0 f1 f2 f3 f4 f5 c0 c1 c2 c3 HW0
  have HC := hide (ws_step (s := [32] ++ ftx ++ [32]) (unhide HK3) (unhide HI3) (by simp; omega) (unhide HE3).size)
  go_wp2_with fail
  simp only [cat2]
  refine (unhide HC).mono ?_
  rintro e w4 ⟨rfl, hi4, hk34, hk4⟩
  have HD4 : Hid (Keeps (fun _ => False) w4 w4.drew) := (Keeps.refl _ w4).drew
  have HI4 := hide hi4
  have HK4 := hide hk4
  have HE4 := hide ((unhide HE3).kb hk34)
  have hx4 := (unhide HX3).kb (unhide HI3) hk34
  have m5 := box_kb (unhide HI3) hk34 (unhide HBY3) (by decide) (by decide) g5
  have m3 := box_kb (unhide HI3) hk34 (unhide HBX3) (by decide) (by decide) g3
  have hx5 := (hk34.block _ (lt_of_block (unhide HBX3)) (kb_not (unhide HI3) (unhide HBX3) (by decide) (by decide))).trans (unhide HBX3)
  have hy5 := (hk34.block _ (lt_of_block (unhide HBY3)) (kb_not (unhide HI3) (unhide HBY3) (by decide) (by decide))).trans (unhide HBY3)
  obtain ⟨_, hcb, _, _, _, _, hx6⟩ := hx4
  obtain ⟨po, pc, b4, a3, a4, a5, a6, HS1⟩ := kid0 hx6
  have hnb : ¬ KB w4.drew B b hb := bel_not (ib_keepF hi4 (unhide HD4)) hcb
  have hnx : ¬ KB w4.drew B b w.heap.size := kb_not (ib_keepF hi4 (unhide HD4)) (w := w4.drew) hx5 (by decide) (by decide)
  have hny : ¬ KB w4.drew B b (w.heap.size + 1) := kb_not (ib_keepF hi4 (unhide HD4)) (w := w4.drew) hy5 (by decide) (by decide)
  have lx : w.heap.size < w4.drew.heap.size := lt_of_block hx5
  have ly : w.heap.size + 1 < w4.drew.heap.size := lt_of_block hy5
  have HWK := hide ((unhide HW1) B b (t ++ T0 ++ ([32] ++ ftx ++ [32])) fri hb (.slice po k1.len pc) w4.drew (Or.inl hr.2) ((unhide HE4).keepF (unhide HD4)) ((unhide HS1).keepF (unhide HD4)) (ib_keepF hi4 (unhide HD4)) (by simp; omega))
  clear hi4 hk34 hk4 hx5 hy5 hx6 hcb HC HI3 HK3 HE3 HX3 HBX3 HBY3 g1 g3 g5 HE4 HW1 HS1
  go_wp2_with fail
  go_region_held3 (fun w' => w'.cell? ⟨w.heap.size, 3, none⟩ = some (.slice (some ⟨hb, off, none⟩) 2 cap) ∧ w'.cell? ⟨hb, off + 4, none⟩ = some (.int .i64 o1) ∧ w'.cell? ⟨hb, off + 4 + 1, none⟩ = some (.int .i64 n1) ∧ w'.cell? ⟨hb, off + 4 + 2, none⟩ = some (str s1) ∧ w'.cell? ⟨hb, off + 4 + 3, none⟩ = some (.slice po k1.len pc) ∧ w'.cell? ⟨w.heap.size + 1, 5, none⟩ = some (.int .i64 fri)) (first | exact ⟨s3, s4, s5, s6, s7, s8⟩ | exact ⟨m3, a3, a4, a5, a6, m5⟩) ((go_at_call 45; refine (unhide HWK).mono ?_; rintro e w5 ⟨rfl, hi5, hk5⟩; have s3 := (hk5.cell lx hnx).trans m3; have s4 := (hk5.cell b4 hnb).trans a3; have s5 := (hk5.cell b4 hnb).trans a4; have s6 := (hk5.cell b4 hnb).trans a5; have s7 := (hk5.cell b4 hnb).trans a6; have s8 := (hk5.cell ly hny).trans m5; have HI5 := hide hi5; have HK5 := hide hk5; clear hi5 hk5))
  have hk5 := kb_trans (unhide HK4) (kb_trans (unhide HD4).any (unhide HK5))
  have HKE := hide hk5
  clear hk5 s3 s4 s5 s6 s7 s8
  go_wp2_with fail
  go_end0
  refine ⟨rfl, ?_, unhide HKE⟩
  have h := unhide HI5
  simpa [List.append_assoc] using h
end Go.Proofs.YtgdabnkjipcbhaaGreatDoor
