import Derived.Test.YtiinohibmcefkaaGreatDoorJar
namespace Go.Proofs.YtiinohibmcefkaaGreatDoor
open Go.RowKit Go.Maps

set_option maxRecDepth 100000 in
set_option maxHeartbeats 1000000 in
theorem pick_v (S : List FieldA) (F : Nat → Prop) (w : World) :
    OpF S F w (.func (.func 139) #[] #[]) 3 (fun ks => if (kV ks 0).n = 1 then kV ks 1 else kV ks 2) := by
  refine ⟨139, _, rfl, enters_of Tryz.func139 (by kernel_rfl) rfl, fun W G kv fs hk hGF hG hl hw => ?_⟩
  obtain ⟨f, f2, f3, rfl⟩ := list3x hl
  obtain ⟨b, rfl, hb, hc⟩ := hw
  obtain ⟨fv, c0, hf0⟩ := hc 0 f rfl
  obtain ⟨gv, c1, hf1⟩ := hc 1 f2 rfl
  obtain ⟨hv, c2, hf2⟩ := hc 2 f3 rfl
  obtain ⟨K0, Z0, B0_0, B0_1, B0_2⟩ := boxes3 W fv gv hv 88
  have HW0 := hide (pick1_v S G _ fv gv hv f f2 f3 W.heap.size (W.heap.size + 1) (W.heap.size + 1 + 1) (hf0.keepF K0) (hf1.keepF K0) (hf2.keepF K0) B0_0 B0_1 B0_2 (by rw [Z0]; omega) (by rw [Z0]; omega) (by rw [Z0]; omega) (fun h => by have := hG _ h; omega) (fun h => by have := hG _ h; omega) (fun h => by have := hG _ h; omega))
  have HK0 := hide K0
  clear K0 Z0 B0_0 B0_1 B0_2
  obtain ⟨K1, Z1, B1_0, B1_1, B1_2⟩ := boxes3 W fv hv gv 88
  have HW1 := hide (pick1_v S G _ fv gv hv f f2 f3 W.heap.size (W.heap.size + 1 + 1) (W.heap.size + 1) (hf0.keepF K1) (hf1.keepF K1) (hf2.keepF K1) B1_0 B1_2 B1_1 (by rw [Z1]; omega) (by rw [Z1]; omega) (by rw [Z1]; omega) (fun h => by have := hG _ h; omega) (fun h => by have := hG _ h; omega) (fun h => by have := hG _ h; omega))
  have HK1 := hide K1
  clear K1 Z1 B1_0 B1_1 B1_2
  obtain ⟨K2, Z2, B2_0, B2_1, B2_2⟩ := boxes3 W gv fv hv 88
  have HW2 := hide (pick1_v S G _ fv gv hv f f2 f3 (W.heap.size + 1) W.heap.size (W.heap.size + 1 + 1) (hf0.keepF K2) (hf1.keepF K2) (hf2.keepF K2) B2_1 B2_0 B2_2 (by rw [Z2]; omega) (by rw [Z2]; omega) (by rw [Z2]; omega) (fun h => by have := hG _ h; omega) (fun h => by have := hG _ h; omega) (fun h => by have := hG _ h; omega))
  have HK2 := hide K2
  clear K2 Z2 B2_0 B2_1 B2_2
  obtain ⟨K3, Z3, B3_0, B3_1, B3_2⟩ := boxes3 W gv hv fv 88
  have HW3 := hide (pick1_v S G _ fv gv hv f f2 f3 (W.heap.size + 1 + 1) W.heap.size (W.heap.size + 1) (hf0.keepF K3) (hf1.keepF K3) (hf2.keepF K3) B3_2 B3_0 B3_1 (by rw [Z3]; omega) (by rw [Z3]; omega) (by rw [Z3]; omega) (fun h => by have := hG _ h; omega) (fun h => by have := hG _ h; omega) (fun h => by have := hG _ h; omega))
  have HK3 := hide K3
  clear K3 Z3 B3_0 B3_1 B3_2
  obtain ⟨K4, Z4, B4_0, B4_1, B4_2⟩ := boxes3 W hv fv gv 88
  have HW4 := hide (pick1_v S G _ fv gv hv f f2 f3 (W.heap.size + 1) (W.heap.size + 1 + 1) W.heap.size (hf0.keepF K4) (hf1.keepF K4) (hf2.keepF K4) B4_1 B4_2 B4_0 (by rw [Z4]; omega) (by rw [Z4]; omega) (by rw [Z4]; omega) (fun h => by have := hG _ h; omega) (fun h => by have := hG _ h; omega) (fun h => by have := hG _ h; omega))
  have HK4 := hide K4
  clear K4 Z4 B4_0 B4_1 B4_2
  obtain ⟨K5, Z5, B5_0, B5_1, B5_2⟩ := boxes3 W hv gv fv 88
  have HW5 := hide (pick1_v S G _ fv gv hv f f2 f3 (W.heap.size + 1 + 1) (W.heap.size + 1) W.heap.size (hf0.keepF K5) (hf1.keepF K5) (hf2.keepF K5) B5_2 B5_1 B5_0 (by rw [Z5]; omega) (by rw [Z5]; omega) (by rw [Z5]; omega) (fun h => by have := hG _ h; omega) (fun h => by have := hG _ h; omega) (fun h => by have := hG _ h; omega))
  have HK5 := hide K5
  clear K5 Z5 B5_0 B5_1 B5_2
  clear hc hGF hk
  obtain ⟨k0, cap0, rfl, _⟩ := hf0
  obtain ⟨k1, cap1, rfl, _⟩ := hf1
  obtain ⟨k2, cap2, rfl, _⟩ := hf2
  simp only [List.length_cons, List.length_nil]
  show Calls _ _ _ _ (fun e W' => ∃ fv, e = .returned fv ∧ Wth S G W' fv (fun h vals => if (f h vals).n = 1 then f2 h vals else f3 h vals) ∧ _)
  go_enter Tryz.func139, Tryz.ntmps139
  go_wp2_with fail
  have SB : ∀ w' : World, Keeps (fun q => W.heap.size ≤ q) W w' → w'.cell? ⟨b, 0, none⟩ = some (.func (.func k0) #[] cap0) ∧ w'.cell? ⟨b, 1, none⟩ = some (.func (.func k1) #[] cap1) ∧ w'.cell? ⟨b, 2, none⟩ = some (.func (.func k2) #[] cap2) := fun w' hq => ⟨(hq.cell hb (by omega)).trans c0, (hq.cell hb (by omega)).trans c1, (hq.cell hb (by omega)).trans c2⟩
  have HSB := hide SB
  have s0 := SB W (Keeps.refl _ _)
  clear SB c0 c1 c2
  go_region_held3 (fun w' => w'.cell? ⟨b, 0, none⟩ = some (.func (.func k0) #[] cap0) ∧ w'.cell? ⟨b, 1, none⟩ = some (.func (.func k1) #[] cap1) ∧ w'.cell? ⟨b, 2, none⟩ = some (.func (.func k2) #[] cap2))
    (first | with_reducible exact s0 | (refine unhide HSB _ ?_; repeat' first | exact Keeps.refl _ _ | refine Keeps.drew ?_ | refine Keeps.alloc ?_ _ | refine Keeps.setCell ?_ (fun _ => by first | omega | (simp <;> omega)) _)) (fail)
  all_goals go_wp2_with fail
  all_goals go_ret
  all_goals first | exact ⟨_, rfl, (unhide HW0).keepF (Keeps.refl _ _).drew, (unhide HK0).drew⟩ | exact ⟨_, rfl, (unhide HW1).keepF (Keeps.refl _ _).drew, (unhide HK1).drew⟩ | exact ⟨_, rfl, (unhide HW2).keepF (Keeps.refl _ _).drew, (unhide HK2).drew⟩ | exact ⟨_, rfl, (unhide HW3).keepF (Keeps.refl _ _).drew, (unhide HK3).drew⟩ | exact ⟨_, rfl, (unhide HW4).keepF (Keeps.refl _ _).drew, (unhide HK4).drew⟩ | exact ⟨_, rfl, (unhide HW5).keepF (Keeps.refl _ _).drew, (unhide HK5).drew⟩
end Go.Proofs.YtiinohibmcefkaaGreatDoor
