import Derived.Test.YtlnkleicnkfkpaaDoorIg
namespace Go.Proofs.YtlnkleicnkfkpaaDoor
open Go.RowKit Go.Maps

/-- A new Builder. -/
theorem fresh_env {w : World} (hF : Forms w) (hP : Pow w) : Lib.IsBuilder 60 5 w.heap.size w.heap.size (bs []) (w.alloc (.cells #[.pointer none, .slice none 0 0] 60)) ∧ Env w.heap.size w.heap.size (w.alloc (.cells #[.pointer none, .slice none 0 0] 60)) := by
  have hk : Keeps (fun _ => False) w (w.alloc (.cells #[.pointer none, .slice none 0 0] 60)) := (Keeps.refl _ w).alloc _
  refine ⟨Or.inl ⟨Nat.le_refl _, .slice none 0 0, heap_alloc_new w _, ⟨rfl, Or.inl ⟨rfl, rfl⟩⟩, by simp [Value.ownBlock]⟩, ⟨hF.lt, Nat.le_refl _, hk.size, hF.keepF hk, fun w2 h2 => ?_⟩⟩
  exact hP.keepF (Keeps.ofBelow (((Below.refl w.heap.size w).alloc (Nat.le_refl _) _).trans h2))

set_option maxRecDepth 100000 in
set_option maxHeartbeats 600000 in
theorem print_v (l : SL) (hsz : l.size ≤ 2147483647) (hi : intS l) (w : World) (up : Nat) (v : Value) (hP : Pow w) (hF : Forms w) (hS : SlS cpyZ w up v l) :
    Calls Tryd.prog 16 #[v] w fun e w' => e = .returned (.tuple #[str (printS l), .int .i64 (checkS l)]) ∧ Keeps (fun _ => False) w w' := by
  have HC := hide (check_v cpyZ l hsz w up v hF hS)
  obtain ⟨ao, cap, rfl, hc⟩ := hS.head
  unfold printS
  by_cases h0 : checkS l = 0
  · rw [if_pos h0]
    have hw := check_well l h0
    have HL := hide (wrL_v (l.size + 1) l (by omega) hsz hw hi)
    have HS := hide hS
    have HP := hide hP
    have HF := hide hF
    rw [h0] at HC ⊢
    unfold WrL at HL
    generalize tailS 0 (sts l) = T at HL ⊢
    clear hS hP hF hi h0 hw
    go_enter Tryd.func16, Tryd.ntmps16
    go_wp2_with fail
    refine (unhide HC).mono ?_
    rintro e w1 ⟨rfl, hk1⟩
    obtain ⟨hi2, he2⟩ := fresh_env ((unhide HF).keepF hk1) ((unhide HP).keepF hk1)
    have hk2 : Keeps (fun _ => False) w1 (w1.alloc (.cells #[.pointer none, .slice none 0 0] 60)) := (Keeps.refl _ w1).alloc _
    have HW := hide ((unhide HL) w1.heap.size w1.heap.size [] up (.slice ao l.len cap) _ he2 ((unhide HS).keepF (hk1.trans hk2)) hi2 (by simp; omega))
    have HE2 := hide he2
    have HK1 := hide hk1
    clear hi2 he2 hk1 hk2
    go_wp2_with fail
    refine (unhide HW).mono ?_
    rintro e w3 ⟨rfl, hi3, hk3⟩
    have hb := below_kb hk3 (Nat.le_refl _) (unhide HE2).size
    have HST := hide (string_v _ _ _ _ hi3 ((unhide HE2).kb hk3).size)
    have HB := hide ((((Below.refl w1.heap.size w1).alloc (Nat.le_refl _) _).trans hb))
    clear hi3 hk3 hb
    go_wp2_with fail
    refine (unhide HST).mono ?_
    rintro e w4 ⟨rfl, hb4⟩
    have HK4 := hide ((unhide HK1).trans (Keeps.ofBelow ((unhide HB).trans hb4)))
    clear hb4
    go_wp2_with fail
    go_ret2
    exact ⟨rfl, unhide HK4⟩
  · rw [if_neg h0]
    have d0 : (checkS l != 0) = true := by simpa using h0
    generalize checkS l = C at HC d0 ⊢
    clear hS hP hF hi h0
    go_enter Tryd.func16, Tryd.ntmps16
    go_wp2_with fail
    refine (unhide HC).mono ?_
    rintro e w1 ⟨rfl, hk1⟩
    go_wp2_with fail
    go_ret2
    exact ⟨rfl, hk1⟩
end Go.Proofs.YtlnkleicnkfkpaaDoor
