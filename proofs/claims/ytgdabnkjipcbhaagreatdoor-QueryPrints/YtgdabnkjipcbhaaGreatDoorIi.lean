import Derived.Test.YtgdabnkjipcbhaaGreatDoorIh
namespace Go.Proofs.YtgdabnkjipcbhaaGreatDoor
open Go.RowKit Go.Maps

set_option maxRecDepth 100000 in
set_option maxHeartbeats 600000 in
theorem printExpr_v (op n : Int) (s : Txt) (kids : EL) (hsz : kids.size + 1 ≤ 2147483647) (h0 : -9223372036854775808 ≤ n) (h1 : n ≤ 9223372036854775807) (hi : intE kids) (w : World) (up : Nat) (v : Value) (hP : Pow w) (hF : Forms w) {Z : Zone} (hS : SlE Z w up v kids) :
    Calls Tryz.prog 28 #[exV op n s v] w fun e w' => e = .returned (.tuple #[str (printE op n s kids), .int .i64 (checkE (.cons op n s kids .nil))]) ∧ Keeps (fun _ => False) w w' := by
  obtain ⟨ao, cap, rfl, hc⟩ := hS.head
  obtain ⟨HB, hxb, hxc⟩ := boxedT w #[.int .i64 op, .int .i64 n, str s, .slice ao kids.len cap] 54
  have c0 := hxc 0 (.int .i64 op) rfl
  have c1 := hxc 1 (.int .i64 n) rfl
  have c2 := hxc 2 (str s) rfl
  have c3 := hxc 3 (.slice ao kids.len cap) rfl
  have HC := hide (checkExpr_v Z op n s kids hsz _ up _ (hF.keepF (unhide HB)) (hS.keepF (unhide HB)))
  unfold printE
  by_cases hc0 : checkE (.cons op n s kids .nil) = 0
  · rw [if_pos hc0]
    have hw := check_wellE _ hc0
    simp only [wellE, Bool.and_eq_true] at hw
    have HL := hide (wrE_v (kids.size + 1) kids (by omega) (by omega) op n s hw.1 hw.2.1 h0 h1 hi)
    have HS := hide hS
    have HP := hide hP
    have HF := hide hF
    rw [hc0] at HC ⊢
    unfold WrE at HL
    clear hS hP hF hi hc0 hw h0 h1 hxc
    go_enter Tryz.func28, Tryz.ntmps28
    go_wp2_with fail
    refine (unhide HC).mono ?_
    rintro e w1 ⟨rfl, hk1⟩
    have g0 := (hk1.cell (o := 0) hxb id).trans c0
    have g1 := (hk1.cell (o := 1) hxb id).trans c1
    have g2 := (hk1.cell (o := 2) hxb id).trans c2
    have g3 := (hk1.cell (o := 3) hxb id).trans c3
    have hk0 := (unhide HB).trans hk1
    obtain ⟨hi2, he2⟩ := fresh_env ((unhide HF).keepF hk0) ((unhide HP).keepF hk0)
    have hk2 : Keeps (fun _ => False) w1 (w1.alloc (.cells #[.pointer none, .slice none 0 0] 64)) := (Keeps.refl _ w1).alloc _
    have hl1 : w.heap.size < w1.heap.size := Nat.lt_of_lt_of_le hxb hk1.size
    have m0 := (hk2.cell (o := 0) hl1 id).trans g0
    have m1 := (hk2.cell (o := 1) hl1 id).trans g1
    have m2 := (hk2.cell (o := 2) hl1 id).trans g2
    have m3 := (hk2.cell (o := 3) hl1 id).trans g3
    have HW := hide ((unhide HL) w1.heap.size w1.heap.size [] 1 up (.slice ao kids.len cap) _ (Or.inl ⟨by omega, by omega⟩) he2 (((unhide HS).keepF hk0).bel (up' := up) (Nat.le_refl _) |>.inKeep hk2 (fun _ _ _ => id)) hi2 (by simp; omega))
    rw [at_one] at HW
    have HE2 := hide he2
    have HK1 := hide hk0
    clear hi2 he2 hk1 hk2 hk0 c0 c1 c2 c3
    go_wp2_with fail
    refine (unhide HW).mono ?_
    rintro e w3 ⟨rfl, hi3, hk3⟩
    have hb := below_kb hk3 (Nat.le_refl _) (unhide HE2).size
    have HST := hide (string_v _ _ _ _ hi3 ((unhide HE2).kb hk3).size)
    have HBB := hide ((((Below.refl w1.heap.size w1).alloc (Nat.le_refl _) _).trans hb))
    clear hi3 hk3 hb
    go_wp2_with fail
    refine (unhide HST).mono ?_
    rintro e w4 ⟨rfl, hb4⟩
    have HK4 := hide ((unhide HK1).trans (Keeps.ofBelow ((unhide HBB).trans hb4)))
    clear hb4
    go_wp2_with fail
    go_ret2
    exact ⟨rfl, unhide HK4⟩
  · rw [if_neg hc0]
    have d0 : (checkE (.cons op n s kids .nil) != 0) = true := by simpa using hc0
    generalize checkE (.cons op n s kids .nil) = C at HC d0 ⊢
    clear hS hP hF hi hc0
    go_enter Tryz.func28, Tryz.ntmps28
    go_wp2_with fail
    refine (unhide HC).mono ?_
    rintro e w1 ⟨rfl, hk1⟩
    go_wp2_with fail
    go_ret2
    exact ⟨rfl, (unhide HB).trans hk1⟩
end Go.Proofs.YtgdabnkjipcbhaaGreatDoor
