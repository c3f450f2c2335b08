import Derived.Test.YtafniangljmjeabDoorDc
namespace Go.Proofs.YtafniangljmjeabDoor
open Go.RowKit Go.Maps

set_option maxRecDepth 100000 in
theorem operand_v (o : Int) (w : World) : Calls Tryd.prog 29 #[.int .i64 o] w fun e w' => e = .returned (.int .i64 (opdB o)) ∧ w' = w := by
  go_enter Tryd.func29, Tryd.ntmps29
  go_wp2
  all_goals
    go_ret
    refine ⟨ret_int ?_, rfl⟩
    unfold opdB
    simp at *
    first | (simp_all; done) | (simp_all; omega) | (split <;> omega) | (repeat' split) <;> omega

set_option maxRecDepth 100000 in
set_option maxHeartbeats 2000000 in
theorem form_v (i : ValA) (w : World) : Calls Tryd.prog 48 #[i.v] w fun e w' => e = .returned (.int .i64 (formB i)) ∧ Keeps (fun _ => False) w w' := by
  obtain ⟨k, n, s⟩ := i
  unfold ValA.v
  obtain ⟨HX, hxb, hxc⟩ := boxed w #[.int .i64 k, .int .i64 n, str s] 54
  have f0 := hxc 0 (.int .i64 k) rfl
  have f1 := hxc 1 (.int .i64 n) rfl
  have f2 := hxc 2 (str s) rfl
  have HQ := hide (operand_v k (w.alloc (.cells #[.int .i64 k, .int .i64 n, str s] 54)))
  clear hxc hxb
  rcases opdB_cases k with e1 | e1 | e1 | e1 | e1 | e1
  all_goals
    rw [e1] at HQ
    have HE := hide e1
    clear e1
    go_enter Tryd.func48, Tryd.ntmps48
    go_wp2_with (go_at_call 29; refine (unhide HQ).mono ?_; rintro e w' ⟨rfl, rfl⟩)
    all_goals
      go_ret
      refine ⟨ret_int ?_, (Keeps.refl _ _).alloc _⟩
      have e2 := unhide HE
      clear HE HX f0 f1 f2 HQ
      unfold formB rightB
      simp only [e2]
      first | rfl | (simp_all; done) | (simp_all; omega) | (simp at *; omega)

theorem not64 (a : Int) (h0 : 0 ≤ a) (h1 : a < 18446744073709551616) : IntKind.u64.wrap (-a - 1) = 18446744073709551615 - a := by
  rw [IntKind.wrap_u64]
  omega

end Go.Proofs.YtafniangljmjeabDoor
