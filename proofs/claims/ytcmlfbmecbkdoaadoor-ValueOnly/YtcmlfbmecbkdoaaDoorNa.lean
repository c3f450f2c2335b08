import Derived.Test.YtcmlfbmecbkdoaaDoorC
namespace Go.Proofs.YtcmlfbmecbkdoaaDoor
open Go.RowKit Go.Maps

def digitB (c : Int) : Bool := decide (48 ≤ c) && decide (c ≤ 57)

set_option maxRecDepth 100000 in
theorem digit_any (c : Int) (w : World) : Calls Tryd.prog 61 #[.int .u8 c] w fun e w' => e = .returned (.bool (digitB c)) ∧ w' = w := by
  go_enter Tryd.func61, Tryd.ntmps61
  go_wp2
  all_goals (go_ret; refine ⟨ret_bool ?_, rfl⟩; apply Bool.eq_iff_iff.2; simp [digitB] at *; try omega)

set_option maxRecDepth 100000 in
theorem inRun_any (c : Int) (w : World) : Calls Tryd.prog 71 #[.int .u8 c] w fun e w' => e = .returned (.bool (partB c)) ∧ w' = w := by
  have HQ := hide (digit_any c w)
  go_enter Tryd.func71, Tryd.ntmps71
  go_wp2_with (go_at_call 61; refine (unhide HQ).mono ?_; rintro e w' ⟨rfl, rfl⟩)
  all_goals (go_ret; refine ⟨ret_bool ?_, rfl⟩; apply Bool.eq_iff_iff.2; simp [partB, digitB] at *; try omega)

set_option maxRecDepth 100000 in
set_option maxHeartbeats 1000000 in
theorem keyword_v (x : Txt) (w : World) : Calls Tryd.prog 63 #[str x] w fun e w' => e = .returned (.bool (decide (x ∈ kws))) ∧ w' = w := by
  go_enter Tryd.func63, Tryd.ntmps63
  go_wp2
  all_goals (go_ret; refine ⟨ret_bool ?_, rfl⟩; simp_all [kws])

end Go.Proofs.YtcmlfbmecbkdoaaDoor
