import Derived.Test.YtlnkleicnkfkpaaDoorGa
namespace Go.Proofs.YtlnkleicnkfkpaaDoor
open Go.RowKit Go.Maps

set_option maxRecDepth 100000 in
set_option maxHeartbeats 1600000 in
theorem rank_v (op n : Int) (s : Txt) (ao : Option Addr) (k cap : Nat) (w : World) :
    Calls Tryd.prog 64 #[exV op n s (.slice ao k cap)] w fun e w' => e = .returned (.int .i64 (rankB op n)) ∧ Keeps (fun _ => False) w w' := by
  obtain ⟨HX, hxb, hxc⟩ := boxedT w #[.int .i64 op, .int .i64 n, str s, .slice ao k cap] 25
  have c0 := hxc 0 (.int .i64 op) rfl
  have c1 := hxc 1 (.int .i64 n) rfl
  clear hxc
  go_enter Tryd.func64, Tryd.ntmps64
  go_wp2_with fail
  all_goals (go_ret; refine ⟨ret_int ?_, (Keeps.refl _ w).alloc _⟩; clear HX c0 c1 hxb; unfold rankB; (repeat' split) <;> first | rfl | (exfalso; simp_all; done) | (exfalso; simp_all; omega) | (exfalso; omega))
end Go.Proofs.YtlnkleicnkfkpaaDoor
