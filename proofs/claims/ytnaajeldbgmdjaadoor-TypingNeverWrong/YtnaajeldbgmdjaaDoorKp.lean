import Derived.Test.YtnaajeldbgmdjaaDoorKn
namespace Go.Proofs.YtnaajeldbgmdjaaDoor
open Go.RowKit Go.Maps

set_option maxRecDepth 100000 in
set_option maxHeartbeats 4000000 in
theorem stmtRules_v (j : Nat) (w : World) :
    Calls Tryd.prog 77 #[.pointer (some ⟨j, 0, none⟩)] w fun e w' => e = .returned (.slice (some ⟨w.heap.size, 0, none⟩) 9 9) ∧ w' = w.alloc (.cells #[.nilFunc, .func (.func 95) #[.pointer (some ⟨j, 0, none⟩)] #[], .func (.func 96) #[.pointer (some ⟨j, 0, none⟩)] #[], .func (.func 96) #[.pointer (some ⟨j, 0, none⟩)] #[], .func (.func 96) #[.pointer (some ⟨j, 0, none⟩)] #[], .func (.func 97) #[.pointer (some ⟨j, 0, none⟩)] #[], .func (.func 98) #[] #[], .func (.func 98) #[] #[], .func (.func 99) #[.pointer (some ⟨j, 0, none⟩)] #[]] 125) := by
  have hmf : ∀ (fn : Fn) (first cap : Array Value) (w : World), (Instr.makeFunc fn first cap).run Tryd.prog w = .ok (.func fn first cap) w := fun _ _ _ _ => rfl
  go_enter Tryd.func77, Tryd.ntmps77
  go_wp2_with fail
  go_ret
  exact ⟨rfl, rfl⟩
end Go.Proofs.YtnaajeldbgmdjaaDoor
