import Derived.Test.YtoempeobaknkcaaGreatDoorJyaw
namespace Go.Proofs.YtoempeobaknkcaaGreatDoor
open Go.RowKit Go.Maps

set_option maxRecDepth 100000 in
set_option maxHeartbeats 8000000 in
theorem exprRules_v (j : Nat) (w : World) :
    Calls Tryz.prog 53 #[.pointer (some ⟨j, 0, none⟩)] w fun e w' => ∃ tab, e = .returned (.slice (some ⟨tab, 0, none⟩) 26 26) ∧ w.heap.size ≤ tab ∧ tab < w'.heap.size ∧ RulesAt w' j tab ∧ Keeps (fun _ => False) w w' := by
  have HB : Hid (Bun w j [] w) := ⟨Keeps.refl _ w, fun p hp => by simp at hp⟩
  have hmf : ∀ (fn : Fn) (first cap : Array Value) (w : World), (Instr.makeFunc fn first cap).run Tryz.prog w = .ok (.func fn first cap) w := fun _ _ _ _ => rfl
  go_enter Tryz.func53, Tryz.ntmps53
  go_wp2_with (first
    | (go_at_call_of 71 (Value.slice none 0 0); refine (takes0 (unhide HB) _).mono ?_; rintro e w1 ⟨tb, ib, rfl, hb⟩; have HB := hide hb; clear hb)
    | (go_at_call_of 71 (1 : Nat); refine (takes1 (unhide HB) _ _).mono ?_; rintro e w1 ⟨tb, ib, rfl, hb⟩; have HB := hide hb; clear hb)
    | (go_at_call_of 71 (2 : Nat); refine (takes2 (unhide HB) _ _ _).mono ?_; rintro e w1 ⟨tb, ib, rfl, hb⟩; have HB := hide hb; clear hb)
    | (go_at_call_of 74 (2 : Nat); refine (compares2 (unhide HB) _ _).mono ?_; rintro e w1 ⟨tb, rfl, hb⟩; have HB := hide hb; clear hb)
    | (go_at_call_of 74 (3 : Nat); refine (compares3 (unhide HB) _ _ _).mono ?_; rintro e w1 ⟨tb, rfl, hb⟩; have HB := hide hb; clear hb))
  go_ret
  refine ⟨_, rfl, (unhide HB).kept.size, by simp, ?_, (unhide HB).kept.alloc _⟩
  refine rules_cells ?_ 106
  have hall := (unhide HB).all
  intro m r hr
  have hm : m < 26 := by
    rcases Nat.lt_or_ge m 26 with h | h
    · exact h
    · have : ruleL[m]? = none := List.getElem?_eq_none (by show 26 ≤ m; omega)
      rw [this] at hr
      cases hr
  rcases (show m = 0 ∨ m = 1 ∨ m = 2 ∨ m = 3 ∨ m = 4 ∨ m = 5 ∨ m = 6 ∨ m = 7 ∨ m = 8 ∨ m = 9 ∨ m = 10 ∨ m = 11 ∨ m = 12 ∨ m = 13 ∨ m = 14 ∨ m = 15 ∨ m = 16 ∨ m = 17 ∨ m = 18 ∨ m = 19 ∨ m = 20 ∨ m = 21 ∨ m = 22 ∨ m = 23 ∨ m = 24 ∨ m = 25 by omega) with rfl | rfl | rfl | rfl | rfl | rfl | rfl | rfl | rfl | rfl | rfl | rfl | rfl | rfl | rfl | rfl | rfl | rfl | rfl | rfl | rfl | rfl | rfl | rfl | rfl | rfl
  · cases hr
  all_goals
    obtain rfl := Option.some.inj hr
    refine ⟨_, rfl, ?_⟩
    first
      | rfl
      | exact hall (_, _) (by simp)
end Go.Proofs.YtoempeobaknkcaaGreatDoor
