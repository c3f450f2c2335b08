import Derived.Test.YtgdabnkjipcbhaaGreatDoorEf
namespace Go.Proofs.YtgdabnkjipcbhaaGreatDoor
open Go.RowKit Go.Maps

/-- Is a query of these lengths well made? -/
def wellQ (k : Int) (nw no nb : Nat) (d : Bool) (l : Int) : Bool :=
  decide (1 ≤ k) && decide (k ≤ 7) && decide (nw ≤ 1) && decide (nb ≤ 1) && decide (no = (if k = 1 ∨ k = 2 then 0 else 1)) && (if k = 1 then !d || decide (nb = 1) else decide (nb = 0) && !d && decide (l = 0))
/-- A query as a value. -/
abbrev qV (a : Value) (k : Int) (b c : Value) (d : Bool) (l : Int) : Value := .agg #[a, .int .i64 k, b, c, .bool d, .int .i64 l]
theorem box6 (w : World) (a b c : Value) (k l : Int) (d : Bool) : ∃ w1, w1 = w.alloc (.cells #[a, .int .i64 k, b, c, .bool d, .int .i64 l] 24) ∧ Keeps (fun _ => False) w w1 ∧ w.heap.size < w1.heap.size ∧ w1.cell? ⟨w.heap.size, 0, none⟩ = some a ∧ w1.cell? ⟨w.heap.size, 1, none⟩ = some (.int .i64 k) ∧ w1.cell? ⟨w.heap.size, 2, none⟩ = some b ∧ w1.cell? ⟨w.heap.size, 3, none⟩ = some c ∧ w1.cell? ⟨w.heap.size, 4, none⟩ = some (.bool d) ∧ w1.cell? ⟨w.heap.size, 5, none⟩ = some (.int .i64 l) := by
  obtain ⟨h1, h2, h3⟩ := boxedT w #[a, .int .i64 k, b, c, .bool d, .int .i64 l] 24
  exact ⟨_, rfl, unhide h1, h2, h3 0 _ rfl, h3 1 _ rfl, h3 2 _ rfl, h3 3 _ rfl, h3 4 _ rfl, h3 5 _ rfl⟩

set_option maxRecDepth 100000 in
set_option maxHeartbeats 4000000 in
theorem well_v (wa oa ba : Option Addr) (nw no nb wc oc bc : Nat) (k l : Int) (d : Bool) (w : World) :
    Calls Tryz.prog 17 #[qV (.slice wa nw wc) k (.slice oa no oc) (.slice ba nb bc) d l] w fun e w' => e = .returned (.bool (wellQ k nw no nb d l)) ∧ Keeps (fun _ => False) w w' := by
  obtain ⟨w1, hw, hk, hs, c0, c1, c2, c3, c4, c5⟩ := box6 w (.slice wa nw wc) (.slice oa no oc) (.slice ba nb bc) k l d
  clear hk hs
  go_enter Tryz.func17, Tryz.ntmps17
  subst hw
  go_wp2_with fail
  all_goals
    go_ret
    refine ⟨ret_bool ?_, (Keeps.refl _ w).alloc _⟩
    clear c0 c1 c2 c3 c4 c5
    try simp only [beq_iff_eq, beq_eq_false_iff_ne, ne_eq] at *
    rw [Bool.eq_iff_iff]
    cases d <;> by_cases hk1 : k = 1 <;> by_cases hk2 : k = 2 <;> simp [wellQ, hk1, hk2] <;> first | omega | contradiction
end Go.Proofs.YtgdabnkjipcbhaaGreatDoor
