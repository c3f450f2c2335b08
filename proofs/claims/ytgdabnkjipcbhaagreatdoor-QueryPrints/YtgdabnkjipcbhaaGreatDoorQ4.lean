import Derived.Test.YtgdabnkjipcbhaaGreatDoorQ3
namespace Go.Proofs.YtgdabnkjipcbhaaGreatDoor
open Go.RowKit Go.Maps

abbrev vbV (k tok : Int) (s : Txt) (o f : Value) : Value := .agg #[.int .i64 k, .int .i64 tok, str s, o, f]
set_option maxRecDepth 100000 in
set_option maxHeartbeats 4000000 in
theorem fits_v (wa oa ba ao : Option Addr) (nw no nb wc oc bc n c : Nat) (k l tok : Int) (s : Txt) (f : Value) (d : Bool) (w : World) (h1 : 1 ≤ k) (h7 : k ≤ 7) (hn : n = 0 ↔ k ≤ 2) :
    Calls Tryz.prog 27 #[vbV k tok s (.slice ao n c) f, qV (.slice wa nw wc) k (.slice oa no oc) (.slice ba nb bc) d l] w fun e w' => e = .returned (.bool (wellQ k nw no nb d l)) ∧ Keeps (fun _ => False) w w' := by
  obtain ⟨H1, b1, e1⟩ := boxedT w #[.int .i64 k, .int .i64 tok, str s, .slice ao n c, f] 40
  obtain ⟨H2, b2, e2⟩ := boxedT (w.alloc (.cells #[.int .i64 k, .int .i64 tok, str s, .slice ao n c, f] 40)) #[.slice wa nw wc, .int .i64 k, .slice oa no oc, .slice ba nb bc, .bool d, .int .i64 l] 24
  have ez : (w.alloc (.cells #[.int .i64 k, .int .i64 tok, str s, .slice ao n c, f] 40)).heap.size = w.heap.size + 1 := by simp
  have v0 := ((unhide H2).cell (o := 0) b1 id).trans (e1 0 (.int .i64 k) rfl)
  have v3 := ((unhide H2).cell (o := 3) b1 id).trans (e1 3 (.slice ao n c) rfl)
  have q0 := e2 0 (.slice wa nw wc) rfl
  have q2 := e2 2 (.slice oa no oc) rfl
  have q3 := e2 3 (.slice ba nb bc) rfl
  have q4 := e2 4 (.bool d) rfl
  have q5 := e2 5 (.int .i64 l) rfl
  rw [ez] at q0 q2 q3 q4 q5
  clear e1 e2 b1 b2 H1 H2
  obtain ⟨N, hN, hN2⟩ : ∃ N : Int, (if (n : Int) < 1 then (n : Int) else 1) = N ∧ N = (if k ≤ 2 then 0 else 1) := ⟨_, rfl, by split <;> split <;> omega⟩
  have hN' : (if 1 < (n : Int) then (1 : Int) else (n : Int)) = N := by rw [← hN]; split <;> split <;> omega
  have HL := hide (And.intro h1 h7)
  have HN := hide hN2
  clear hn h1 h7 hN2
  go_enter Tryz.func27, Tryz.ntmps27
  go_wp2_with fail
  all_goals
    go_ret
    refine ⟨ret_bool ?_, ((Keeps.refl _ w).alloc _).alloc _⟩
    clear v0 v3 q0 q2 q3 q4 q5 ez
    have h17 := unhide HL
    have hn := unhide HN
    try simp only [hN', bne_iff_ne, bne_eq_false_iff_eq, ne_eq] at *
    rw [Bool.eq_iff_iff]
    cases d <;> by_cases hk1 : k = 1 <;> by_cases hk2 : k = 2 <;> simp [wellQ, hk1, hk2] <;> first | omega | contradiction | (split at hn <;> first | omega | contradiction)
end Go.Proofs.YtgdabnkjipcbhaaGreatDoor
