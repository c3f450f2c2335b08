import Derived.Test.YtlnkleicnkfkpaaDoorEn
namespace Go.Proofs.YtlnkleicnkfkpaaDoor
open Go.RowKit Go.Maps

set_option maxRecDepth 100000 in
set_option maxHeartbeats 800000 in
theorem kids_v (op : Int) (w : World) : Calls Tryd.prog 41 #[.int .i64 op] w fun e w' => e = .returned (.int .i64 (kidsB op)) ∧ w' = w := by
  go_enter Tryd.func41, Tryd.ntmps41
  go_wp2_with fail
  all_goals (go_ret; refine ⟨ret_int ?_, rfl⟩; unfold kidsB; (repeat' split) <;> first | rfl | (exfalso; simp_all; done) | (exfalso; simp_all; omega) | (exfalso; omega))

set_option maxRecDepth 100000 in
set_option maxHeartbeats 1600000 in
theorem leaf_v (op n : Int) (s : Txt) (kv : Value) (w : World) (hkv : ∃ ao k cap, kv = .slice ao k cap) :
    Calls Tryd.prog 42 #[exV op n s kv] w fun e w' => e = .returned (.bool (leafB op n s)) ∧ Keeps (fun _ => False) w w' := by
  obtain ⟨ao, k, cap, rfl⟩ := hkv
  obtain ⟨HX, hxb, hxc⟩ := boxedT w #[.int .i64 op, .int .i64 n, str s, .slice ao k cap] 25
  have c0 := hxc 0 (.int .i64 op) rfl
  have c1 := hxc 1 (.int .i64 n) rfl
  have c2 := hxc 2 (str s) rfl
  have HN := hide (isName_v s)
  clear hxc
  unfold leafB
  by_cases h1 : op = 1
  · subst h1
    rw [if_pos rfl]
    go_enter Tryd.func42, Tryd.ntmps42
    go_wp2_with fail
    all_goals (go_ret; refine ⟨ret_bool ?_, (Keeps.refl _ w).alloc _⟩; clear HX c0 c1 c2 HN hxb; cases s <;> simp)
  rw [if_neg h1]
  by_cases h2 : op = 2
  · subst h2
    rw [if_pos rfl]
    go_enter Tryd.func42, Tryd.ntmps42
    go_wp2_with fail
    all_goals (go_ret; refine ⟨ret_bool ?_, (Keeps.refl _ w).alloc _⟩; clear HX c0 c1 c2 HN hxb; first | (cases s <;> simp_all; done) | (cases s <;> simp_all <;> (apply Bool.eq_iff_iff.2; simp; omega)))
  rw [if_neg h2]
  by_cases h3 : op = 3
  · subst h3
    rw [if_pos rfl]
    go_enter Tryd.func42, Tryd.ntmps42
    go_wp2_with fail
    all_goals (go_ret; refine ⟨ret_bool ?_, (Keeps.refl _ w).alloc _⟩; clear HX c0 c1 c2 HN hxb; first | (simp_all; done) | (simp_all; omega))
  rw [if_neg h3]
  by_cases h4 : op = 4
  · subst h4
    rw [if_pos (by omega)]
    go_enter Tryd.func42, Tryd.ntmps42
    go_wp2_with (go_at_call 56; refine (unhide HN _).mono ?_; rintro e w1 ⟨rfl, rfl⟩)
    all_goals (go_ret; refine ⟨ret_bool ?_, (Keeps.refl _ w).alloc _⟩; clear HX c0 c1 c2 HN hxb; simp_all)
  by_cases h5 : op = 5
  · subst h5
    rw [if_pos (by omega)]
    go_enter Tryd.func42, Tryd.ntmps42
    go_wp2_with (go_at_call 56; refine (unhide HN _).mono ?_; rintro e w1 ⟨rfl, rfl⟩)
    all_goals (go_ret; refine ⟨ret_bool ?_, (Keeps.refl _ w).alloc _⟩; clear HX c0 c1 c2 HN hxb; simp_all)
  rw [if_neg (by omega)]
  have d1 : (op == 1) = false := by simpa using h1
  have d2 : (op == 2) = false := by simpa using h2
  have d3 : (op == 3) = false := by simpa using h3
  have d4 : (op == 4) = false := by simpa using h4
  have d5 : (op == 5) = false := by simpa using h5
  clear h1 h2 h3 h4 h5
  go_enter Tryd.func42, Tryd.ntmps42
  go_wp2_with (go_at_call 56; refine (unhide HN _).mono ?_; rintro e w1 ⟨rfl, rfl⟩)
  all_goals (go_ret; refine ⟨ret_bool ?_, (Keeps.refl _ w).alloc _⟩; clear HX c0 c1 c2 HN hxb; cases s <;> simp_all)
end Go.Proofs.YtlnkleicnkfkpaaDoor
