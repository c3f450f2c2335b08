import Derived.Test.YtjhppnecadnekaaDoorJd
namespace Go.Proofs.YtjhppnecadnekaaDoor
open Go.RowKit Go.Maps

set_option maxRecDepth 100000 in
set_option maxHeartbeats 1600000 in
theorem headFits_v (op : Int) (f : Txt) (xo to eo : Option Addr) (x t e xc tc ec : Nat) (w : World) :
    Calls Tryd.prog 80 #[stV op f (.slice xo x xc) (.slice to t tc) (.slice eo e ec)] w fun en w' => en = .returned (.bool (headS op f x t e)) ∧ Keeps (fun _ => False) w w' := by
  obtain ⟨HX, hxb, hxc⟩ := boxedT w #[.int .i64 op, str f, .slice xo x xc, .slice to t tc, .slice eo e ec] 64
  have c0 := hxc 0 (.int .i64 op) rfl
  have c1 := hxc 1 (str f) rfl
  have c2 := hxc 2 (.slice xo x xc) rfl
  have c3 := hxc 3 (.slice to t tc) rfl
  have c4 := hxc 4 (.slice eo e ec) rfl
  have HN := hide (name_v f)
  clear hxc
  unfold headS
  by_cases h1 : op = 1
  · subst h1
    rw [if_pos (by omega)]
    go_enter Tryd.func80, Tryd.ntmps80
    go_wp2_with (go_at_call 59; refine (unhide HN _).mono ?_; rintro e w1 ⟨rfl, rfl⟩)
    all_goals (go_ret; refine ⟨ret_bool ?_, (Keeps.refl _ w).alloc _⟩; clear HX c0 c1 c2 c3 c4 HN hxb; first | (cases f <;> simp_all; done) | (simp_all; done) | (simp_all; omega) | (simp_all; rw [Bool.eq_iff_iff]; simp; done) | (simp_all; rw [Bool.eq_iff_iff]; simp; omega) | (cases f <;> simp_all <;> first | omega | (rw [Bool.eq_iff_iff]; simp; done) | (rw [Bool.eq_iff_iff]; simp; omega)))
  by_cases h2 : op = 2
  · subst h2
    rw [if_pos (by omega)]
    go_enter Tryd.func80, Tryd.ntmps80
    go_wp2_with (go_at_call 59; refine (unhide HN _).mono ?_; rintro e w1 ⟨rfl, rfl⟩)
    all_goals (go_ret; refine ⟨ret_bool ?_, (Keeps.refl _ w).alloc _⟩; clear HX c0 c1 c2 c3 c4 HN hxb; first | (cases f <;> simp_all; done) | (simp_all; done) | (simp_all; omega) | (simp_all; rw [Bool.eq_iff_iff]; simp; done) | (simp_all; rw [Bool.eq_iff_iff]; simp; omega) | (cases f <;> simp_all <;> first | omega | (rw [Bool.eq_iff_iff]; simp; done) | (rw [Bool.eq_iff_iff]; simp; omega)))
  by_cases h3 : op = 3
  · subst h3
    rw [if_pos (by omega)]
    go_enter Tryd.func80, Tryd.ntmps80
    go_wp2_with (go_at_call 59; refine (unhide HN _).mono ?_; rintro e w1 ⟨rfl, rfl⟩)
    all_goals (go_ret; refine ⟨ret_bool ?_, (Keeps.refl _ w).alloc _⟩; clear HX c0 c1 c2 c3 c4 HN hxb; first | (cases f <;> simp_all; done) | (simp_all; done) | (simp_all; omega) | (simp_all; rw [Bool.eq_iff_iff]; simp; done) | (simp_all; rw [Bool.eq_iff_iff]; simp; omega) | (cases f <;> simp_all <;> first | omega | (rw [Bool.eq_iff_iff]; simp; done) | (rw [Bool.eq_iff_iff]; simp; omega)))
  by_cases h4 : op = 4
  · subst h4
    rw [if_pos (by omega)]
    go_enter Tryd.func80, Tryd.ntmps80
    go_wp2_with (go_at_call 59; refine (unhide HN _).mono ?_; rintro e w1 ⟨rfl, rfl⟩)
    all_goals (go_ret; refine ⟨ret_bool ?_, (Keeps.refl _ w).alloc _⟩; clear HX c0 c1 c2 c3 c4 HN hxb; first | (cases f <;> simp_all; done) | (simp_all; done) | (simp_all; omega) | (simp_all; rw [Bool.eq_iff_iff]; simp; done) | (simp_all; rw [Bool.eq_iff_iff]; simp; omega) | (cases f <;> simp_all <;> first | omega | (rw [Bool.eq_iff_iff]; simp; done) | (rw [Bool.eq_iff_iff]; simp; omega)))
  by_cases h5 : op = 5
  · subst h5
    rw [if_neg (by omega)]
    rw [if_pos (by omega)]
    go_enter Tryd.func80, Tryd.ntmps80
    go_wp2_with (go_at_call 59; refine (unhide HN _).mono ?_; rintro e w1 ⟨rfl, rfl⟩)
    all_goals (go_ret; refine ⟨ret_bool ?_, (Keeps.refl _ w).alloc _⟩; clear HX c0 c1 c2 c3 c4 HN hxb; first | (cases f <;> simp_all; done) | (simp_all; done) | (simp_all; omega) | (simp_all; rw [Bool.eq_iff_iff]; simp; done) | (simp_all; rw [Bool.eq_iff_iff]; simp; omega) | (cases f <;> simp_all <;> first | omega | (rw [Bool.eq_iff_iff]; simp; done) | (rw [Bool.eq_iff_iff]; simp; omega)))
  by_cases h6 : op = 6
  · subst h6
    rw [if_neg (by omega)]
    rw [if_neg (by omega)]
    rw [if_pos (by omega)]
    go_enter Tryd.func80, Tryd.ntmps80
    go_wp2_with (go_at_call 59; refine (unhide HN _).mono ?_; rintro e w1 ⟨rfl, rfl⟩)
    all_goals (go_ret; refine ⟨ret_bool ?_, (Keeps.refl _ w).alloc _⟩; clear HX c0 c1 c2 c3 c4 HN hxb; first | (cases f <;> simp_all; done) | (simp_all; done) | (simp_all; omega) | (simp_all; rw [Bool.eq_iff_iff]; simp; done) | (simp_all; rw [Bool.eq_iff_iff]; simp; omega) | (cases f <;> simp_all <;> first | omega | (rw [Bool.eq_iff_iff]; simp; done) | (rw [Bool.eq_iff_iff]; simp; omega)))
  by_cases h7 : op = 7
  · subst h7
    rw [if_neg (by omega)]
    rw [if_neg (by omega)]
    rw [if_pos (by omega)]
    go_enter Tryd.func80, Tryd.ntmps80
    go_wp2_with (go_at_call 59; refine (unhide HN _).mono ?_; rintro e w1 ⟨rfl, rfl⟩)
    all_goals (go_ret; refine ⟨ret_bool ?_, (Keeps.refl _ w).alloc _⟩; clear HX c0 c1 c2 c3 c4 HN hxb; first | (cases f <;> simp_all; done) | (simp_all; done) | (simp_all; omega) | (simp_all; rw [Bool.eq_iff_iff]; simp; done) | (simp_all; rw [Bool.eq_iff_iff]; simp; omega) | (cases f <;> simp_all <;> first | omega | (rw [Bool.eq_iff_iff]; simp; done) | (rw [Bool.eq_iff_iff]; simp; omega)))
  by_cases h8 : op = 8
  · subst h8
    rw [if_neg (by omega)]
    rw [if_neg (by omega)]
    rw [if_neg (by omega)]
    rw [if_pos (by omega)]
    go_enter Tryd.func80, Tryd.ntmps80
    go_wp2_with (go_at_call 59; refine (unhide HN _).mono ?_; rintro e w1 ⟨rfl, rfl⟩)
    all_goals (go_ret; refine ⟨ret_bool ?_, (Keeps.refl _ w).alloc _⟩; clear HX c0 c1 c2 c3 c4 HN hxb; first | (cases f <;> simp_all; done) | (simp_all; done) | (simp_all; omega) | (simp_all; rw [Bool.eq_iff_iff]; simp; done) | (simp_all; rw [Bool.eq_iff_iff]; simp; omega) | (cases f <;> simp_all <;> first | omega | (rw [Bool.eq_iff_iff]; simp; done) | (rw [Bool.eq_iff_iff]; simp; omega)))
  rw [if_neg (by omega), if_neg (by omega), if_neg (by omega), if_neg (by omega)]
  have d1 : (op == 1) = false := by simpa using h1
  have d2 : (op == 2) = false := by simpa using h2
  have d3 : (op == 3) = false := by simpa using h3
  have d4 : (op == 4) = false := by simpa using h4
  have d5 : (op == 5) = false := by simpa using h5
  have d6 : (op == 6) = false := by simpa using h6
  have d7 : (op == 7) = false := by simpa using h7
  have d8 : (op == 8) = false := by simpa using h8
  clear h1 h2 h3 h4 h5 h6 h7 h8
  go_enter Tryd.func80, Tryd.ntmps80
  go_wp2_with (go_at_call 59; refine (unhide HN _).mono ?_; rintro e w1 ⟨rfl, rfl⟩)
  all_goals (go_ret; exact ⟨rfl, (Keeps.refl _ w).alloc _⟩)
end Go.Proofs.YtjhppnecadnekaaDoor
