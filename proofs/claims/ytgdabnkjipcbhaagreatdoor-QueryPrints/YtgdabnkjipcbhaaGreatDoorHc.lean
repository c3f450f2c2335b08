import Derived.Test.YtgdabnkjipcbhaaGreatDoorPb
namespace Go.Proofs.YtgdabnkjipcbhaaGreatDoor
open Go.RowKit Go.Maps

theorem rlib : RLib Pow where
  keep := fun h k => h.keepF k
  fmt := fun n w h0 h1 h => formatInt_v n h0 h1 w h
  quote := fun t w h => quote_any t w h

set_option maxRecDepth 100000 in
set_option maxHeartbeats 1600000 in
theorem plainText_v (op n : Int) (s : Txt) (ao : Option Addr) (k cap : Nat) (w : World) (hE : Pow w) (h0 : -9223372036854775808 ≤ n) (h1 : n ≤ 9223372036854775807) (hs : s.length ≤ 1099511627776) :
    Calls Tryz.prog 69 #[exV op n s (.slice ao k cap)] w fun e w' => e = .returned (str (simpleT op n s)) ∧ Keeps (fun _ => False) w w' := by
  obtain ⟨HX, hxb, hxc⟩ := boxedT w #[.int .i64 op, .int .i64 n, str s, .slice ao k cap] 54
  have c0 := hxc 0 (.int .i64 op) rfl
  have c1 := hxc 1 (.int .i64 n) rfl
  have c2 := hxc 2 (str s) rfl
  have HF := hide (formatInt_v n h0 h1 _ (hE.keepF (unhide HX)))
  have HQ := fun w' => hide (quote_v s w' hs)
  clear hxc hE h0 h1
  unfold simpleT
  by_cases q1 : op = 1
  · subst q1
    rw [if_pos rfl]
    go_enter Tryz.func69, Tryz.ntmps69
    go_wp2_with (go_at_call 81; refine (unhide HF).mono ?_; rintro e w1 ⟨rfl, hk1⟩)
    go_ret
    exact ⟨rfl, (unhide HX).trans hk1⟩
  rw [if_neg q1]
  by_cases q2 : op = 2
  · subst q2
    rw [if_pos rfl]
    have HB := fun w' => hide (formatBool_v (n == 1) w')
    have eb : (if (n == 1) = true then ([116, 114, 117, 101] : Txt) else [102, 97, 108, 115, 101]) = if n = 1 then [116, 114, 117, 101] else [102, 97, 108, 115, 101] := by
      by_cases hn : n = 1
      · subst hn; rfl
      · rw [if_neg hn, if_neg (by simpa using hn)]
    rw [← eb]
    clear eb
    generalize hb : (n == 1) = b at *
    go_enter Tryz.func69, Tryz.ntmps69
    go_wp2_with (go_at_call 92; refine (unhide (HB _)).mono ?_; rintro e w1 ⟨rfl, hk1⟩)
    all_goals (go_ret; exact ⟨rfl, (unhide HX).trans hk1⟩)
  rw [if_neg q2]
  by_cases q3 : op = 3
  · subst q3
    rw [if_pos rfl]
    go_enter Tryz.func69, Tryz.ntmps69
    go_wp2_with (go_at_call 93; refine (unhide (HQ _)).mono ?_; rintro e w1 ⟨rfl, hk1⟩)
    go_ret
    exact ⟨rfl, (unhide HX).trans hk1⟩
  rw [if_neg q3]
  by_cases q5 : op = 5
  · subst q5
    rw [if_pos rfl]
    go_enter Tryz.func69, Tryz.ntmps69
    go_wp2_with fail
    go_ret
    exact ⟨congrArg Ending.returned (str_cat [104, 97, 115, 32] s _ rfl), unhide HX⟩
  rw [if_neg q5]
  by_cases q6 : op = 6
  · subst q6
    rw [if_pos rfl]
    go_enter Tryz.func69, Tryz.ntmps69
    go_wp2_with fail
    go_ret
    exact ⟨rfl, unhide HX⟩
  rw [if_neg q6]
  have d1 : (op == 1) = false := by simpa using q1
  have d2 : (op == 2) = false := by simpa using q2
  have d3 : (op == 3) = false := by simpa using q3
  have d5 : (op == 5) = false := by simpa using q5
  have d6 : (op == 6) = false := by simpa using q6
  clear q1 q2 q3 q5 q6
  go_enter Tryz.func69, Tryz.ntmps69
  go_wp2_with fail
  go_ret
  exact ⟨rfl, unhide HX⟩

end Go.Proofs.YtgdabnkjipcbhaaGreatDoor
