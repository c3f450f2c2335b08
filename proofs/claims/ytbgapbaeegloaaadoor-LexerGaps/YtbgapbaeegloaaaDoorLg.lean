import Derived.Test.YtbgapbaeegloaaaDoorLf
namespace Go.Proofs.YtbgapbaeegloaaaDoor
open Go.RowKit Go.Maps

theorem markT (x : Txt) (hx : x.length ≤ 140737488355328) (w : World) : Calls Tryd.prog 33 #[str [32, 61, 61, 32, 33, 61, 32, 60, 61, 32, 62, 61, 32, 43, 61, 32, 63, 63, 32, 61, 32, 60, 32, 62, 32, 43, 32, 45, 32, 42, 32, 40, 32, 41, 32, 123, 32, 125, 32, 44, 32, 59, 32], str x] w fun e w' => e = .returned (.bool (decide (x ∈ marks))) ∧ w' = w := by
  have HQ := listed_v (wordsT marks) x (by decide +kernel) hx w
  rw [listed_marks] at HQ
  exact HQ

set_option maxRecDepth 100000 in
set_option maxHeartbeats 2000000 in
/-- The reference's text of a token that is no number. -/
theorem rtext_no (t : TokA) (w : World) (hk2 : t.kind ≠ 2) (ht : t.text.length ≤ 140737488355328) :
    Calls Tryd.prog 20 #[t.v] w fun e w' => e = .returned (.tuple #[str (textB t).1, .bool (textB t).2]) ∧ Keeps (fun _ => False) w w' := by
  obtain ⟨k, s, n, p⟩ := t
  unfold TokA.v textB
  simp only at hk2 ht ⊢
  obtain ⟨HX, hxb, hxc⟩ := boxedT w #[.int .i64 k, str s, .int .i64 n, .int .i64 p] 25
  have c0 := hxc 0 _ rfl
  have c1 := hxc 1 _ rfl
  have c2 := hxc 2 _ rfl
  clear hxc
  by_cases h2 : k = 2
  · exact absurd h2 hk2
  · have d2 : (k == 2) = false := by simpa using h2
    rw [if_neg h2]
    by_cases hn : n = 0
    · subst hn
      rw [if_neg (by simp)]
      have HN := hide (rname_v s)
      have HW := hide (refKeyword_v s ht)
      have HM := hide (markT s ht)
      have HS := fun h => hide (quote_any s (w.alloc (.cells #[.int .i64 k, str s, .int .i64 0, .int .i64 p] 25)) h)
      by_cases h1 : k = 1
      · subst h1
        rw [if_pos rfl]
        clear HW HM HS
        go_enter Tryd.func20, Tryd.ntmps20
        go_wp2_with fail
        go_quiet ((go_at_call 29; exact Calls.quiet_of_same (unhide HN _)))
        go_wp2
        go_ret2
        exact ⟨rfl, (unhide HX).drewN _⟩
      · have d1 : (k == 1) = false := by simpa using h1
        rw [if_neg h1]
        by_cases h3 : k = 3
        · subst h3
          rw [if_pos rfl]
          by_cases hl : 20 < s.length
          · rw [if_pos hl]
            clear HW HM HS HN
            have hl' : (20 : Int) < (s.length : Int) := by omega
            go_enter Tryd.func20, Tryd.ntmps20
            go_wp2_with fail
            go_ret2
            exact ⟨rfl, unhide HX⟩
          · rw [if_neg hl]
            have HQ := HS (by omega)
            have hl' : ¬ (20 : Int) < (s.length : Int) := by omega
            clear HW HM HS HN hl
            go_enter Tryd.func20, Tryd.ntmps20
            go_wp2_with fail
            refine (unhide HQ).mono ?_
            rintro e w2 ⟨rfl, hk⟩
            have HK := hide ((unhide HX).trans hk)
            clear hk
            go_wp2_with fail
            go_ret2
            exact ⟨rfl, unhide HK⟩
        · have d3 : (k == 3) = false := by simpa using h3
          rw [if_neg h3]
          by_cases h4 : k = 4
          · subst h4
            rw [if_pos rfl]
            clear HN HM HS
            go_enter Tryd.func20, Tryd.ntmps20
            go_wp2_with fail
            go_quiet ((go_at_call 32; exact Calls.quiet_of_same (unhide HW _)))
            go_wp2
            go_ret2
            exact ⟨rfl, (unhide HX).drewN _⟩
          · have d4 : (k == 4) = false := by simpa using h4
            rw [if_neg h4]
            by_cases h5 : k = 5
            · subst h5
              rw [if_pos rfl]
              clear HN HW HS
              go_enter Tryd.func20, Tryd.ntmps20
              go_wp2_with fail
              go_quiet ((go_at_call 33; exact Calls.quiet_of_same (unhide HM _)))
              go_wp2
              go_ret2
              exact ⟨rfl, (unhide HX).drewN _⟩
            · have d5 : (k == 5) = false := by simpa using h5
              rw [if_neg h5]
              clear HN HW HM HS
              go_enter Tryd.func20, Tryd.ntmps20
              go_wp2_with fail
              go_ret2
              exact ⟨rfl, unhide HX⟩
    · rw [if_pos hn]
      have dn : (n != 0) = true := by simpa using hn
      have dk : (k != 2) = true := by simpa using h2
      go_enter Tryd.func20, Tryd.ntmps20
      go_wp2_with fail
      go_ret2
      exact ⟨rfl, unhide HX⟩
set_option maxRecDepth 100000 in
set_option maxHeartbeats 2000000 in
theorem rtext_two (s : Txt) (n p : Int) (w : World) :
    Calls Tryd.prog 20 #[(TokA.mk 2 s n p).v] w fun e w' => e = .returned (.tuple #[str (textB ⟨2, s, n, p⟩).1, .bool (textB ⟨2, s, n, p⟩).2]) ∧ Keeps (fun _ => False) w w' := by
  unfold TokA.v textB
  simp only
  rw [if_pos trivial]
  obtain ⟨HX, hxb, hxc⟩ := boxedT w #[.int .i64 2, str s, .int .i64 n, .int .i64 p] 25
  have c0 := hxc 0 (.int .i64 2) rfl
  have e1 := hxc 1 (str s) rfl
  have e2 := hxc 2 (.int .i64 n) rfl
  clear hxc
  generalize hW : w.alloc (.cells #[.int .i64 2, str s, .int .i64 n, .int .i64 p] 25) = W0 at *
  have HQ := hide (fun (m : KW W0) => kw_of m (rdec_v (unat n) (unat_lt n) m.wd))
  rw [← unat_eq] at HQ
  obtain ⟨R, HR⟩ : ∃ R : Txt, Hid (decU (unat n) = R) := ⟨_, hide rfl⟩
  rw [unhide HR] at HQ ⊢
  have f1 : ∀ m : KW W0, m.wd.cell? ⟨w.heap.size, 1, none⟩ = some (str s) := fun m => (m.kept.cell (o := 1) hxb id).trans e1
  have f2 : ∀ m : KW W0, m.wd.cell? ⟨w.heap.size, 2, none⟩ = some (.int .i64 n) := fun m => (m.kept.cell (o := 2) hxb id).trans e2
  clear HR e1 e2
  by_cases hs : s = []
  · subst hs
    by_cases hn : 0 ≤ n
    · rw [decide_eq_true hn, decide_eq_true rfl, Bool.true_or, Bool.true_and]
      go_enter Tryd.func20, Tryd.ntmps20
      go_wp2_with fail
      refine region_kept (by kernel_rfl) (by kernel_rfl) ?_
      repeat (go_big_quiet_step ((go_at_call 30; exact unhide HQ _)))
      refine wpQuiet_nil ?_
      rintro _ ⟨nq, rfl⟩
      go_wp2_with fail
      go_ret2
      exact ⟨rfl, (unhide HX).trans nq.kept⟩
    · have hd : decide (0 ≤ n) = false := decide_eq_false hn
      rw [hd, decide_eq_true rfl, Bool.false_or, Bool.true_and]
      clear hn
      by_cases hm : n = -9223372036854775808
      · have em : (n == -9223372036854775808) = true := by simpa using hm
        rw [decide_eq_true hm]
        clear hm
        go_enter Tryd.func20, Tryd.ntmps20
        go_wp2_with fail
        refine region_kept (by kernel_rfl) (by kernel_rfl) ?_
        repeat (go_big_quiet_step ((go_at_call 30; exact unhide HQ _)))
        refine wpQuiet_nil ?_
        rintro _ ⟨nq, rfl⟩
        go_wp2_with fail
        go_ret2
        exact ⟨rfl, (unhide HX).trans nq.kept⟩
      · have em : (n == -9223372036854775808) = false := by simpa using hm
        rw [decide_eq_false hm]
        clear hm
        go_enter Tryd.func20, Tryd.ntmps20
        go_wp2_with fail
        refine region_kept (by kernel_rfl) (by kernel_rfl) ?_
        repeat (go_big_quiet_step ((go_at_call 30; exact unhide HQ _)))
        refine wpQuiet_nil ?_
        rintro _ ⟨nq, rfl⟩
        go_wp2_with fail
        go_ret2
        exact ⟨rfl, (unhide HX).trans nq.kept⟩
  · have hse : (s == []) = false := by simpa using hs
    rw [decide_eq_false hs, Bool.false_and]
    clear hs
    go_enter Tryd.func20, Tryd.ntmps20
    go_wp2_with fail
    refine region_kept (by kernel_rfl) (by kernel_rfl) ?_
    repeat (go_big_quiet_step ((go_at_call 30; exact unhide HQ _)))
    refine wpQuiet_nil ?_
    rintro _ ⟨nq, rfl⟩
    go_wp2_with fail
    go_ret2
    exact ⟨rfl, (unhide HX).trans nq.kept⟩
theorem rtext_v (t : TokA) (w : World) (ht : t.text.length ≤ 140737488355328) :
    Calls Tryd.prog 20 #[t.v] w fun e w' => e = .returned (.tuple #[str (textB t).1, .bool (textB t).2]) ∧ Keeps (fun _ => False) w w' := by
  by_cases h : t.kind = 2
  · obtain ⟨k, s, n, p⟩ := t
    simp only at h
    subst h
    exact rtext_two s n p w
  · exact rtext_no t w h ht
end Go.Proofs.YtbgapbaeegloaaaDoor
