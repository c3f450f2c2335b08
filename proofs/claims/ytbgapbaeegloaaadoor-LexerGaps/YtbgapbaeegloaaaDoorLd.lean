import Derived.Test.YtbgapbaeegloaaaDoorLc
namespace Go.Proofs.YtbgapbaeegloaaaDoor
open Go.RowKit Go.Maps

/-- The worlds in which all that a world holds stands still. -/
structure KW (W0 : World) where
  wd : World
  kept : Keeps (fun _ => False) W0 wd
instance (W0 : World) : Nonempty (KW W0) := ⟨⟨W0, Keeps.refl _ W0⟩⟩
/-- A region that draws its order, whose operations only read and whose callees only lay new blocks: walked once, in the order of the text. -/
theorem region_kept {P : Program} {id : Nat} {Q : Exit → Act → World → Prop} {a : Act} {w : World} {l : List Oper} (hm : P.follows .mixedOrders = true) (hB : Region.lexB .any l.toArray = true)
    (h : wpQuiet P l.toArray (fun w' => ∃ n : KW w, w' = n.wd) (fun a' => ∀ w', (∃ n : KW w, w' = n.wd) → Q .normal a' w') l a) : (Code.region id l.toArray true).wp P Q a w :=
  wp_region_quiet (C := fun w' => ∃ n : KW w, w' = n.wd) hm hB ⟨⟨_, (Keeps.refl _ w).drew⟩, rfl⟩ (by simpa using h)
/-- A contract with no effect but new blocks, at any such world. -/
theorem kw_of {P : Program} {f : FuncId} {args : Array Value} {W0 : World} {v : Value} (n : KW W0) (h : Calls P f args n.wd fun e w' => e = .returned v ∧ Keeps (fun _ => False) n.wd w') :
    Calls P f args n.wd fun e w' => e = .returned v ∧ ∃ m : KW W0, w' = m.wd :=
  h.mono fun _ w' ⟨he, hk⟩ => ⟨he, ⟨w', n.kept.trans hk⟩, rfl⟩

set_option maxRecDepth 100000 in
set_option maxHeartbeats 2000000 in
theorem textOf_two (s : Txt) (n p : Int) (w : World) (hP : Pow w) :
    Calls Tryd.prog 15 #[(TokA.mk 2 s n p).v] w fun e w' => e = .returned (.tuple #[str (textB ⟨2, s, n, p⟩).1, .bool (textB ⟨2, s, n, p⟩).2]) ∧ Keeps (fun _ => False) w w' := by
  unfold TokA.v textB
  simp only
  rw [if_pos trivial]
  obtain ⟨HX, hxb, hxc⟩ := boxedT w #[.int .i64 2, str s, .int .i64 n, .int .i64 p] 25
  have c0 := hxc 0 (.int .i64 2) rfl
  have e1 := hxc 1 (str s) rfl
  have e2 := hxc 2 (.int .i64 n) rfl
  have HP := hide (hP.keepF (unhide HX))
  clear hP hxc
  generalize hW : w.alloc (.cells #[.int .i64 2, str s, .int .i64 n, .int .i64 p] 25) = W0 at *
  have HQ := hide (fun (m : KW W0) => kw_of m (fmt_v (unat n) (unat_lt n) m.wd ((unhide HP).keepF m.kept)))
  rw [← unat_eq] at HQ
  obtain ⟨R, HR⟩ : ∃ R : Txt, Hid (decU (unat n) = R) := ⟨_, hide rfl⟩
  rw [unhide HR] at HQ ⊢
  have f1 : ∀ m : KW W0, m.wd.cell? ⟨w.heap.size, 1, none⟩ = some (str s) := fun m => (m.kept.cell (o := 1) hxb id).trans e1
  have f2 : ∀ m : KW W0, m.wd.cell? ⟨w.heap.size, 2, none⟩ = some (.int .i64 n) := fun m => (m.kept.cell (o := 2) hxb id).trans e2
  clear HP HR e1 e2
  by_cases hs : s = []
  · subst hs
    by_cases hn : 0 ≤ n
    · rw [decide_eq_true hn, decide_eq_true rfl, Bool.true_or, Bool.true_and]
      go_enter Tryd.func15, Tryd.ntmps15
      go_wp2_with fail
      refine region_kept (by kernel_rfl) (by kernel_rfl) ?_
      repeat (go_big_quiet_step ((go_at_call 23; exact unhide HQ _)))
      refine wpQuiet_nil ?_
      rintro _ ⟨nq, rfl⟩
      go_wp2_with fail
      go_ret2
      exact ⟨rfl, (unhide HX).trans nq.kept⟩
    · have hd : decide (0 ≤ n) = false := decide_eq_false hn
      rw [hd, decide_eq_true rfl, Bool.false_or, Bool.true_and]
      clear hn
      by_cases hm : n = -9223372036854775808
      · have em : (n == -9223372036854775808) = true := by simpa using hm
        rw [decide_eq_true hm]
        clear hm
        go_enter Tryd.func15, Tryd.ntmps15
        go_wp2_with fail
        refine region_kept (by kernel_rfl) (by kernel_rfl) ?_
        repeat (go_big_quiet_step ((go_at_call 23; exact unhide HQ _)))
        refine wpQuiet_nil ?_
        rintro _ ⟨nq, rfl⟩
        go_wp2_with fail
        go_ret2
        exact ⟨rfl, (unhide HX).trans nq.kept⟩
      · have em : (n == -9223372036854775808) = false := by simpa using hm
        rw [decide_eq_false hm]
        clear hm
        go_enter Tryd.func15, Tryd.ntmps15
        go_wp2_with fail
        refine region_kept (by kernel_rfl) (by kernel_rfl) ?_
        repeat (go_big_quiet_step ((go_at_call 23; exact unhide HQ _)))
        refine wpQuiet_nil ?_
        rintro _ ⟨nq, rfl⟩
        go_wp2_with fail
        go_ret2
        exact ⟨rfl, (unhide HX).trans nq.kept⟩
  · have hse : (s == []) = false := by simpa using hs
    rw [decide_eq_false hs, Bool.false_and]
    clear hs
    go_enter Tryd.func15, Tryd.ntmps15
    go_wp2_with fail
    refine region_kept (by kernel_rfl) (by kernel_rfl) ?_
    repeat (go_big_quiet_step ((go_at_call 23; exact unhide HQ _)))
    refine wpQuiet_nil ?_
    rintro _ ⟨nq, rfl⟩
    go_wp2_with fail
    go_ret2
    exact ⟨rfl, (unhide HX).trans nq.kept⟩
theorem textOf_v (t : TokA) (w : World) (hP : Pow w) :
    Calls Tryd.prog 15 #[t.v] w fun e w' => e = .returned (.tuple #[str (textB t).1, .bool (textB t).2]) ∧ Keeps (fun _ => False) w w' := by
  by_cases h : t.kind = 2
  · obtain ⟨k, s, n, p⟩ := t
    simp only at h
    subst h
    exact textOf_two s n p w hP
  · exact textOf_no t w h
end Go.Proofs.YtbgapbaeegloaaaDoor
