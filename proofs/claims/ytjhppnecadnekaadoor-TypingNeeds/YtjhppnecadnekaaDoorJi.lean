import Derived.Test.YtjhppnecadnekaaDoorJm
namespace Go.Proofs.YtjhppnecadnekaaDoor
open Go.RowKit Go.Maps

set_option maxRecDepth 100000 in
set_option maxHeartbeats 4000000 in
theorem worked18 (S : List FieldA) (so : Option Addr) (sl sc : Nat) (n : Int) (s : Txt) (ao : Option Addr) (kl cap : Nat) (h : Int × Txt) (a b : Int) (v : Value) (w : World) (hv : IntsAt w v [a, b]) :
    Calls Tryd.prog 72 #[.agg #[.slice so sl sc], exV 18 n s (.slice ao kl cap), v] w fun e w' => Worked e (workG S 18 h [a, b]) ∧ Keeps (fun _ => False) w w' := by
  obtain ⟨vo, vc, rfl⟩ := RowAt.form hv
  obtain ⟨HX, hxb, hxc⟩ := boxedT w #[.slice so sl sc] 24
  obtain ⟨HY, hyb, hyc⟩ := boxedT (w.alloc (.cells #[.slice so sl sc] 24)) #[.int .i64 18, .int .i64 n, str s, .slice ao kl cap] 78
  have y0 := hyc 0 (.int .i64 18) rfl
  rw [World.size_alloc] at y0
  have HK := hide ((unhide HX).trans (unhide HY))
  have HV := hide (hv.keepF (unhide HK))
  obtain ⟨bb, boff, bcap, be, hbb, hbc⟩ := (unhide HV).cells (by simp)
  simp only [Value.slice.injEq] at be
  obtain ⟨rfl, _, rfl⟩ := be
  have q0 := hbc 0 a rfl
  have q1 := hbc 1 b rfl
  simp only [Nat.add_zero] at q0
  have HBC := hide hbc
  clear hv hxc hyc hbc hxb hyb HX HY
  simp only [List.length_cons, List.length_nil, Nat.zero_add] at *
  go_enter Tryd.func72, Tryd.ntmps72
  go_wp2_with fail
  generalize (w.alloc (.cells #[.slice so sl sc] 24)).alloc (.cells #[.int .i64 18, .int .i64 n, str s, .slice ao kl cap] 78) = w1 at y0 HK HV hbb HBC q0 q1 ⊢
  go_loopw [9] (fun i wr => ∃ j : Nat, j ≤ 2 ∧ i = .int .i64 j ∧ Hid (∀ i, i < j → [a, b][i]? ≠ some 0) ∧ wr = w1) (fun i _ => 2 - (intOf i).toNat)
  case atStart => exact ⟨0, Nat.zero_le _, rfl, fun i hi => by omega, rfl⟩
  case round =>
    obtain ⟨j, hj, rfl, HN, rfl⟩ := hrel
    by_cases hlt : j < 2
    · obtain ⟨x, hx⟩ : ∃ x, [a, b][j]? = some x := ⟨_, List.getElem?_eq_getElem (by simpa using hlt)⟩
      have qx := (unhide HBC) j x hx
      have i1 : (j : Int) < 2 := by omega
      have i0 : (0 : Int) ≤ (j : Int) := by omega
      have HX := hide hx
      by_cases h0 : x = 0
      · subst h0
        have HW := hide (work_zero (S := S) (op := 18) (h := h) (by decide) (contains_at hx))
        clear hx
        go_wp2_with fail
        go_ret2
        refine ⟨?_, unhide HK⟩
        rw [unhide HW]
        exact worked_no rfl
      · have e0 : (x == 0) = false := by simpa using h0
        have HN2 : Hid (∀ i, i < j + 1 → [a, b][i]? ≠ some 0) := fun i hi => by
          by_cases hij : i = j
          · subst hij
            rw [unhide HX]
            simpa using h0
          · exact (unhide HN) i (by omega)
        clear hx h0
        go_wp2_with fail
        go_roundw
        case rel => exact ⟨j + 1, by omega, by go_num, HN2, by trivial⟩
        case measure => simp [intOf] at *; omega
    · have HNC := hide (contains_not (ks := [a, b]) (fun i hi => (unhide HN) i (by simp at hi; omega)))
      have i1 : ¬ (j : Int) < 2 := by omega
      have i0 : (0 : Int) ≤ (j : Int) := by omega
      clear hlt
      by_cases h0 : a = 2
      · have b0 : (a == 2) = true := by simpa using h0
        by_cases h1 : b = 2
        · have b1 : (b == 2) = true := by simpa using h1
          have HW : Hid (workG S 18 h [a, b] = some 2) := by show _ = _; have := unhide HNC; simp_all [workG]
          clear h0 h1
          go_wp2_with fail
          go_quiet (fail)
          go_wp2
          go_ret2
          refine ⟨?_, (unhide HK).drewN _⟩
          rw [unhide HW]
          exact worked_yes rfl
        · have b1 : (b == 2) = false := by simpa using h1
          have HW : Hid (workG S 18 h [a, b] = none) := by show _ = _; have := unhide HNC; simp_all [workG]
          clear h0 h1
          go_wp2_with fail
          go_quiet (fail)
          go_wp2
          go_ret2
          refine ⟨?_, (unhide HK).drewN _⟩
          rw [unhide HW]
          exact worked_no rfl
      · have b0 : (a == 2) = false := by simpa using h0
        have HW : Hid (workG S 18 h [a, b] = none) := by show _ = _; have := unhide HNC; simp_all [workG]
        clear h0
        go_wp2_with fail
        go_quiet (fail)
        go_wp2
        go_ret2
        refine ⟨?_, (unhide HK).drewN _⟩
        rw [unhide HW]
        exact worked_no rfl

set_option maxRecDepth 100000 in
set_option maxHeartbeats 4000000 in
theorem worked19 (S : List FieldA) (so : Option Addr) (sl sc : Nat) (n : Int) (s : Txt) (ao : Option Addr) (kl cap : Nat) (h : Int × Txt) (a b : Int) (v : Value) (w : World) (hv : IntsAt w v [a, b]) :
    Calls Tryd.prog 72 #[.agg #[.slice so sl sc], exV 19 n s (.slice ao kl cap), v] w fun e w' => Worked e (workG S 19 h [a, b]) ∧ Keeps (fun _ => False) w w' := by
  obtain ⟨vo, vc, rfl⟩ := RowAt.form hv
  obtain ⟨HX, hxb, hxc⟩ := boxedT w #[.slice so sl sc] 24
  obtain ⟨HY, hyb, hyc⟩ := boxedT (w.alloc (.cells #[.slice so sl sc] 24)) #[.int .i64 19, .int .i64 n, str s, .slice ao kl cap] 78
  have y0 := hyc 0 (.int .i64 19) rfl
  rw [World.size_alloc] at y0
  have HK := hide ((unhide HX).trans (unhide HY))
  have HV := hide (hv.keepF (unhide HK))
  obtain ⟨bb, boff, bcap, be, hbb, hbc⟩ := (unhide HV).cells (by simp)
  simp only [Value.slice.injEq] at be
  obtain ⟨rfl, _, rfl⟩ := be
  have q0 := hbc 0 a rfl
  have q1 := hbc 1 b rfl
  simp only [Nat.add_zero] at q0
  have HBC := hide hbc
  clear hv hxc hyc hbc hxb hyb HX HY
  simp only [List.length_cons, List.length_nil, Nat.zero_add] at *
  go_enter Tryd.func72, Tryd.ntmps72
  go_wp2_with fail
  generalize (w.alloc (.cells #[.slice so sl sc] 24)).alloc (.cells #[.int .i64 19, .int .i64 n, str s, .slice ao kl cap] 78) = w1 at y0 HK HV hbb HBC q0 q1 ⊢
  go_loopw [9] (fun i wr => ∃ j : Nat, j ≤ 2 ∧ i = .int .i64 j ∧ Hid (∀ i, i < j → [a, b][i]? ≠ some 0) ∧ wr = w1) (fun i _ => 2 - (intOf i).toNat)
  case atStart => exact ⟨0, Nat.zero_le _, rfl, fun i hi => by omega, rfl⟩
  case round =>
    obtain ⟨j, hj, rfl, HN, rfl⟩ := hrel
    by_cases hlt : j < 2
    · obtain ⟨x, hx⟩ : ∃ x, [a, b][j]? = some x := ⟨_, List.getElem?_eq_getElem (by simpa using hlt)⟩
      have qx := (unhide HBC) j x hx
      have i1 : (j : Int) < 2 := by omega
      have i0 : (0 : Int) ≤ (j : Int) := by omega
      have HX := hide hx
      by_cases h0 : x = 0
      · subst h0
        have HW := hide (work_zero (S := S) (op := 19) (h := h) (by decide) (contains_at hx))
        clear hx
        go_wp2_with fail
        go_ret2
        refine ⟨?_, unhide HK⟩
        rw [unhide HW]
        exact worked_no rfl
      · have e0 : (x == 0) = false := by simpa using h0
        have HN2 : Hid (∀ i, i < j + 1 → [a, b][i]? ≠ some 0) := fun i hi => by
          by_cases hij : i = j
          · subst hij
            rw [unhide HX]
            simpa using h0
          · exact (unhide HN) i (by omega)
        clear hx h0
        go_wp2_with fail
        go_roundw
        case rel => exact ⟨j + 1, by omega, by go_num, HN2, by trivial⟩
        case measure => simp [intOf] at *; omega
    · have HNC := hide (contains_not (ks := [a, b]) (fun i hi => (unhide HN) i (by simp at hi; omega)))
      have i1 : ¬ (j : Int) < 2 := by omega
      have i0 : (0 : Int) ≤ (j : Int) := by omega
      clear hlt
      by_cases h0 : a = 2
      · have b0 : (a == 2) = true := by simpa using h0
        by_cases h1 : b = 2
        · have b1 : (b == 2) = true := by simpa using h1
          have HW : Hid (workG S 19 h [a, b] = some 2) := by show _ = _; have := unhide HNC; simp_all [workG]
          clear h0 h1
          go_wp2_with fail
          go_quiet (fail)
          go_wp2
          go_ret2
          refine ⟨?_, (unhide HK).drewN _⟩
          rw [unhide HW]
          exact worked_yes rfl
        · have b1 : (b == 2) = false := by simpa using h1
          have HW : Hid (workG S 19 h [a, b] = none) := by show _ = _; have := unhide HNC; simp_all [workG]
          clear h0 h1
          go_wp2_with fail
          go_quiet (fail)
          go_wp2
          go_ret2
          refine ⟨?_, (unhide HK).drewN _⟩
          rw [unhide HW]
          exact worked_no rfl
      · have b0 : (a == 2) = false := by simpa using h0
        have HW : Hid (workG S 19 h [a, b] = none) := by show _ = _; have := unhide HNC; simp_all [workG]
        clear h0
        go_wp2_with fail
        go_quiet (fail)
        go_wp2
        go_ret2
        refine ⟨?_, (unhide HK).drewN _⟩
        rw [unhide HW]
        exact worked_no rfl

set_option maxRecDepth 100000 in
set_option maxHeartbeats 4000000 in
theorem worked16 (S : List FieldA) (so : Option Addr) (sl sc : Nat) (n : Int) (s : Txt) (ao : Option Addr) (kl cap : Nat) (h : Int × Txt) (a b : Int) (v : Value) (w : World) (hv : IntsAt w v [a, b]) :
    Calls Tryd.prog 72 #[.agg #[.slice so sl sc], exV 16 n s (.slice ao kl cap), v] w fun e w' => Worked e (workG S 16 h [a, b]) ∧ Keeps (fun _ => False) w w' := by
  obtain ⟨vo, vc, rfl⟩ := RowAt.form hv
  obtain ⟨HX, hxb, hxc⟩ := boxedT w #[.slice so sl sc] 24
  obtain ⟨HY, hyb, hyc⟩ := boxedT (w.alloc (.cells #[.slice so sl sc] 24)) #[.int .i64 16, .int .i64 n, str s, .slice ao kl cap] 78
  have y0 := hyc 0 (.int .i64 16) rfl
  rw [World.size_alloc] at y0
  have HK := hide ((unhide HX).trans (unhide HY))
  have HV := hide (hv.keepF (unhide HK))
  obtain ⟨bb, boff, bcap, be, hbb, hbc⟩ := (unhide HV).cells (by simp)
  simp only [Value.slice.injEq] at be
  obtain ⟨rfl, _, rfl⟩ := be
  have q0 := hbc 0 a rfl
  have q1 := hbc 1 b rfl
  simp only [Nat.add_zero] at q0
  have HBC := hide hbc
  clear hv hxc hyc hbc hxb hyb HX HY
  simp only [List.length_cons, List.length_nil, Nat.zero_add] at *
  go_enter Tryd.func72, Tryd.ntmps72
  go_wp2_with fail
  generalize (w.alloc (.cells #[.slice so sl sc] 24)).alloc (.cells #[.int .i64 16, .int .i64 n, str s, .slice ao kl cap] 78) = w1 at y0 HK HV hbb HBC q0 q1 ⊢
  go_loopw [9] (fun i wr => ∃ j : Nat, j ≤ 2 ∧ i = .int .i64 j ∧ Hid (∀ i, i < j → [a, b][i]? ≠ some 0) ∧ wr = w1) (fun i _ => 2 - (intOf i).toNat)
  case atStart => exact ⟨0, Nat.zero_le _, rfl, fun i hi => by omega, rfl⟩
  case round =>
    obtain ⟨j, hj, rfl, HN, rfl⟩ := hrel
    by_cases hlt : j < 2
    · obtain ⟨x, hx⟩ : ∃ x, [a, b][j]? = some x := ⟨_, List.getElem?_eq_getElem (by simpa using hlt)⟩
      have qx := (unhide HBC) j x hx
      have i1 : (j : Int) < 2 := by omega
      have i0 : (0 : Int) ≤ (j : Int) := by omega
      have HX := hide hx
      by_cases h0 : x = 0
      · subst h0
        have HW := hide (work_zero (S := S) (op := 16) (h := h) (by decide) (contains_at hx))
        clear hx
        go_wp2_with fail
        go_ret2
        refine ⟨?_, unhide HK⟩
        rw [unhide HW]
        exact worked_no rfl
      · have e0 : (x == 0) = false := by simpa using h0
        have HN2 : Hid (∀ i, i < j + 1 → [a, b][i]? ≠ some 0) := fun i hi => by
          by_cases hij : i = j
          · subst hij
            rw [unhide HX]
            simpa using h0
          · exact (unhide HN) i (by omega)
        clear hx h0
        go_wp2_with fail
        go_roundw
        case rel => exact ⟨j + 1, by omega, by go_num, HN2, by trivial⟩
        case measure => simp [intOf] at *; omega
    · have HNC := hide (contains_not (ks := [a, b]) (fun i hi => (unhide HN) i (by simp at hi; omega)))
      have i1 : ¬ (j : Int) < 2 := by omega
      have i0 : (0 : Int) ≤ (j : Int) := by omega
      clear hlt
      by_cases h0 : a = b
      · have b0 : (a == b) = true := by simpa using h0
        have HW : Hid (workG S 16 h [a, b] = some 2) := by show _ = _; have := unhide HNC; simp_all [workG]
        clear h0
        go_wp2_with fail
        go_quiet (fail)
        go_wp2
        go_ret2
        refine ⟨?_, (unhide HK).drewN _⟩
        rw [unhide HW]
        exact worked_yes rfl
      · have b0 : (a == b) = false := by simpa using h0
        have HW : Hid (workG S 16 h [a, b] = none) := by show _ = _; have := unhide HNC; simp_all [workG]
        clear h0
        go_wp2_with fail
        go_quiet (fail)
        go_wp2
        go_ret2
        refine ⟨?_, (unhide HK).drewN _⟩
        rw [unhide HW]
        exact worked_no rfl

set_option maxRecDepth 100000 in
set_option maxHeartbeats 4000000 in
theorem worked17 (S : List FieldA) (so : Option Addr) (sl sc : Nat) (n : Int) (s : Txt) (ao : Option Addr) (kl cap : Nat) (h : Int × Txt) (a b : Int) (v : Value) (w : World) (hv : IntsAt w v [a, b]) :
    Calls Tryd.prog 72 #[.agg #[.slice so sl sc], exV 17 n s (.slice ao kl cap), v] w fun e w' => Worked e (workG S 17 h [a, b]) ∧ Keeps (fun _ => False) w w' := by
  obtain ⟨vo, vc, rfl⟩ := RowAt.form hv
  obtain ⟨HX, hxb, hxc⟩ := boxedT w #[.slice so sl sc] 24
  obtain ⟨HY, hyb, hyc⟩ := boxedT (w.alloc (.cells #[.slice so sl sc] 24)) #[.int .i64 17, .int .i64 n, str s, .slice ao kl cap] 78
  have y0 := hyc 0 (.int .i64 17) rfl
  rw [World.size_alloc] at y0
  have HK := hide ((unhide HX).trans (unhide HY))
  have HV := hide (hv.keepF (unhide HK))
  obtain ⟨bb, boff, bcap, be, hbb, hbc⟩ := (unhide HV).cells (by simp)
  simp only [Value.slice.injEq] at be
  obtain ⟨rfl, _, rfl⟩ := be
  have q0 := hbc 0 a rfl
  have q1 := hbc 1 b rfl
  simp only [Nat.add_zero] at q0
  have HBC := hide hbc
  clear hv hxc hyc hbc hxb hyb HX HY
  simp only [List.length_cons, List.length_nil, Nat.zero_add] at *
  go_enter Tryd.func72, Tryd.ntmps72
  go_wp2_with fail
  generalize (w.alloc (.cells #[.slice so sl sc] 24)).alloc (.cells #[.int .i64 17, .int .i64 n, str s, .slice ao kl cap] 78) = w1 at y0 HK HV hbb HBC q0 q1 ⊢
  go_loopw [9] (fun i wr => ∃ j : Nat, j ≤ 2 ∧ i = .int .i64 j ∧ Hid (∀ i, i < j → [a, b][i]? ≠ some 0) ∧ wr = w1) (fun i _ => 2 - (intOf i).toNat)
  case atStart => exact ⟨0, Nat.zero_le _, rfl, fun i hi => by omega, rfl⟩
  case round =>
    obtain ⟨j, hj, rfl, HN, rfl⟩ := hrel
    by_cases hlt : j < 2
    · obtain ⟨x, hx⟩ : ∃ x, [a, b][j]? = some x := ⟨_, List.getElem?_eq_getElem (by simpa using hlt)⟩
      have qx := (unhide HBC) j x hx
      have i1 : (j : Int) < 2 := by omega
      have i0 : (0 : Int) ≤ (j : Int) := by omega
      have HX := hide hx
      by_cases h0 : x = 0
      · subst h0
        have HW := hide (work_zero (S := S) (op := 17) (h := h) (by decide) (contains_at hx))
        clear hx
        go_wp2_with fail
        go_ret2
        refine ⟨?_, unhide HK⟩
        rw [unhide HW]
        exact worked_no rfl
      · have e0 : (x == 0) = false := by simpa using h0
        have HN2 : Hid (∀ i, i < j + 1 → [a, b][i]? ≠ some 0) := fun i hi => by
          by_cases hij : i = j
          · subst hij
            rw [unhide HX]
            simpa using h0
          · exact (unhide HN) i (by omega)
        clear hx h0
        go_wp2_with fail
        go_roundw
        case rel => exact ⟨j + 1, by omega, by go_num, HN2, by trivial⟩
        case measure => simp [intOf] at *; omega
    · have HNC := hide (contains_not (ks := [a, b]) (fun i hi => (unhide HN) i (by simp at hi; omega)))
      have i1 : ¬ (j : Int) < 2 := by omega
      have i0 : (0 : Int) ≤ (j : Int) := by omega
      clear hlt
      by_cases h0 : a = b
      · have b0 : (a == b) = true := by simpa using h0
        have HW : Hid (workG S 17 h [a, b] = some 2) := by show _ = _; have := unhide HNC; simp_all [workG]
        clear h0
        go_wp2_with fail
        go_quiet (fail)
        go_wp2
        go_ret2
        refine ⟨?_, (unhide HK).drewN _⟩
        rw [unhide HW]
        exact worked_yes rfl
      · have b0 : (a == b) = false := by simpa using h0
        have HW : Hid (workG S 17 h [a, b] = none) := by show _ = _; have := unhide HNC; simp_all [workG]
        clear h0
        go_wp2_with fail
        go_quiet (fail)
        go_wp2
        go_ret2
        refine ⟨?_, (unhide HK).drewN _⟩
        rw [unhide HW]
        exact worked_no rfl

end Go.Proofs.YtjhppnecadnekaaDoor
namespace Go.Proofs.YtjhppnecadnekaaDoor
open Go.RowKit Go.Maps

set_option maxRecDepth 100000 in
set_option maxHeartbeats 4000000 in
theorem worked12 (S : List FieldA) (so : Option Addr) (sl sc : Nat) (n : Int) (s : Txt) (ao : Option Addr) (kl cap : Nat) (h : Int × Txt) (a b : Int) (v : Value) (w : World) (hv : IntsAt w v [a, b]) :
    Calls Tryd.prog 72 #[.agg #[.slice so sl sc], exV 12 n s (.slice ao kl cap), v] w fun e w' => Worked e (workG S 12 h [a, b]) ∧ Keeps (fun _ => False) w w' := by
  obtain ⟨vo, vc, rfl⟩ := RowAt.form hv
  obtain ⟨HX, hxb, hxc⟩ := boxedT w #[.slice so sl sc] 24
  obtain ⟨HY, hyb, hyc⟩ := boxedT (w.alloc (.cells #[.slice so sl sc] 24)) #[.int .i64 12, .int .i64 n, str s, .slice ao kl cap] 78
  have y0 := hyc 0 (.int .i64 12) rfl
  rw [World.size_alloc] at y0
  have HK := hide ((unhide HX).trans (unhide HY))
  have HV := hide (hv.keepF (unhide HK))
  obtain ⟨bb, boff, bcap, be, hbb, hbc⟩ := (unhide HV).cells (by simp)
  simp only [Value.slice.injEq] at be
  obtain ⟨rfl, _, rfl⟩ := be
  have q0 := hbc 0 a rfl
  have q1 := hbc 1 b rfl
  simp only [Nat.add_zero] at q0
  have HBC := hide hbc
  clear hv hxc hyc hbc hxb hyb HX HY
  simp only [List.length_cons, List.length_nil, Nat.zero_add] at *
  go_enter Tryd.func72, Tryd.ntmps72
  go_wp2_with fail
  generalize (w.alloc (.cells #[.slice so sl sc] 24)).alloc (.cells #[.int .i64 12, .int .i64 n, str s, .slice ao kl cap] 78) = w1 at y0 HK HV hbb HBC q0 q1 ⊢
  go_loopw [9] (fun i wr => ∃ j : Nat, j ≤ 2 ∧ i = .int .i64 j ∧ Hid (∀ i, i < j → [a, b][i]? ≠ some 0) ∧ wr = w1) (fun i _ => 2 - (intOf i).toNat)
  case atStart => exact ⟨0, Nat.zero_le _, rfl, fun i hi => by omega, rfl⟩
  case round =>
    obtain ⟨j, hj, rfl, HN, rfl⟩ := hrel
    by_cases hlt : j < 2
    · obtain ⟨x, hx⟩ : ∃ x, [a, b][j]? = some x := ⟨_, List.getElem?_eq_getElem (by simpa using hlt)⟩
      have qx := (unhide HBC) j x hx
      have i1 : (j : Int) < 2 := by omega
      have i0 : (0 : Int) ≤ (j : Int) := by omega
      have HX := hide hx
      by_cases h0 : x = 0
      · subst h0
        have HW := hide (work_zero (S := S) (op := 12) (h := h) (by decide) (contains_at hx))
        clear hx
        go_wp2_with fail
        go_ret2
        refine ⟨?_, unhide HK⟩
        rw [unhide HW]
        exact worked_no rfl
      · have e0 : (x == 0) = false := by simpa using h0
        have HN2 : Hid (∀ i, i < j + 1 → [a, b][i]? ≠ some 0) := fun i hi => by
          by_cases hij : i = j
          · subst hij
            rw [unhide HX]
            simpa using h0
          · exact (unhide HN) i (by omega)
        clear hx h0
        go_wp2_with fail
        go_roundw
        case rel => exact ⟨j + 1, by omega, by go_num, HN2, by trivial⟩
        case measure => simp [intOf] at *; omega
    · have HNC := hide (contains_not (ks := [a, b]) (fun i hi => (unhide HN) i (by simp at hi; omega)))
      have i1 : ¬ (j : Int) < 2 := by omega
      have i0 : (0 : Int) ≤ (j : Int) := by omega
      clear hlt
      by_cases h0 : a = b
      · have b0 : (a == b) = true := by simpa using h0
        by_cases h1 : a ≠ 2
        · have b1 : (a != 2) = true := by simpa using h1
          have HW : Hid (workG S 12 h [a, b] = some 2) := by show _ = _; have := unhide HNC; simp_all [workG]
          clear h0 h1
          go_wp2_with fail
          go_quiet (fail)
          go_wp2
          go_ret2
          refine ⟨?_, (unhide HK).drewN _⟩
          rw [unhide HW]
          exact worked_yes rfl
        · have b1 : (a != 2) = false := by simpa using h1
          have HW : Hid (workG S 12 h [a, b] = none) := by show _ = _; have := unhide HNC; simp_all [workG]
          clear h0 h1
          go_wp2_with fail
          go_quiet (fail)
          go_wp2
          go_ret2
          refine ⟨?_, (unhide HK).drewN _⟩
          rw [unhide HW]
          exact worked_no rfl
      · have b0 : (a == b) = false := by simpa using h0
        have HW : Hid (workG S 12 h [a, b] = none) := by show _ = _; have := unhide HNC; simp_all [workG]
        clear h0
        go_wp2_with fail
        go_quiet (fail)
        go_wp2
        go_ret2
        refine ⟨?_, (unhide HK).drewN _⟩
        rw [unhide HW]
        exact worked_no rfl

set_option maxRecDepth 100000 in
set_option maxHeartbeats 4000000 in
theorem worked13 (S : List FieldA) (so : Option Addr) (sl sc : Nat) (n : Int) (s : Txt) (ao : Option Addr) (kl cap : Nat) (h : Int × Txt) (a b : Int) (v : Value) (w : World) (hv : IntsAt w v [a, b]) :
    Calls Tryd.prog 72 #[.agg #[.slice so sl sc], exV 13 n s (.slice ao kl cap), v] w fun e w' => Worked e (workG S 13 h [a, b]) ∧ Keeps (fun _ => False) w w' := by
  obtain ⟨vo, vc, rfl⟩ := RowAt.form hv
  obtain ⟨HX, hxb, hxc⟩ := boxedT w #[.slice so sl sc] 24
  obtain ⟨HY, hyb, hyc⟩ := boxedT (w.alloc (.cells #[.slice so sl sc] 24)) #[.int .i64 13, .int .i64 n, str s, .slice ao kl cap] 78
  have y0 := hyc 0 (.int .i64 13) rfl
  rw [World.size_alloc] at y0
  have HK := hide ((unhide HX).trans (unhide HY))
  have HV := hide (hv.keepF (unhide HK))
  obtain ⟨bb, boff, bcap, be, hbb, hbc⟩ := (unhide HV).cells (by simp)
  simp only [Value.slice.injEq] at be
  obtain ⟨rfl, _, rfl⟩ := be
  have q0 := hbc 0 a rfl
  have q1 := hbc 1 b rfl
  simp only [Nat.add_zero] at q0
  have HBC := hide hbc
  clear hv hxc hyc hbc hxb hyb HX HY
  simp only [List.length_cons, List.length_nil, Nat.zero_add] at *
  go_enter Tryd.func72, Tryd.ntmps72
  go_wp2_with fail
  generalize (w.alloc (.cells #[.slice so sl sc] 24)).alloc (.cells #[.int .i64 13, .int .i64 n, str s, .slice ao kl cap] 78) = w1 at y0 HK HV hbb HBC q0 q1 ⊢
  go_loopw [9] (fun i wr => ∃ j : Nat, j ≤ 2 ∧ i = .int .i64 j ∧ Hid (∀ i, i < j → [a, b][i]? ≠ some 0) ∧ wr = w1) (fun i _ => 2 - (intOf i).toNat)
  case atStart => exact ⟨0, Nat.zero_le _, rfl, fun i hi => by omega, rfl⟩
  case round =>
    obtain ⟨j, hj, rfl, HN, rfl⟩ := hrel
    by_cases hlt : j < 2
    · obtain ⟨x, hx⟩ : ∃ x, [a, b][j]? = some x := ⟨_, List.getElem?_eq_getElem (by simpa using hlt)⟩
      have qx := (unhide HBC) j x hx
      have i1 : (j : Int) < 2 := by omega
      have i0 : (0 : Int) ≤ (j : Int) := by omega
      have HX := hide hx
      by_cases h0 : x = 0
      · subst h0
        have HW := hide (work_zero (S := S) (op := 13) (h := h) (by decide) (contains_at hx))
        clear hx
        go_wp2_with fail
        go_ret2
        refine ⟨?_, unhide HK⟩
        rw [unhide HW]
        exact worked_no rfl
      · have e0 : (x == 0) = false := by simpa using h0
        have HN2 : Hid (∀ i, i < j + 1 → [a, b][i]? ≠ some 0) := fun i hi => by
          by_cases hij : i = j
          · subst hij
            rw [unhide HX]
            simpa using h0
          · exact (unhide HN) i (by omega)
        clear hx h0
        go_wp2_with fail
        go_roundw
        case rel => exact ⟨j + 1, by omega, by go_num, HN2, by trivial⟩
        case measure => simp [intOf] at *; omega
    · have HNC := hide (contains_not (ks := [a, b]) (fun i hi => (unhide HN) i (by simp at hi; omega)))
      have i1 : ¬ (j : Int) < 2 := by omega
      have i0 : (0 : Int) ≤ (j : Int) := by omega
      clear hlt
      by_cases h0 : a = b
      · have b0 : (a == b) = true := by simpa using h0
        by_cases h1 : a ≠ 2
        · have b1 : (a != 2) = true := by simpa using h1
          have HW : Hid (workG S 13 h [a, b] = some 2) := by show _ = _; have := unhide HNC; simp_all [workG]
          clear h0 h1
          go_wp2_with fail
          go_quiet (fail)
          go_wp2
          go_ret2
          refine ⟨?_, (unhide HK).drewN _⟩
          rw [unhide HW]
          exact worked_yes rfl
        · have b1 : (a != 2) = false := by simpa using h1
          have HW : Hid (workG S 13 h [a, b] = none) := by show _ = _; have := unhide HNC; simp_all [workG]
          clear h0 h1
          go_wp2_with fail
          go_quiet (fail)
          go_wp2
          go_ret2
          refine ⟨?_, (unhide HK).drewN _⟩
          rw [unhide HW]
          exact worked_no rfl
      · have b0 : (a == b) = false := by simpa using h0
        have HW : Hid (workG S 13 h [a, b] = none) := by show _ = _; have := unhide HNC; simp_all [workG]
        clear h0
        go_wp2_with fail
        go_quiet (fail)
        go_wp2
        go_ret2
        refine ⟨?_, (unhide HK).drewN _⟩
        rw [unhide HW]
        exact worked_no rfl

set_option maxRecDepth 100000 in
set_option maxHeartbeats 4000000 in
theorem worked14 (S : List FieldA) (so : Option Addr) (sl sc : Nat) (n : Int) (s : Txt) (ao : Option Addr) (kl cap : Nat) (h : Int × Txt) (a b : Int) (v : Value) (w : World) (hv : IntsAt w v [a, b]) :
    Calls Tryd.prog 72 #[.agg #[.slice so sl sc], exV 14 n s (.slice ao kl cap), v] w fun e w' => Worked e (workG S 14 h [a, b]) ∧ Keeps (fun _ => False) w w' := by
  obtain ⟨vo, vc, rfl⟩ := RowAt.form hv
  obtain ⟨HX, hxb, hxc⟩ := boxedT w #[.slice so sl sc] 24
  obtain ⟨HY, hyb, hyc⟩ := boxedT (w.alloc (.cells #[.slice so sl sc] 24)) #[.int .i64 14, .int .i64 n, str s, .slice ao kl cap] 78
  have y0 := hyc 0 (.int .i64 14) rfl
  rw [World.size_alloc] at y0
  have HK := hide ((unhide HX).trans (unhide HY))
  have HV := hide (hv.keepF (unhide HK))
  obtain ⟨bb, boff, bcap, be, hbb, hbc⟩ := (unhide HV).cells (by simp)
  simp only [Value.slice.injEq] at be
  obtain ⟨rfl, _, rfl⟩ := be
  have q0 := hbc 0 a rfl
  have q1 := hbc 1 b rfl
  simp only [Nat.add_zero] at q0
  have HBC := hide hbc
  clear hv hxc hyc hbc hxb hyb HX HY
  simp only [List.length_cons, List.length_nil, Nat.zero_add] at *
  go_enter Tryd.func72, Tryd.ntmps72
  go_wp2_with fail
  generalize (w.alloc (.cells #[.slice so sl sc] 24)).alloc (.cells #[.int .i64 14, .int .i64 n, str s, .slice ao kl cap] 78) = w1 at y0 HK HV hbb HBC q0 q1 ⊢
  go_loopw [9] (fun i wr => ∃ j : Nat, j ≤ 2 ∧ i = .int .i64 j ∧ Hid (∀ i, i < j → [a, b][i]? ≠ some 0) ∧ wr = w1) (fun i _ => 2 - (intOf i).toNat)
  case atStart => exact ⟨0, Nat.zero_le _, rfl, fun i hi => by omega, rfl⟩
  case round =>
    obtain ⟨j, hj, rfl, HN, rfl⟩ := hrel
    by_cases hlt : j < 2
    · obtain ⟨x, hx⟩ : ∃ x, [a, b][j]? = some x := ⟨_, List.getElem?_eq_getElem (by simpa using hlt)⟩
      have qx := (unhide HBC) j x hx
      have i1 : (j : Int) < 2 := by omega
      have i0 : (0 : Int) ≤ (j : Int) := by omega
      have HX := hide hx
      by_cases h0 : x = 0
      · subst h0
        have HW := hide (work_zero (S := S) (op := 14) (h := h) (by decide) (contains_at hx))
        clear hx
        go_wp2_with fail
        go_ret2
        refine ⟨?_, unhide HK⟩
        rw [unhide HW]
        exact worked_no rfl
      · have e0 : (x == 0) = false := by simpa using h0
        have HN2 : Hid (∀ i, i < j + 1 → [a, b][i]? ≠ some 0) := fun i hi => by
          by_cases hij : i = j
          · subst hij
            rw [unhide HX]
            simpa using h0
          · exact (unhide HN) i (by omega)
        clear hx h0
        go_wp2_with fail
        go_roundw
        case rel => exact ⟨j + 1, by omega, by go_num, HN2, by trivial⟩
        case measure => simp [intOf] at *; omega
    · have HNC := hide (contains_not (ks := [a, b]) (fun i hi => (unhide HN) i (by simp at hi; omega)))
      have i1 : ¬ (j : Int) < 2 := by omega
      have i0 : (0 : Int) ≤ (j : Int) := by omega
      clear hlt
      by_cases h0 : a = b
      · have b0 : (a == b) = true := by simpa using h0
        by_cases h1 : a ≠ 2
        · have b1 : (a != 2) = true := by simpa using h1
          have HW : Hid (workG S 14 h [a, b] = some 2) := by show _ = _; have := unhide HNC; simp_all [workG]
          clear h0 h1
          go_wp2_with fail
          go_quiet (fail)
          go_wp2
          go_ret2
          refine ⟨?_, (unhide HK).drewN _⟩
          rw [unhide HW]
          exact worked_yes rfl
        · have b1 : (a != 2) = false := by simpa using h1
          have HW : Hid (workG S 14 h [a, b] = none) := by show _ = _; have := unhide HNC; simp_all [workG]
          clear h0 h1
          go_wp2_with fail
          go_quiet (fail)
          go_wp2
          go_ret2
          refine ⟨?_, (unhide HK).drewN _⟩
          rw [unhide HW]
          exact worked_no rfl
      · have b0 : (a == b) = false := by simpa using h0
        have HW : Hid (workG S 14 h [a, b] = none) := by show _ = _; have := unhide HNC; simp_all [workG]
        clear h0
        go_wp2_with fail
        go_quiet (fail)
        go_wp2
        go_ret2
        refine ⟨?_, (unhide HK).drewN _⟩
        rw [unhide HW]
        exact worked_no rfl

set_option maxRecDepth 100000 in
set_option maxHeartbeats 4000000 in
theorem worked15 (S : List FieldA) (so : Option Addr) (sl sc : Nat) (n : Int) (s : Txt) (ao : Option Addr) (kl cap : Nat) (h : Int × Txt) (a b : Int) (v : Value) (w : World) (hv : IntsAt w v [a, b]) :
    Calls Tryd.prog 72 #[.agg #[.slice so sl sc], exV 15 n s (.slice ao kl cap), v] w fun e w' => Worked e (workG S 15 h [a, b]) ∧ Keeps (fun _ => False) w w' := by
  obtain ⟨vo, vc, rfl⟩ := RowAt.form hv
  obtain ⟨HX, hxb, hxc⟩ := boxedT w #[.slice so sl sc] 24
  obtain ⟨HY, hyb, hyc⟩ := boxedT (w.alloc (.cells #[.slice so sl sc] 24)) #[.int .i64 15, .int .i64 n, str s, .slice ao kl cap] 78
  have y0 := hyc 0 (.int .i64 15) rfl
  rw [World.size_alloc] at y0
  have HK := hide ((unhide HX).trans (unhide HY))
  have HV := hide (hv.keepF (unhide HK))
  obtain ⟨bb, boff, bcap, be, hbb, hbc⟩ := (unhide HV).cells (by simp)
  simp only [Value.slice.injEq] at be
  obtain ⟨rfl, _, rfl⟩ := be
  have q0 := hbc 0 a rfl
  have q1 := hbc 1 b rfl
  simp only [Nat.add_zero] at q0
  have HBC := hide hbc
  clear hv hxc hyc hbc hxb hyb HX HY
  simp only [List.length_cons, List.length_nil, Nat.zero_add] at *
  go_enter Tryd.func72, Tryd.ntmps72
  go_wp2_with fail
  generalize (w.alloc (.cells #[.slice so sl sc] 24)).alloc (.cells #[.int .i64 15, .int .i64 n, str s, .slice ao kl cap] 78) = w1 at y0 HK HV hbb HBC q0 q1 ⊢
  go_loopw [9] (fun i wr => ∃ j : Nat, j ≤ 2 ∧ i = .int .i64 j ∧ Hid (∀ i, i < j → [a, b][i]? ≠ some 0) ∧ wr = w1) (fun i _ => 2 - (intOf i).toNat)
  case atStart => exact ⟨0, Nat.zero_le _, rfl, fun i hi => by omega, rfl⟩
  case round =>
    obtain ⟨j, hj, rfl, HN, rfl⟩ := hrel
    by_cases hlt : j < 2
    · obtain ⟨x, hx⟩ : ∃ x, [a, b][j]? = some x := ⟨_, List.getElem?_eq_getElem (by simpa using hlt)⟩
      have qx := (unhide HBC) j x hx
      have i1 : (j : Int) < 2 := by omega
      have i0 : (0 : Int) ≤ (j : Int) := by omega
      have HX := hide hx
      by_cases h0 : x = 0
      · subst h0
        have HW := hide (work_zero (S := S) (op := 15) (h := h) (by decide) (contains_at hx))
        clear hx
        go_wp2_with fail
        go_ret2
        refine ⟨?_, unhide HK⟩
        rw [unhide HW]
        exact worked_no rfl
      · have e0 : (x == 0) = false := by simpa using h0
        have HN2 : Hid (∀ i, i < j + 1 → [a, b][i]? ≠ some 0) := fun i hi => by
          by_cases hij : i = j
          · subst hij
            rw [unhide HX]
            simpa using h0
          · exact (unhide HN) i (by omega)
        clear hx h0
        go_wp2_with fail
        go_roundw
        case rel => exact ⟨j + 1, by omega, by go_num, HN2, by trivial⟩
        case measure => simp [intOf] at *; omega
    · have HNC := hide (contains_not (ks := [a, b]) (fun i hi => (unhide HN) i (by simp at hi; omega)))
      have i1 : ¬ (j : Int) < 2 := by omega
      have i0 : (0 : Int) ≤ (j : Int) := by omega
      clear hlt
      by_cases h0 : a = b
      · have b0 : (a == b) = true := by simpa using h0
        by_cases h1 : a ≠ 2
        · have b1 : (a != 2) = true := by simpa using h1
          have HW : Hid (workG S 15 h [a, b] = some 2) := by show _ = _; have := unhide HNC; simp_all [workG]
          clear h0 h1
          go_wp2_with fail
          go_quiet (fail)
          go_wp2
          go_ret2
          refine ⟨?_, (unhide HK).drewN _⟩
          rw [unhide HW]
          exact worked_yes rfl
        · have b1 : (a != 2) = false := by simpa using h1
          have HW : Hid (workG S 15 h [a, b] = none) := by show _ = _; have := unhide HNC; simp_all [workG]
          clear h0 h1
          go_wp2_with fail
          go_quiet (fail)
          go_wp2
          go_ret2
          refine ⟨?_, (unhide HK).drewN _⟩
          rw [unhide HW]
          exact worked_no rfl
      · have b0 : (a == b) = false := by simpa using h0
        have HW : Hid (workG S 15 h [a, b] = none) := by show _ = _; have := unhide HNC; simp_all [workG]
        clear h0
        go_wp2_with fail
        go_quiet (fail)
        go_wp2
        go_ret2
        refine ⟨?_, (unhide HK).drewN _⟩
        rw [unhide HW]
        exact worked_no rfl

end Go.Proofs.YtjhppnecadnekaaDoor
