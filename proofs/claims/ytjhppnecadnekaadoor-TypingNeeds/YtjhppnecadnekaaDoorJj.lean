import Derived.Test.YtjhppnecadnekaaDoorJm
import Derived.Test.YtjhppnecadnekaaDoorJh
import Derived.Test.YtjhppnecadnekaaDoorJi
namespace Go.Proofs.YtjhppnecadnekaaDoor
open Go.RowKit Go.Maps

set_option maxRecDepth 100000 in
set_option maxHeartbeats 4000000 in
theorem worked25 (S : List FieldA) (so : Option Addr) (sl sc : Nat) (n : Int) (s : Txt) (ao : Option Addr) (kl cap : Nat) (h : Int × Txt) (a b c : Int) (v : Value) (w : World) (hv : IntsAt w v [a, b, c]) :
    Calls Tryd.prog 72 #[.agg #[.slice so sl sc], exV 25 n s (.slice ao kl cap), v] w fun e w' => Worked e (workG S 25 h [a, b, c]) ∧ Keeps (fun _ => False) w w' := by
  obtain ⟨vo, vc, rfl⟩ := RowAt.form hv
  obtain ⟨HX, hxb, hxc⟩ := boxedT w #[.slice so sl sc] 24
  obtain ⟨HY, hyb, hyc⟩ := boxedT (w.alloc (.cells #[.slice so sl sc] 24)) #[.int .i64 25, .int .i64 n, str s, .slice ao kl cap] 78
  have y0 := hyc 0 (.int .i64 25) rfl
  rw [World.size_alloc] at y0
  have HK := hide ((unhide HX).trans (unhide HY))
  have HV := hide (hv.keepF (unhide HK))
  obtain ⟨bb, boff, bcap, be, hbb, hbc⟩ := (unhide HV).cells (by simp)
  simp only [Value.slice.injEq] at be
  obtain ⟨rfl, _, rfl⟩ := be
  have q0 := hbc 0 a rfl
  have q1 := hbc 1 b rfl
  have q2 := hbc 2 c rfl
  simp only [Nat.add_zero] at q0
  have HBC := hide hbc
  clear hv hxc hyc hbc hxb hyb HX HY
  simp only [List.length_cons, List.length_nil, Nat.zero_add] at *
  go_enter Tryd.func72, Tryd.ntmps72
  go_wp2_with fail
  generalize (w.alloc (.cells #[.slice so sl sc] 24)).alloc (.cells #[.int .i64 25, .int .i64 n, str s, .slice ao kl cap] 78) = w1 at y0 HK HV hbb HBC q0 q1 q2 ⊢
  go_loopw [9] (fun i wr => ∃ j : Nat, j ≤ 3 ∧ i = .int .i64 j ∧ Hid (∀ i, i < j → [a, b, c][i]? ≠ some 0) ∧ wr = w1) (fun i _ => 3 - (intOf i).toNat)
  case atStart => exact ⟨0, Nat.zero_le _, rfl, fun i hi => by omega, rfl⟩
  case round =>
    obtain ⟨j, hj, rfl, HN, rfl⟩ := hrel
    by_cases hlt : j < 3
    · obtain ⟨x, hx⟩ : ∃ x, [a, b, c][j]? = some x := ⟨_, List.getElem?_eq_getElem (by simpa using hlt)⟩
      have qx := (unhide HBC) j x hx
      have i1 : (j : Int) < 3 := by omega
      have i0 : (0 : Int) ≤ (j : Int) := by omega
      have HX := hide hx
      by_cases h0 : x = 0
      · subst h0
        have HW := hide (work_zero (S := S) (op := 25) (h := h) (by decide) (contains_at hx))
        clear hx
        go_wp2_with fail
        go_ret2
        refine ⟨?_, unhide HK⟩
        rw [unhide HW]
        exact worked_no rfl
      · have e0 : (x == 0) = false := by simpa using h0
        have HN2 : Hid (∀ i, i < j + 1 → [a, b, c][i]? ≠ some 0) := fun i hi => by
          by_cases hij : i = j
          · subst hij
            rw [unhide HX]
            simpa using h0
          · exact (unhide HN) i (by omega)
        clear hx h0
        go_wp2_with fail
        go_roundw
        case rel => exact ⟨j + 1, by omega, by go_num, HN2, by trivial⟩
        case measure => simp [intOf] at *; omega
    · have HNC := hide (contains_not (ks := [a, b, c]) (fun i hi => (unhide HN) i (by simp at hi; omega)))
      have i1 : ¬ (j : Int) < 3 := by omega
      have i0 : (0 : Int) ≤ (j : Int) := by omega
      clear hlt
      by_cases h0 : a = 2
      · have b0 : (a != 2) = false := by simpa using h0
        by_cases h1 : b = c
        · have b1 : (b != c) = false := by simpa using h1
          have HW : Hid (workG S 25 h [a, b, c] = some b) := by show _ = _; have := unhide HNC; simp_all [workG]
          clear h0 h1
          go_wp2_with fail
          go_quiet (fail)
          go_wp2
          go_ret2
          refine ⟨?_, (unhide HK).drewN _⟩
          rw [unhide HW]
          exact worked_yes rfl
        · have b1 : (b != c) = true := by simpa using h1
          have HW : Hid (workG S 25 h [a, b, c] = none) := by show _ = _; have := unhide HNC; simp_all [workG]
          clear h0 h1
          go_wp2_with fail
          go_quiet (fail)
          go_wp2
          go_ret2
          refine ⟨?_, (unhide HK).drewN _⟩
          rw [unhide HW]
          exact worked_no rfl
      · have b0 : (a != 2) = true := by simpa using h0
        have HW : Hid (workG S 25 h [a, b, c] = none) := by show _ = _; have := unhide HNC; simp_all [workG]
        clear h0
        go_wp2_with fail
        go_quiet (fail)
        go_wp2
        go_ret2
        refine ⟨?_, (unhide HK).drewN _⟩
        rw [unhide HW]
        exact worked_no rfl

end Go.Proofs.YtjhppnecadnekaaDoor
namespace Go.Proofs.YtjhppnecadnekaaDoor
open Go.RowKit Go.Maps

set_option maxRecDepth 100000 in
set_option maxHeartbeats 4000000 in
theorem worked20 (S : List FieldA) (hl8 : S.length ≤ 8) (so : Option Addr) (sc : Nat) (n : Int) (s : Txt) (kb koff cap : Nat) (hop : Int) (hs : Txt) (a b : Int) (v : Value) (w : World) (hv : IntsAt w v [a, b]) (hS : FldsAt w (.slice so S.length sc) S) (hkb : kb < w.heap.size) (hk0 : w.cell? ⟨kb, koff, none⟩ = some (.int .i64 hop)) (hk2 : w.cell? ⟨kb, koff + 2, none⟩ = some (str hs)) :
    Calls Tryd.prog 72 #[.agg #[.slice so S.length sc], exV 20 n s (.slice (some ⟨kb, koff, none⟩) 2 cap), v] w fun e w' => Worked e (workG S 20 (hop, hs) [a, b]) ∧ Keeps (fun _ => False) w w' := by
  obtain ⟨vo, vc, rfl⟩ := RowAt.form hv
  obtain ⟨HX, hxb, hxc⟩ := boxedT w #[.slice so S.length sc] 24
  obtain ⟨HY, hyb, hyc⟩ := boxedT (w.alloc (.cells #[.slice so S.length sc] 24)) #[.int .i64 20, .int .i64 n, str s, .slice (some ⟨kb, koff, none⟩) 2 cap] 78
  have y0 := hyc 0 (.int .i64 20) rfl
  have y3 := hyc 3 (.slice (some ⟨kb, koff, none⟩) 2 cap) rfl
  have x0 := ((unhide HY).cell hxb id).trans (hxc 0 (.slice so S.length sc) rfl)
  rw [World.size_alloc] at y0 y3 hyb
  have HK := hide ((unhide HX).trans (unhide HY))
  have HV := hide (hv.keepF (unhide HK))
  have HS := hide (hS.keepF (unhide HK))
  have k0 := ((unhide HK).cell hkb id).trans hk0
  have k2 := ((unhide HK).cell hkb id).trans hk2
  have hkb1 := Nat.lt_of_lt_of_le hkb (unhide HK).size
  have hws : w.heap.size < ((w.alloc (.cells #[.slice so S.length sc] 24)).alloc (.cells #[.int .i64 20, .int .i64 n, str s, .slice (some ⟨kb, koff, none⟩) 2 cap] 78)).heap.size := by simp; omega
  obtain ⟨bb, boff, bcap, be, hbb, hbc⟩ := (unhide HV).cells (by simp)
  simp only [Value.slice.injEq] at be
  obtain ⟨rfl, _, rfl⟩ := be
  have q0 := hbc 0 a rfl
  have q1 := hbc 1 b rfl
  simp only [Nat.add_zero] at q0
  clear hv hxc hyc hbc hxb HX HY hS hk0 hk2
  simp only [List.length_cons, List.length_nil, Nat.zero_add] at *
  go_enter Tryd.func72, Tryd.ntmps72
  by_cases h4 : hop = 4
  · have b4 : (hop != 4) = false := by simpa using h4
    go_wp2_with fail
    generalize (w.alloc (.cells #[.slice so S.length sc] 24)).alloc (.cells #[.int .i64 20, .int .i64 n, str s, .slice (some ⟨kb, koff, none⟩) 2 cap] 78) = w1 at y0 y3 x0 HK HV HS k0 k2 hkb1 hbb q0 q1 hyb hws ⊢
    have HQ := hide (find_v S (.slice so S.length sc) hs w1.drew ((unhide HS).keepF (Keeps.refl _ w1).drew) hl8)
    go_region_held3 (fun w' => w'.cell? ⟨w.heap.size, 0, none⟩ = some (.slice so S.length sc) ∧ w'.cell? ⟨w.heap.size + 1, 3, none⟩ = some (.slice (some ⟨kb, koff, none⟩) 2 cap) ∧ w'.cell? ⟨kb, koff + 2, none⟩ = some (str hs))
      (first | (go_keep; done) | assumption)
      (first | (go_at_call 51; refine (unhide HQ).mono ?_; rintro e w2 ⟨⟨ix, rfl, hix⟩, hk2⟩; have p0 := (hk2.cell (o := 0) hws id).trans x0; have p3 := (hk2.cell (o := 3) hyb id).trans y3; have p2 := (hk2.cell hkb1 id).trans k2))
    have p0 := (hk2.cell (o := 0) hws id).trans x0
    have r0 := (hk2.cell hbb id).trans q0
    have r1 := (hk2.cell hbb id).trans q1
    have HK2 := hide ((unhide HK).trans ((Keeps.refl _ w1).drew.trans hk2))
    have HS2 := hide ((unhide HS).keepF ((Keeps.refl _ w1).drew.trans hk2))
    clear HQ hk2 q0 q1 k0 k2 y0 y3 x0
    rcases hix with ⟨hno, rfl⟩ | ⟨k, f, hkf, hsome, rfl⟩
    · have HW : Hid (workG S 20 (hop, hs) [a, b] = none) := by show _ = _; simp [workG, h4, hno]
      clear h4 hno
      go_wp2_with fail
      go_ret2
      refine ⟨?_, unhide HK2⟩
      rw [unhide HW]
      exact worked_no rfl
    · have hkl := get_lt hkf
      obtain ⟨fb, foff, fc, fe, hfb, hfc⟩ := (unhide HS2).cells (by omega)
      simp only [Value.slice.injEq] at fe
      obtain ⟨rfl, _, rfl⟩ := fe
      have f2 := (hfc k f hkf).2.2
      have ge0 : decide ((k : Int) < 0) = false := decide_eq_false (by omega)
      have i1 : (k : Int) < (S.length : Int) := by omega
      have i0 : (0 : Int) ≤ (k : Int) := by omega
      clear hfc hkf
      cases hfo : f.opt with
      | false =>
        rw [hfo] at f2
        have HW : Hid (workG S 20 (hop, hs) [a, b] = none) := by show _ = _; simp [workG, h4, hsome, hfo]
        clear h4 hsome hfo
        go_wp2_with fail
        go_ret2
        refine ⟨?_, unhide HK2⟩
        rw [unhide HW]
        exact worked_no rfl
      | true =>
        rw [hfo] at f2
        by_cases hb0 : b = 0
        · have bb0 : (b == 0) = true := by simpa using hb0
          have HW : Hid (workG S 20 (hop, hs) [a, b] = none) := by show _ = _; simp [workG, h4, hsome, hb0]
          clear h4 hsome hfo hb0
          go_wp2_with fail
          go_ret2
          refine ⟨?_, unhide HK2⟩
          rw [unhide HW]
          exact worked_no rfl
        · have bb0 : (b == 0) = false := by simpa using hb0
          by_cases ha0 : a = 0
          · have aa0 : (a == 0) = true := by simpa using ha0
            have HW : Hid (workG S 20 (hop, hs) [a, b] = some b) := by show _ = _; simp [workG, h4, hsome, hfo, hb0, ha0]
            clear h4 hsome hfo hb0 ha0
            go_wp2_with fail
            go_quiet (fail)
            go_wp2
            go_ret2
            refine ⟨?_, (unhide HK2).drewN _⟩
            rw [unhide HW]
            exact worked_yes rfl
          · have aa0 : (a == 0) = false := by simpa using ha0
            by_cases hab : a = b
            · have ab : (a == b) = true := by simpa using hab
              have HW : Hid (workG S 20 (hop, hs) [a, b] = some b) := by show _ = _; simp [workG, h4, hsome, hfo, hb0, hab]
              clear h4 hsome hfo hb0 ha0 hab
              go_wp2_with fail
              go_quiet (fail)
              go_wp2
              go_ret2
              refine ⟨?_, (unhide HK2).drewN _⟩
              rw [unhide HW]
              exact worked_yes rfl
            · have ab : (a == b) = false := by simpa using hab
              have HW : Hid (workG S 20 (hop, hs) [a, b] = none) := by show _ = _; simp [workG, h4, hsome, hb0, ha0, hab]
              clear h4 hsome hfo hb0 ha0 hab
              go_wp2_with fail
              go_quiet (fail)
              go_wp2
              go_ret2
              refine ⟨?_, (unhide HK2).drewN _⟩
              rw [unhide HW]
              exact worked_no rfl
  · have b4 : (hop != 4) = true := by simpa using h4
    have HW : Hid (workG S 20 (hop, hs) [a, b] = none) := by show _ = _; simp [workG, h4]
    go_wp2_with fail
    go_ret2
    refine ⟨?_, unhide HK⟩
    rw [unhide HW]
    exact worked_no rfl

end Go.Proofs.YtjhppnecadnekaaDoor
namespace Go.Proofs.YtjhppnecadnekaaDoor
open Go.RowKit Go.Maps

theorem kids_of {op n : Int} {s : Txt} {k : Nat} (h : rootB op n s k = true) : (k : Int) = kidsB op := by
  unfold rootB at h
  simp only [Bool.and_eq_true, decide_eq_true_eq] at h
  exact h.2.1
theorem intl1 {ks : List Int} (h : ks.length = 1) : ∃ a, ks = [a] := by
  match ks, h with
  | [a], _ => exact ⟨a, rfl⟩
theorem intl2 {ks : List Int} (h : ks.length = 2) : ∃ a b, ks = [a, b] := by
  match ks, h with
  | [a, b], _ => exact ⟨a, b, rfl⟩
theorem intl3 {ks : List Int} (h : ks.length = 3) : ∃ a b c, ks = [a, b, c] := by
  match ks, h with
  | [a, b, c], _ => exact ⟨a, b, c, rfl⟩
set_option maxRecDepth 100000 in
theorem worked_v (Z : Zone) (S : List FieldA) (hl8 : S.length ≤ 8) (so : Option Addr) (sc : Nat) (m : Nat) (n : Int) (s : Txt) (l : EL) (ao : Option Addr) (cap b off : Nat) (ks : List Int) (v : Value) (w : World) (h7 : 7 ≤ m) (h25 : m ≤ 25)
    (hroot : rootB (m : Int) n s l.len = true) (hks : ks.length = l.len) (hv : IntsAt w v ks) (hS : FldsAt w (.slice so S.length sc) S) (ha : l.len ≠ 0 → ao = some ⟨b, off, none⟩) (hx : ExIn Z w l b off) :
    Calls Tryd.prog 72 #[.agg #[.slice so S.length sc], exV (m : Int) n s (.slice ao l.len cap), v] w fun e w' => Worked e (workG S (m : Int) (headOp l) ks) ∧ Keeps (fun _ => False) w w' := by
  have hk := kids_of hroot
  have hm : m = 7 ∨ m = 8 ∨ m = 9 ∨ m = 10 ∨ m = 11 ∨ m = 12 ∨ m = 13 ∨ m = 14 ∨ m = 15 ∨ m = 16 ∨ m = 17 ∨ m = 18 ∨ m = 19 ∨ m = 20 ∨ m = 21 ∨ m = 22 ∨ m = 23 ∨ m = 24 ∨ m = 25 := by omega
  rcases hm with rfl | rfl | rfl | rfl | rfl | rfl | rfl | rfl | rfl | rfl | rfl | rfl | rfl | rfl | rfl | rfl | rfl | rfl | rfl
  · have e : l.len = 1 := by
      have : kidsB ((7 : Nat) : Int) = 1 := by decide
      omega
    obtain ⟨a, rfl⟩ := intl1 (hks.trans e)
    exact worked7 S so S.length sc n s ao l.len cap (headOp l) a v w hv
  · have e : l.len = 1 := by
      have : kidsB ((8 : Nat) : Int) = 1 := by decide
      omega
    obtain ⟨a, rfl⟩ := intl1 (hks.trans e)
    exact worked8 S so S.length sc n s ao l.len cap (headOp l) a v w hv
  · have e : l.len = 2 := by
      have : kidsB ((9 : Nat) : Int) = 2 := by decide
      omega
    obtain ⟨a, b2, rfl⟩ := intl2 (hks.trans e)
    exact worked9 S so S.length sc n s ao l.len cap (headOp l) a b2 v w hv
  · have e : l.len = 2 := by
      have : kidsB ((10 : Nat) : Int) = 2 := by decide
      omega
    obtain ⟨a, b2, rfl⟩ := intl2 (hks.trans e)
    exact worked10 S so S.length sc n s ao l.len cap (headOp l) a b2 v w hv
  · have e : l.len = 2 := by
      have : kidsB ((11 : Nat) : Int) = 2 := by decide
      omega
    obtain ⟨a, b2, rfl⟩ := intl2 (hks.trans e)
    exact worked11 S so S.length sc n s ao l.len cap (headOp l) a b2 v w hv
  · have e : l.len = 2 := by
      have : kidsB ((12 : Nat) : Int) = 2 := by decide
      omega
    obtain ⟨a, b2, rfl⟩ := intl2 (hks.trans e)
    exact worked12 S so S.length sc n s ao l.len cap (headOp l) a b2 v w hv
  · have e : l.len = 2 := by
      have : kidsB ((13 : Nat) : Int) = 2 := by decide
      omega
    obtain ⟨a, b2, rfl⟩ := intl2 (hks.trans e)
    exact worked13 S so S.length sc n s ao l.len cap (headOp l) a b2 v w hv
  · have e : l.len = 2 := by
      have : kidsB ((14 : Nat) : Int) = 2 := by decide
      omega
    obtain ⟨a, b2, rfl⟩ := intl2 (hks.trans e)
    exact worked14 S so S.length sc n s ao l.len cap (headOp l) a b2 v w hv
  · have e : l.len = 2 := by
      have : kidsB ((15 : Nat) : Int) = 2 := by decide
      omega
    obtain ⟨a, b2, rfl⟩ := intl2 (hks.trans e)
    exact worked15 S so S.length sc n s ao l.len cap (headOp l) a b2 v w hv
  · have e : l.len = 2 := by
      have : kidsB ((16 : Nat) : Int) = 2 := by decide
      omega
    obtain ⟨a, b2, rfl⟩ := intl2 (hks.trans e)
    exact worked16 S so S.length sc n s ao l.len cap (headOp l) a b2 v w hv
  · have e : l.len = 2 := by
      have : kidsB ((17 : Nat) : Int) = 2 := by decide
      omega
    obtain ⟨a, b2, rfl⟩ := intl2 (hks.trans e)
    exact worked17 S so S.length sc n s ao l.len cap (headOp l) a b2 v w hv
  · have e : l.len = 2 := by
      have : kidsB ((18 : Nat) : Int) = 2 := by decide
      omega
    obtain ⟨a, b2, rfl⟩ := intl2 (hks.trans e)
    exact worked18 S so S.length sc n s ao l.len cap (headOp l) a b2 v w hv
  · have e : l.len = 2 := by
      have : kidsB ((19 : Nat) : Int) = 2 := by decide
      omega
    obtain ⟨a, b2, rfl⟩ := intl2 (hks.trans e)
    exact worked19 S so S.length sc n s ao l.len cap (headOp l) a b2 v w hv
  · have e : l.len = 2 := by
      have : kidsB ((20 : Nat) : Int) = 2 := by decide
      omega
    obtain ⟨a, b_1, rfl⟩ := intl2 (hks.trans e)
    obtain rfl := ha (by omega)
    cases l with
    | nil => simp [EL.len] at e
    | cons hop hn hs kids rest =>
      obtain ⟨h1, _, h3, _, h5, _⟩ := hx
      rw [e]
      exact worked20 S hl8 so sc n s b off cap hop hs a b_1 v w hv hS h1 h3 h5
  · have e : l.len = 2 := by
      have : kidsB ((21 : Nat) : Int) = 2 := by decide
      omega
    obtain ⟨a, b2, rfl⟩ := intl2 (hks.trans e)
    exact worked21 S so S.length sc n s ao l.len cap (headOp l) a b2 v w hv
  · have e : l.len = 2 := by
      have : kidsB ((22 : Nat) : Int) = 2 := by decide
      omega
    obtain ⟨a, b2, rfl⟩ := intl2 (hks.trans e)
    exact worked22 S so S.length sc n s ao l.len cap (headOp l) a b2 v w hv
  · have e : l.len = 1 := by
      have : kidsB ((23 : Nat) : Int) = 1 := by decide
      omega
    obtain ⟨a, rfl⟩ := intl1 (hks.trans e)
    exact worked23 S so S.length sc n s ao l.len cap (headOp l) a v w hv
  · have e : l.len = 2 := by
      have : kidsB ((24 : Nat) : Int) = 2 := by decide
      omega
    obtain ⟨a, b2, rfl⟩ := intl2 (hks.trans e)
    exact worked24 S so S.length sc n s ao l.len cap (headOp l) a b2 v w hv
  · have e : l.len = 3 := by
      have : kidsB ((25 : Nat) : Int) = 3 := by decide
      omega
    obtain ⟨a, b2, c, rfl⟩ := intl3 (hks.trans e)
    exact worked25 S so S.length sc n s ao l.len cap (headOp l) a b2 c v w hv

end Go.Proofs.YtjhppnecadnekaaDoor
