import Derived.Test.YtafniangljmjeaaDoorCv
namespace Go.Proofs.YtafniangljmjeaaDoor
open Go.RowKit Go.Maps

def OpA.cs (f : OpA) : List Value := [str f.word, .int .i64 f.opd, .int .i64 (f.takes : Int), .int .i64 f.of, .int .i64 f.gives]
/-- The table of operations lies as its initialiser lays it. -/
structure Ops (w : World) : Prop where
  lt : 0 < w.heap.size
  cell : ∀ (i : Nat) (f : OpA), opsL[i]? = some f → ∀ (j : Nat) (x : Value), f.cs[j]? = some x → w.cell? ⟨0, i * 5 + j, none⟩ = some x
theorem Ops.keep {F : Nat → Prop} {w w' : World} (h : Ops w) (hk : Keeps F w w') (hF : ¬ F 0) : Ops w' :=
  ⟨Nat.lt_of_lt_of_le h.lt hk.size, fun i f hf j x hx => by rw [hk.cell h.lt hF]; exact h.cell i f hf j x hx⟩
theorem Ops.keepF {w w' : World} (h : Ops w) (hk : Keeps (fun _ => False) w w') : Ops w' := h.keep hk id
theorem opsL_at (m : Nat) (h : m < 27) : opsL[m]? = some (opA m) := by
  unfold opA
  rw [Int.toNat_natCast]
  have hl : m < opsL.length := h
  rw [List.getElem?_eq_getElem hl]
  rfl
theorem Ops.at {w : World} (h : Ops w) {m : Nat} (hm : m < 27) : w.cell? ⟨0, m * 5 + 1, none⟩ = some (.int .i64 (opA m).opd) ∧ w.cell? ⟨0, m * 5 + 2, none⟩ = some (.int .i64 ((opA m).takes : Int)) ∧ w.cell? ⟨0, m * 5 + 3, none⟩ = some (.int .i64 (opA m).of) ∧ w.cell? ⟨0, m * 5 + 4, none⟩ = some (.int .i64 (opA m).gives) ∧ w.cell? ⟨0, m * 5, none⟩ = some (str (opA m).word) :=
  ⟨h.cell m _ (opsL_at m hm) 1 _ rfl, h.cell m _ (opsL_at m hm) 2 _ rfl, h.cell m _ (opsL_at m hm) 3 _ rfl, h.cell m _ (opsL_at m hm) 4 _ rfl, h.cell m _ (opsL_at m hm) 0 _ rfl⟩
/-- The two numberings of operands. -/
theorem opd_cases {o : Int} (h : opdB o ≠ -1) : ((opA o).opd = 0 ∧ opdB o = 0) ∨ ((opA o).opd = 1 ∧ opdB o = 1) ∨ ((opA o).opd = 2 ∧ opdB o = 2) ∨ ((opA o).opd = 3 ∧ opdB o = 3) ∨ ((opA o).opd = 4 ∧ opdB o = 3) ∨ ((opA o).opd = 5 ∧ opdB o = 3) ∨ ((opA o).opd = 6 ∧ opdB o = 4) := by
  have h1 := opd_of o (op_cases h)
  obtain ⟨h2, h3, h4⟩ := h1
  rw [h2]
  have : (opA o).opd = 0 ∨ (opA o).opd = 1 ∨ (opA o).opd = 2 ∨ (opA o).opd = 3 ∨ (opA o).opd = 4 ∨ (opA o).opd = 5 ∨ (opA o).opd = 6 := by omega
  rcases this with e | e | e | e | e | e | e <;> simp [e]

theorem isOperation_v (o : Int) (w : World) : Calls Tryd.prog 38 #[.int .i64 o] w fun e w' => e = .returned (.bool (decide (opdB o ≠ -1))) ∧ w' = w := by
  go_enter Tryd.func38, Tryd.ntmps38
  go_wp2
  all_goals
    go_ret
    refine ⟨ret_bool ?_, rfl⟩
    apply Bool.eq_iff_iff.2
    by_cases h : opdB o = -1
    · have := opdB_out h
      simp [h] at *
      try omega
    · have := opdB_range h
      simp [h] at *
      try omega

set_option maxRecDepth 100000 in
set_option maxHeartbeats 2000000 in
theorem rightOperand_v (i : ValA) (w : World) (hO : Ops w) (ho : opdB i.kind ≠ -1) : Calls Tryd.prog 39 #[i.v] w fun e w' => e = .returned (.bool (rightB i)) ∧ Keeps (fun _ => False) w w' := by
  obtain ⟨k, n, s⟩ := i
  unfold ValA.v
  simp only at *
  obtain ⟨h1, h2⟩ := opdB_range ho
  obtain ⟨m, rfl⟩ := Int.eq_ofNat_of_zero_le (show 0 ≤ k by omega)
  obtain ⟨HX, hxb, hxc⟩ := boxed w #[.int .i64 (m : Int), .int .i64 n, str s] 52
  have f0 := hxc 0 (.int .i64 (m : Int)) rfl
  have f1 := hxc 1 (.int .i64 n) rfl
  have f2 := hxc 2 (str s) rfl
  have g1 := ((hO.keepF (unhide HX)).at (m := m) (by omega)).1
  have i0 : (0 : Int) ≤ (m : Int) := by omega
  have i1 : (m : Int) < 27 := by omega
  clear hxc hO hxb
  rcases opd_cases ho with ⟨e1, e2⟩ | ⟨e1, e2⟩ | ⟨e1, e2⟩ | ⟨e1, e2⟩ | ⟨e1, e2⟩ | ⟨e1, e2⟩ | ⟨e1, e2⟩
  all_goals
    rw [e1] at g1
    have HE := hide e2
    clear e1 e2 ho h1 h2
    go_enter Tryd.func39, Tryd.ntmps39
    go_wp2
    all_goals
      go_ret
      refine ⟨ret_bool ?_, (Keeps.refl _ _).alloc _⟩
      have e2 := unhide HE
      clear HE HX f0 f1 f2 g1
      unfold rightB
      simp only [e2]
      apply Bool.eq_iff_iff.2
      first | (simp_all; done) | (simp_all; omega) | (simp at *; omega)

set_option maxRecDepth 100000 in
set_option maxHeartbeats 1000000 in
theorem checkForm_v (i : ValA) (w : World) (hO : Ops w) : Calls Tryd.prog 26 #[i.v] w fun e w' => e = .returned (.int .i64 (formB i)) ∧ Keeps (fun _ => False) w w' := by
  obtain ⟨HX, hxb, hxc⟩ := boxed w #[.int .i64 i.kind, .int .i64 i.n, str i.s] 52
  have f0 := hxc 0 (.int .i64 i.kind) rfl
  have f1 := hxc 1 (.int .i64 i.n) rfl
  have f2 := hxc 2 (str i.s) rfl
  have HO := hide (hO.keepF (unhide HX))
  have HQ := hide (isOperation_v i.kind (w.alloc (.cells #[.int .i64 i.kind, .int .i64 i.n, str i.s] 52)))
  have HR : Hid (opdB i.kind ≠ -1 → _) := fun h => rightOperand_v i (w.alloc (.cells #[.int .i64 i.kind, .int .i64 i.n, str i.s] 52)) (unhide HO) h
  have HE : Hid (formB i = if opdB i.kind = -1 then 110 else if rightB i then 0 else 113) := rfl
  generalize formB i = E at *
  clear hxc hO hxb
  unfold ValA.v at *
  go_enter Tryd.func26, Tryd.ntmps26
  go_wp2_with fail
  refine (unhide HQ).mono ?_
  rintro e w2 ⟨rfl, rfl⟩
  by_cases h : opdB i.kind = -1
  · rw [decide_eq_false (by simpa using h)]
    have := unhide HE
    rw [if_pos h] at this
    subst this
    clear h HR
    go_wp2_with fail
    go_ret
    exact ⟨rfl, unhide HX⟩
  · rw [decide_eq_true h]
    have HC := hide (unhide HR h)
    have he := unhide HE
    rw [if_neg h] at he
    have HE2 := hide he
    clear h HR he HE
    go_wp2_with fail
    refine (unhide HC).mono ?_
    rintro e w3 ⟨rfl, hk3⟩
    have HK := hide ((unhide HX).trans hk3)
    clear hk3
    cases hr : rightB i with
    | true =>
      have := unhide HE2
      rw [hr] at this
      simp at this
      subst this
      go_wp2_with fail
      go_ret
      exact ⟨rfl, unhide HK⟩
    | false =>
      have := unhide HE2
      rw [hr] at this
      simp at this
      subst this
      go_wp2_with fail
      go_ret
      exact ⟨rfl, unhide HK⟩

end Go.Proofs.YtafniangljmjeaaDoor
