import Derived.Test.YtnaajeldbgmdjaaDoorKg
import Derived.Test.YtnaajeldbgmdjaaDoorKj
import Derived.Test.YtnaajeldbgmdjaaDoorEx
namespace Go.Proofs.YtnaajeldbgmdjaaDoor
open Go.RowKit Go.Maps

theorem Tryd.info90 : (Tryd.prog.info? 90).map (fun i => (i.zero, i.size, i.bytes)) = some (some (kindV ⟨0, false⟩), 2, 16) := by kernel_rfl
/-- A list of kinds, made new. -/
theorem run_mkK (n : Nat) (hn : n ≤ 1000) (w : World) : ∃ c : Array Value, c.size = n * 2 ∧ (Instr.makeSlice 119 (.int .i64 (n : Int)) (.int .i64 (n : Int))).run Tryd.prog w = .ok (.slice (some ⟨w.heap.size, 0, none⟩) n n) (w.alloc (.cells c 90)) := by
  obtain ⟨i0, hi, hz0, hz1, hz2⟩ := info_parts Tryd.info90
  have q := run_make (P := Tryd.prog) w 119 90 i0 _ Tryd.underlying119 hi hz0 .i64 .i64 (n : Int) (n : Int) (by omega) (by omega) (by rw [hz2]; omega) (by omega)
  rw [hz1] at q
  have e : ((n : Int)).toNat = n := by omega
  rw [e] at q
  exact ⟨_, by rw [size_madeCells], q⟩
/-- This function value is that rule. -/
def RuleV (w : World) (j : Nat) (r : RuleA) (fv : Value) : Prop := match r with
  | .takes is ts => ∃ tb ib tv, fv = .func (.func 103) #[] #[.pointer (some ⟨tb, 0, none⟩), .pointer (some ⟨ib, 0, none⟩)] ∧ ib < w.heap.size ∧ tb < w.heap.size ∧ w.cell? ⟨ib, 0, none⟩ = some (.int .i64 is) ∧ w.cell? ⟨tb, 0, none⟩ = some tv ∧ IntsAt w tv ts
  | .compares ts => ∃ tb tv, fv = .func (.func 109) #[] #[.pointer (some ⟨tb, 0, none⟩)] ∧ tb < w.heap.size ∧ w.cell? ⟨tb, 0, none⟩ = some tv ∧ IntsAt w tv ts
  | .field => fv = .func (.func 90) #[.pointer (some ⟨j, 0, none⟩)] #[]
  | .has => fv = .func (.func 91) #[.pointer (some ⟨j, 0, none⟩)] #[]
  | .orElse => fv = .func (.func 93) #[] #[]
  | .pick => fv = .func (.func 94) #[] #[]
theorem RuleV.keepF {w w' : World} {j : Nat} {r : RuleA} {fv : Value} (h : RuleV w j r fv) (hk : Keeps (fun _ => False) w w') : RuleV w' j r fv := by
  cases r with
  | takes is ts =>
    obtain ⟨tb, ib, tv, e, h1, h2, h3, h4, h5⟩ := h
    exact ⟨tb, ib, tv, e, Nat.lt_of_lt_of_le h1 hk.size, Nat.lt_of_lt_of_le h2 hk.size, (hk.cell h1 id).trans h3, (hk.cell h2 id).trans h4, h5.keepF hk⟩
  | compares ts =>
    obtain ⟨tb, tv, e, h2, h4, h5⟩ := h
    exact ⟨tb, tv, e, Nat.lt_of_lt_of_le h2 hk.size, (hk.cell h2 id).trans h4, h5.keepF hk⟩
  | field => exact h
  | has => exact h
  | orElse => exact h
  | pick => exact h
/-- A judge over a schema. -/
structure JudgeAt (w : World) (j mb nn tab : Nat) (S : List FieldA) : Prop where
  map : MapAt w j mb nn S
  lt : tab < w.heap.size
  exprs : w.cell? ⟨j, 1, none⟩ = some (.slice (some ⟨tab, 0, none⟩) 26 26)
  rules : ∀ (m : Nat) (r : RuleA), (ruleL[m]?).join = some r → ∃ fv, w.cell? ⟨tab, m, none⟩ = some fv ∧ RuleV w j r fv
theorem JudgeAt.keepF {w w' : World} {j mb nn tab : Nat} {S : List FieldA} (h : JudgeAt w j mb nn tab S) (hk : Keeps (fun _ => False) w w') : JudgeAt w' j mb nn tab S :=
  ⟨h.map.keepF hk, Nat.lt_of_lt_of_le h.lt hk.size, (hk.cell h.map.lt id).trans h.exprs, fun m r hr => by
    obtain ⟨fv, h1, h2⟩ := h.rules m r hr
    exact ⟨fv, (hk.cell h.lt id).trans h1, h2.keepF hk⟩⟩
/-- The kinds of the kids, so far. -/
theorem kindsP_step (S : List FieldA) (op n : Int) (s : Txt) (kids rest : EL) (done : List KA) (all : List KA × Int)
    (h : all = if (kindsP S (.cons op n s kids rest)).2 ≠ 0 then ([], (kindsP S (.cons op n s kids rest)).2) else (done ++ (kindsP S (.cons op n s kids rest)).1, 0)) :
    ((kindP S op s kids).2 ≠ 0 → all = ([], (kindP S op s kids).2)) ∧ ((kindP S op s kids).2 = 0 → all = if (kindsP S rest).2 ≠ 0 then ([], (kindsP S rest).2) else (done ++ [(kindP S op s kids).1] ++ (kindsP S rest).1, 0)) := by
  rw [kindsP_cons] at h
  constructor
  · intro h0
    rw [if_pos h0] at h
    simpa [h0] using h
  · intro h0
    have e : ∀ A B : List KA × Int, (if (kindP S op s kids).2 ≠ 0 then A else B) = B := fun A B => if_neg (by simp [h0])
    simp only [e] at h
    by_cases h1 : (kindsP S rest).2 = 0
    · simp [h1] at h ⊢
      exact h
    · rw [if_pos h1]
      simpa [h1] using h
end Go.Proofs.YtnaajeldbgmdjaaDoor
