import Derived.Test.YtoempeobaknkcaaGreatDoorJyar
import Derived.Test.YtoempeobaknkcaaGreatDoorPg
import Derived.Test.YtoempeobaknkcaaGreatDoorJyah
import Derived.Test.YtoempeobaknkcaaGreatDoorJyat
namespace Go.Proofs.YtoempeobaknkcaaGreatDoor
open Go.RowKit Go.Maps

/-- The kind of a statement's first expression on a row; 0, if there is none. -/
def headG (S : List FieldA) (rk : List Int) : EL → Option Int
  | .nil => some 0
  | .cons o _ s kids _ => nodeG S rk o s kids
/-- Does a statement by itself go wrong on a row? (Of what its operation asks of its field.) -/
def fieldW (S : List FieldA) (op : Int) (f : Txt) (k : Int) : Bool := match fieldOf S f with
  | none => true
  | some d => if op = 5 then !d.opt else if op = 1 then k != d.type && (k != 0 || !d.opt) else d.type != 1 || k != 1
def wrongK (S : List FieldA) (op : Int) (f : Txt) : Option Int → Bool
  | none => true
  | some k => if op = 6 ∨ op = 7 then false else if op = 8 then k != 2 else fieldW S op f k
def wrongG (S : List FieldA) (rk : List Int) (op : Int) (f : Txt) (x : EL) : Bool := wrongK S op f (headG S rk x)
theorem wrongK_f {S : List FieldA} {op : Int} {f : Txt} {k : Int} (h : op = 1 ∨ op = 2 ∨ op = 3 ∨ op = 4 ∨ op = 5) : wrongK S op f (some k) = fieldW S op f k := by
  unfold wrongK
  simp only
  rw [if_neg (by omega), if_neg (by omega)]

end Go.Proofs.YtoempeobaknkcaaGreatDoor
namespace Go.Proofs.YtoempeobaknkcaaGreatDoor
open Go.RowKit Go.Maps

theorem field_at {S : List FieldA} {nm : Txt} {d : FieldA} (h : fieldOf S nm = some d) : ∃ k : Nat, S[k]? = some d := by
  unfold fieldOf at h
  exact List.mem_iff_getElem?.1 (List.mem_of_find?_eq_some h)

end Go.Proofs.YtoempeobaknkcaaGreatDoor
namespace Go.Proofs.YtoempeobaknkcaaGreatDoor
open Go.RowKit Go.Maps

theorem refField_no (S : List FieldA) (sv : Value) (nm : Txt) (w : World) (h : FldsAt w sv S) (hl : S.length ≤ 8) (hno : fieldOf S nm = none) :
    Calls Tryz.prog 64 #[.agg #[sv], str nm] w fun e w' => e = .returned (.int .i64 (-1)) ∧ Keeps (fun _ => False) w w' :=
  (refField_v S sv nm w h hl).mono fun e w' ⟨⟨i, he, hi⟩, hk⟩ => ⟨(by
    rcases hi with ⟨_, rfl⟩ | ⟨k, f, _, hs, _⟩
    · exact he
    · rw [hno] at hs
      exact absurd hs (by simp)), hk⟩
theorem refField_at (S : List FieldA) (hS : schemaB S = true) (sv : Value) (nm : Txt) (w : World) (h : FldsAt w sv S) (hl : S.length ≤ 8) (kf : Nat) (d : FieldA) (hkf : S[kf]? = some d) (hd : fieldOf S nm = some d) :
    Calls Tryz.prog 64 #[.agg #[sv], str nm] w fun e w' => e = .returned (.int .i64 (kf : Int)) ∧ Keeps (fun _ => False) w w' :=
  (refField_v S sv nm w h hl).mono fun e w' ⟨⟨i, he, hi⟩, hk⟩ => ⟨(by
    rcases hi with ⟨hno, _⟩ | ⟨k, f, h1, h2, rfl⟩
    · rw [hno] at hd; cases hd
    · have e1 := idx_some hS h1 h2
      have e2 := idx_some hS hkf hd
      rw [e1] at e2
      cases e2
      exact he), hk⟩
theorem zeroK_err {p : KA × Int} {E : Int} (h : p.2 = E) (h0 : E ≠ 0) : zeroK p = (⟨0, false⟩, E) := by
  unfold zeroK
  rw [if_pos (by rw [h]; exact h0), h]
theorem zeroK_ok {p : KA × Int} {T : Int} {O : Bool} (h : p = (⟨T, O⟩, 0)) : zeroK p = (⟨T, O⟩, 0) := by
  unfold zeroK
  rw [h]
  rfl
end Go.Proofs.YtoempeobaknkcaaGreatDoor
