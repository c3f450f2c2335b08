import Derived.Test.YtljoacpaehmbdaaGreatDoorJzao
import Derived.Test.YtljoacpaehmbdaaGreatDoorTb
import Derived.Test.YtljoacpaehmbdaaGreatDoorJzaj
namespace Go.Proofs.YtljoacpaehmbdaaGreatDoor
open Go.RowKit Go.Maps

theorem refField_no (S : List FieldA) (sv : Value) (nm : Txt) (w : World) (h : FldsAt w sv S) (hl : S.length ≤ 8) (hno : fieldOf S nm = none) :
    Calls Tryz.prog 55 #[.agg #[sv], str nm] w fun e w' => e = .returned (.int .i64 (-1)) ∧ Keeps (fun _ => False) w w' :=
  (refField_v S sv nm w h hl).mono fun e w' ⟨⟨i, he, hi⟩, hk⟩ => ⟨(by
    rcases hi with ⟨_, rfl⟩ | ⟨k, f, _, hs, _⟩
    · exact he
    · rw [hno] at hs
      exact absurd hs (by simp)), hk⟩
theorem refField_at (S : List FieldA) (hS : schemaB S = true) (sv : Value) (nm : Txt) (w : World) (h : FldsAt w sv S) (hl : S.length ≤ 8) (kf : Nat) (d : FieldA) (hkf : S[kf]? = some d) (hd : fieldOf S nm = some d) :
    Calls Tryz.prog 55 #[.agg #[sv], str nm] w fun e w' => e = .returned (.int .i64 (kf : Int)) ∧ Keeps (fun _ => False) w w' :=
  (refField_v S sv nm w h hl).mono fun e w' ⟨⟨i, he, hi⟩, hk⟩ => ⟨(by
    rcases hi with ⟨hno, _⟩ | ⟨k, f, h1, h2, rfl⟩
    · rw [hno] at hd; cases hd
    · have e1 := idx_some hS h1 h2
      have e2 := idx_some hS hkf hd
      rw [e1] at e2
      cases e2
      exact he), hk⟩
theorem zeroK_err {p : KA × Int} {E : Int} (h : p.2 = E) (h0 : E ≠ 0) : zeroK p = (⟨0, false⟩, E) := by
  unfold zeroK
  rw [if_pos (by rw [h]; exact h0), h]
theorem zeroK_ok {p : KA × Int} {T : Int} {O : Bool} (h : p = (⟨T, O⟩, 0)) : zeroK p = (⟨T, O⟩, 0) := by
  unfold zeroK
  rw [h]
  rfl
end Go.Proofs.YtljoacpaehmbdaaGreatDoor
