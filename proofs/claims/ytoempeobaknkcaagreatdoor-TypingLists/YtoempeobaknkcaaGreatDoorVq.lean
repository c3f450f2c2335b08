import Derived.Test.YtoempeobaknkcaaGreatDoorVp
namespace Go.Proofs.YtoempeobaknkcaaGreatDoor
open Go.RowKit Go.Maps

/-- So many numbers 3. -/
def trip : Nat → EL
  | 0 => .nil
  | j + 1 => .cons 1 3 [] .nil (trip j)
theorem trip_len : ∀ j, (trip j).len = j
  | 0 => rfl
  | j + 1 => by simp [trip, EL.len, trip_len j]
theorem trip_size : ∀ j, (trip j).size = j
  | 0 => rfl
  | j + 1 => by simp [trip, EL.size, trip_size j]
def threeC : List Value := [.int .i64 1, .int .i64 3, .string ⟨#[]⟩, .slice none 0 0]
def tripC : Nat → List Value
  | 0 => []
  | j + 1 => threeC ++ tripC j
theorem tripC_len : ∀ j, (tripC j).length = j * 4
  | 0 => rfl
  | j + 1 => by simp [tripC, threeC, tripC_len j]; omega
theorem tripC_snoc : ∀ j, tripC j ++ threeC = tripC (j + 1)
  | 0 => by simp [tripC]
  | j + 1 => by rw [show tripC (j + 1) = threeC ++ tripC j from rfl, List.append_assoc, tripC_snoc j]; rfl
theorem cs_trip {A : Nat → Prop} {w : World} {l : EL} {ys : List Value} (h : CsIn A w l ys) : ∀ j, CsIn A w ((trip j).app l) (tripC j ++ ys)
  | 0 => h
  | j + 1 => ⟨.slice none 0 0, tripC j ++ ys, rfl, ⟨none, 0, rfl, Nat.le_refl _, fun h => absurd rfl h⟩, cs_trip h j⟩
/-- One item of a row is written over. -/
theorem row_three {w : World} {B n c g j : Nat} {a b d e : Value} {ys : List Value} (h : w.ownsRow B 57 4 (.slice (some ⟨g, 0, none⟩) n c) n (tripC j ++ (a :: b :: d :: e :: ys))) :
    ((((w.setCell ⟨g, j * 4, none⟩ (.int .i64 1)).setCell ⟨g, j * 4 + 1, none⟩ (.int .i64 3)).setCell ⟨g, j * 4 + 2, none⟩ (.string ⟨#[]⟩)).setCell ⟨g, j * 4 + 3, none⟩ (.slice none 0 0)).ownsRow B 57 4 (.slice (some ⟨g, 0, none⟩) n c) n (tripC (j + 1) ++ ys) := by
  have q := ((((h.stored (j * 4) (.int .i64 1)).1.stored (j * 4 + 1) (.int .i64 3)).1.stored (j * 4 + 2) (.string ⟨#[]⟩)).1.stored (j * 4 + 3) (.slice none 0 0)).1
  have hl := tripC_len j
  rw [List.set_append_right _ _ (by omega), List.set_append_right _ _ (by omega), List.set_append_right _ _ (by omega), List.set_append_right _ _ (by omega), hl, Nat.sub_self, Nat.add_sub_cancel_left, Nat.add_sub_cancel_left, Nat.add_sub_cancel_left] at q
  rw [← tripC_snoc, List.append_assoc]
  exact q
/-- A row of expressions as a tree. -/
theorem row_slE {A : Nat → Prop} {w : World} {B : Nat} {v : Value} {l : EL} {xs : List Value} (h : w.ownsRow B 57 4 v l.len xs) (hc : CsIn A w l xs) (up : Nat) : SlE (inZ (fun _ => True)) w up v l := by
  have hrow := rowAt_own h
  obtain ⟨ao, cap, rfl⟩ := hrow.form
  refine ⟨ao, cap, rfl, hrow.room _ _ _ rfl, fun h0 => ?_⟩
  obtain ⟨g, goff, gc, e, hg, hgc⟩ := hrow.cells (by omega)
  simp at e
  obtain ⟨rfl, rfl⟩ := e
  exact ⟨g, goff, rfl, trivial, CsIn.exIn hg trivial (fun _ _ _ => trivial) hc hgc⟩
end Go.Proofs.YtoempeobaknkcaaGreatDoor
