import Derived.Test.YtgdabnkjipcbhaaGreatDoorQb
namespace Go.Proofs.YtgdabnkjipcbhaaGreatDoor
open Go.RowKit Go.Maps

def exsT : EL → List Txt
  | .nil => []
  | .cons op n s k r => printE op n s k :: exsT r
def exsC : EL → Int
  | .nil => 0
  | .cons op n s k r => if checkE (.cons op n s k .nil) = 0 then exsC r else checkE (.cons op n s k .nil)
theorem exsT_len : ∀ l : EL, (exsT l).length = l.len
  | .nil => rfl
  | .cons _ _ _ _ r => by simp [exsT, EL.len, exsT_len r]
/-- The reference's text. -/
def refT (k : Int) (W O B : EL) (d : Bool) (l : Int) : Txt :=
  (match exsT W with | [] => [] | t :: _ => whereT ++ [32] ++ t ++ [32]) ++ verbT k ++ (match exsT O with | [] => [] | t :: _ => [32] ++ t) ++ (match exsT B with | [] => [] | t :: _ => [32] ++ byT ++ [32] ++ t) ++ (if d then [32] ++ downT else []) ++ (if k = 1 ∧ 0 ≤ l then [32] ++ limitT ++ [32] ++ decimal l else [])
theorem ref_text (k : Int) (W O B : EL) (d : Bool) (l : Int) (hW : W.len ≤ 1) (hO : O.len ≤ 1) (hB : B.len ≤ 1) : joinB (piecesQ k W O B d l) = refT k W O B d l := by
  have key : ∀ q : EL, q.len ≤ 1 → (q = .nil ∨ ∃ op n s kd, q = .cons op n s kd .nil) := fun q hq => by
    cases q with
    | nil => exact Or.inl rfl
    | cons op n s kd r =>
      cases r with
      | nil => exact Or.inr ⟨op, n, s, kd, rfl⟩
      | cons _ _ _ _ _ => simp [EL.len] at hq
  unfold piecesQ refT
  rcases key W hW with rfl | ⟨_, _, _, _, rfl⟩ <;> rcases key O hO with rfl | ⟨_, _, _, _, rfl⟩ <;> rcases key B hB with rfl | ⟨_, _, _, _, rfl⟩ <;> cases d <;> by_cases h : k = 1 ∧ 0 ≤ l <;> simp [ahd, exsT, joinB, h]
theorem ref_err (W O B : EL) (hW : W.len ≤ 1) (hO : O.len ≤ 1) (hB : B.len ≤ 1) : exsC ((W.app O).app B) = errQ W O B := by
  have key : ∀ q : EL, q.len ≤ 1 → (q = .nil ∨ ∃ op n s kd, q = .cons op n s kd .nil) := fun q hq => by
    cases q with
    | nil => exact Or.inl rfl
    | cons op n s kd r =>
      cases r with
      | nil => exact Or.inr ⟨op, n, s, kd, rfl⟩
      | cons _ _ _ _ _ => simp [EL.len] at hq
  unfold errQ
  rcases key W hW with rfl | ⟨_, _, _, _, rfl⟩ <;> rcases key O hO with rfl | ⟨_, _, _, _, rfl⟩ <;> rcases key B hB with rfl | ⟨_, _, _, _, rfl⟩ <;> simp only [EL.app, exsC, errA, if_true]
  all_goals (repeat' split) <;> first | rfl | omega
end Go.Proofs.YtgdabnkjipcbhaaGreatDoor
