import Derived.Test.YtabjomgikljdhaaDoorJa
namespace Go.Proofs.YtabjomgikljdhaaDoor
open Go.RowKit Go.Maps

/-- The byte that the escape at a place means (a \ stands there), and how many bytes it takes; 0: none. -/
def escB (t : Txt) (a : Nat) : Int × Int :=
  match t[a + 1]? with
  | none => (0, 0)
  | some c =>
    if num c = 34 then (34, 2) else if num c = 92 then (92, 2) else if num c = 110 then (10, 2) else if num c = 116 then (9, 2)
    else if num c = 120 then
      match t[a + 2]?, t[a + 3]? with
      | some h, some l => if hexB (num h) < 0 ∨ hexB (num l) < 0 then (0, 0) else (16 * hexB (num h) + hexB (num l), 4)
      | _, _ => (0, 0)
    else (0, 0)

theorem hexB_range (c : Int) : -1 ≤ hexB c ∧ hexB c ≤ 15 := by
  unfold hexB
  repeat' split
  all_goals omega

theorem escB_in (t : Txt) (a : Nat) {c h l : UInt8} (e1 : t[a + 1]? = some c) (e2 : t[a + 2]? = some h) (e3 : t[a + 3]? = some l) (hc : num c = 120) :
    escB t a = if hexB (num h) < 0 ∨ hexB (num l) < 0 then (0, 0) else (16 * hexB (num h) + hexB (num l), 4) := by
  simp [escB, e1, e2, e3, hc]

end Go.Proofs.YtabjomgikljdhaaDoor
