import Derived.Test.YtafniangljmjeabDoorJi
import Derived.Test.YtafniangljmjeabDoorDf
import Derived.Test.YtafniangljmjeabDoorDi
namespace Go.Proofs.YtafniangljmjeabDoor
open Go.RowKit Go.Maps

/-- The letter of a type. -/
def letR (t : Int) : UInt8 := if t = 1 then 105 else if t = 2 then 98 else 115
theorem kind_v (t : Int) (w : World) : Calls Tryd.prog 83 #[.int .i64 t] w fun e w' => e = .returned (str [letR t]) ∧ w' = w := by
  by_cases h1 : t = 1
  · subst h1
    go_enter Tryd.func83, Tryd.ntmps83
    go_wp2
    go_ret
    exact ⟨rfl, rfl⟩
  · by_cases h2 : t = 2
    · subst h2
      go_enter Tryd.func83, Tryd.ntmps83
      go_wp2
      go_ret
      exact ⟨rfl, rfl⟩
    · have b1 : (t == 1) = false := by simpa using h1
      have b2 : (t == 2) = false := by simpa using h2
      have HE : Hid (letR t = 115) := by show _ = _; unfold letR; rw [if_neg h1, if_neg h2]
      clear h1 h2
      go_enter Tryd.func83, Tryd.ntmps83
      go_wp2
      go_ret
      rw [unhide HE]
      exact ⟨rfl, rfl⟩
set_option maxRecDepth 100000 in
theorem refTarget_v (l : List ValA) (v : Value) (w : World) (h : ValsAt w v l) (k : Nat) (x : ValA) (hx : l[k]? = some x) (hl : l.length ≤ 96) (h0 : 0 ≤ x.n) (h1 : x.n ≤ 255) : Calls Tryd.prog 32 #[v, .int .i64 (k : Int)] w fun e w' => e = .returned (.int .i64 ((k + 1 + x.n.toNat : Nat) : Int)) ∧ Keeps (fun _ => False) w w' := by
  obtain ⟨ao, cap, rfl⟩ := RowAt.form h
  have hk := (List.getElem?_eq_some_iff.1 hx).1
  obtain ⟨b, off, c, e, hbl, hc⟩ := h.cells (by omega)
  simp at e
  obtain ⟨rfl, rfl⟩ := e
  have c1 := (hc k x hx).2.1
  have i2 : (k : Int) < (l.length : Int) := by omega
  have i0' : (0 : Int) ≤ (k : Int) := by omega
  clear hc
  go_enter Tryd.func32, Tryd.ntmps32
  go_wp2
  go_ret
  exact ⟨ret_int (by omega), Keeps.refl _ _⟩

end Go.Proofs.YtafniangljmjeabDoor
