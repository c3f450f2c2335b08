import Derived.Test.YtafniangljmjeaaDoorDi
import Derived.Test.YtafniangljmjeaaDoorDj
namespace Go.Proofs.YtafniangljmjeaaDoor
open Go.RowKit Go.Maps

/-- What all of package code wants of the world. -/
structure Env (w : World) : Prop where
  ops : Ops w
  types : Types w
theorem Env.keepF {w w' : World} (h : Env w) (hk : Keeps (fun _ => False) w w') : Env w' := ⟨h.ops.keepF hk, h.types.keepF hk⟩
theorem encC_len (l : List ValA) : (encC l).1.length ≤ 96 := by
  unfold encC
  repeat' split
  all_goals (simp only [List.length_nil]; omega)
set_option maxRecDepth 100000 in
set_option maxHeartbeats 1000000 in
theorem encodes_walk (l : List ValA) (hl : l.length ≤ 4398046511104) (hI : InR l) (v : Value) (w : World) (hE : Env w) (h : ValsAt w v l) :
    Calls Tryd.prog 3 #[v] w fun e w' => e = .returned (.bool true) ∧ Keeps (fun _ => False) w w' := by
  have HQ := hide (copied_v w v l h hl)
  have HV := hide h
  have HE := hide hE
  obtain ⟨ao, cap, rfl⟩ := RowAt.form h
  clear h hE
  go_enter Tryd.func3, Tryd.ntmps3
  go_wp2_with fail
  refine (unhide HQ).mono ?_
  rintro e w1 ⟨v1, rfl, ho1, hk1⟩
  have HC := hide (encode_v l v1 w1 ((unhide HE).keepF hk1).ops ((unhide HE).keepF hk1).types (rowAt_own ho1) hI)
  have HK1 := hide hk1
  clear ho1 hk1 HQ
  go_wp2_with fail
  refine (unhide HC).mono ?_
  rintro e w2 ⟨b2, rfl, ho2, hk2⟩
  have HK2 := hide ((unhide HK1).trans hk2)
  have HB2 := hide (rowAt_own ho2)
  have HC2 := hide (refEncode_v l (.slice ao l.length cap) w2 ((unhide HV).keepF (unhide HK2)) hI)
  clear ho2 hk2 HC
  go_wp2_with fail
  refine (unhide HC2).mono ?_
  rintro e w3 ⟨b3, rfl, ho3, hk3⟩
  have HK3 := hide ((unhide HK2).trans hk3)
  have HQ3 := hide (eqBytes_any w3 b2 b3 (encC l).1 (encC l).1 (RowAt.keepF (unhide HB2) hk3) (rowAt_own ho3) (by have := encC_len l; unfold maxLen; omega))
  rw [decide_eq_true rfl] at HQ3
  clear ho3 hk3 HC2
  generalize (encC l).2 = E at *
  go_wp2_with (go_at_call 12; refine (unhide HQ3).mono ?_; rintro e w4 ⟨rfl, nn, rfl⟩)
  go_ret
  exact ⟨rfl, (unhide HK3).drewN _⟩

end Go.Proofs.YtafniangljmjeaaDoor
