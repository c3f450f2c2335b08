import Derived.Test.YtafniangljmjeabDoorQh
import Derived.Test.YtafniangljmjeabDoorEa
namespace Go.Proofs.YtafniangljmjeabDoor
open Go.RowKit Go.Maps
set_option maxRecDepth 100000 in
set_option maxHeartbeats 2000000 in
theorem lists_walk (l : List ValA) (hl : l.length ≤ 4398046511104) (hI : InR l) (v : Value) (w : World) (hE : Env w) (hW : Wds w) (hP : Pow w) (h : ValsAt w v l) :
    Calls Tryd.prog 5 #[v] w fun e w' => e = .returned (.bool true) ∧ Keeps (fun _ => False) w w' := by
  have HQ := hide (copied_v w v l h hl)
  have HV := hide h
  have HE := hide hE
  have HW := hide hW
  have HP := hide hP
  obtain ⟨ao, cap, rfl⟩ := RowAt.form h
  clear h hE hW hP
  go_enter Tryd.func5, Tryd.ntmps5
  go_wp2_with fail
  refine (unhide HQ).mono ?_
  rintro e w1 ⟨v1, rfl, ho1, hk1⟩
  have HC2F := hide (fun (W : World) (hW : Keeps (fun _ => False) w W) => refList_v l (.slice ao l.length cap) W ((unhide HW).keepF hW) ((unhide HP).keepF hW) ((unhide HV).keepF hW) hI)
  have HC := hide (list_v l v1 w1 ((unhide HE).keepF hk1).ops ((unhide HE).keepF hk1).types ((unhide HP).keepF hk1) (rowAt_own ho1) hI)
  have HK1 := hide hk1
  generalize listA l = LA at *
  clear ho1 hk1 HQ
  go_wp2_with fail
  refine (unhide HC).mono ?_
  rintro e w2 ⟨rfl, hk2⟩
  have HK2 := hide ((unhide HK1).trans hk2)
  have HC2 := hide ((unhide HC2F) w2 (unhide HK2))
  clear hk2 HC HC2F
  obtain ⟨la, le⟩ := LA
  simp only at *
  go_wp2_with fail
  refine (unhide HC2).mono ?_
  rintro e w3 ⟨rfl, hk3⟩
  go_wp2_with fail
  go_ret
  exact ⟨rfl, (unhide HK2).trans hk3⟩

end Go.Proofs.YtafniangljmjeabDoor
