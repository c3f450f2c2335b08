import Derived.Test.YtbgapbaeegloaabGreatDoorZf
import Derived.Test.YtbgapbaeegloaabGreatDoorZd
import Derived.Test.YtbgapbaeegloaabGreatDoorJd
namespace Go.Proofs.YtbgapbaeegloaabGreatDoor
open Go.RowKit Go.Maps
/-- The longest mark at the head of a text. -/
def mkT (T : Txt) : Txt := if 2 ≤ T.length ∧ T.take 2 ∈ marks then T.take 2 else if T.take 1 ∈ marks then T.take 1 else []

set_option maxRecDepth 100000 in
set_option maxHeartbeats 1000000 in
theorem mark7_v (t : Txt) (i : Nat) (hi : i < t.length) (hl : t.length ≤ 256) (w : World) :
    Calls Tryz.prog 22 #[str t, .int .i64 i] w fun e w' => e = .returned (str (mkT (t.drop i))) ∧ Keeps (fun _ => False) w w' := by
  obtain ⟨T, HT⟩ : ∃ T : Txt, Hid (t.drop i = T) := ⟨_, hide rfl⟩
  rw [unhide HT]
  have hTl : T.length = t.length - i := by rw [← unhide HT, List.length_drop]
  have x1 : (ByteArray.mk t.toArray).extract i (i + 1) = ⟨(T.take 1).toArray⟩ := by rw [ext_str, unhide HT, show i + 1 - i = 1 by omega]
  have x2 : (ByteArray.mk t.toArray).extract i (i + 2) = ⟨(T.take 2).toArray⟩ := by rw [ext_str, unhide HT, show i + 2 - i = 2 by omega]
  have HM1 := fun w' => hide (markT (T.take 1) (by rw [List.length_take]; omega) w')
  have HM2 := fun w' => hide (markT (T.take 2) (by rw [List.length_take]; omega) w')
  obtain ⟨D, HD⟩ : ∃ D, Hid (mkT T = D) := ⟨_, rfl⟩
  rw [unhide HD]
  unfold mkT at HD
  have hi1 : (i : Int) + 1 ≤ (t.length : Int) := by omega
  by_cases h2 : 2 ≤ T.length
  · have h2' : (i : Int) + 2 ≤ (t.length : Int) := by omega
    by_cases hm : T.take 2 ∈ marks
    · rw [decide_eq_true hm] at HM2
      rw [if_pos ⟨h2, hm⟩] at HD
      generalize T.take 2 = A at *
      clear hm h2 hTl
      go_enter Tryz.func22, Tryz.ntmps22
      go_wp2_with fail
      refine (unhide (HM2 _)).mono ?_
      rintro e w1 ⟨rfl, rfl⟩
      go_wp2_with fail
      all_goals
        go_ret
        exact ⟨by rw [← unhide HD]; first | rfl | exact congrArg (fun b => Ending.returned (Value.string b)) x2 | exact congrArg (fun b => Ending.returned (Value.string b)) x1, Keeps.refl _ _⟩
    · rw [decide_eq_false hm] at HM2
      rw [if_neg (fun q => hm q.2)] at HD
      by_cases hm1 : T.take 1 ∈ marks
      · rw [decide_eq_true hm1] at HM1
        rw [if_pos hm1] at HD
        generalize T.take 2 = A at *
        generalize T.take 1 = B at *
        clear hm hm1 h2 hTl
        go_enter Tryz.func22, Tryz.ntmps22
        go_wp2_with fail
        refine (unhide (HM2 _)).mono ?_
        rintro e w1 ⟨rfl, rfl⟩
        go_wp2_with fail
        refine (unhide (HM1 _)).mono ?_
        rintro e w1 ⟨rfl, rfl⟩
        go_wp2_with fail
        all_goals
          go_ret
          exact ⟨by rw [← unhide HD]; first | rfl | exact congrArg (fun b => Ending.returned (Value.string b)) x2 | exact congrArg (fun b => Ending.returned (Value.string b)) x1, Keeps.refl _ _⟩
      · rw [decide_eq_false hm1] at HM1
        rw [if_neg hm1] at HD
        generalize T.take 2 = A at *
        generalize T.take 1 = B at *
        clear hm hm1 h2 hTl
        go_enter Tryz.func22, Tryz.ntmps22
        go_wp2_with fail
        refine (unhide (HM2 _)).mono ?_
        rintro e w1 ⟨rfl, rfl⟩
        go_wp2_with fail
        refine (unhide (HM1 _)).mono ?_
        rintro e w1 ⟨rfl, rfl⟩
        go_wp2_with fail
        all_goals
          go_ret
          exact ⟨by rw [← unhide HD]; first | rfl | exact congrArg (fun b => Ending.returned (Value.string b)) x2 | exact congrArg (fun b => Ending.returned (Value.string b)) x1, Keeps.refl _ _⟩
  · have h2' : ¬ (i : Int) + 2 ≤ (t.length : Int) := by omega
    rw [if_neg (fun q => h2 q.1)] at HD
    by_cases hm1 : T.take 1 ∈ marks
    · rw [decide_eq_true hm1] at HM1
      rw [if_pos hm1] at HD
      generalize T.take 1 = B at *
      clear hm1 h2 hTl HM2 x2
      go_enter Tryz.func22, Tryz.ntmps22
      go_wp2_with fail
      refine (unhide (HM1 _)).mono ?_
      rintro e w1 ⟨rfl, rfl⟩
      go_wp2_with fail
      all_goals
        go_ret
        exact ⟨by rw [← unhide HD]; first | rfl | exact congrArg (fun b => Ending.returned (Value.string b)) x1, Keeps.refl _ _⟩
    · rw [decide_eq_false hm1] at HM1
      rw [if_neg hm1] at HD
      generalize T.take 1 = B at *
      clear hm1 h2 hTl HM2 x2
      go_enter Tryz.func22, Tryz.ntmps22
      go_wp2_with fail
      refine (unhide (HM1 _)).mono ?_
      rintro e w1 ⟨rfl, rfl⟩
      go_wp2_with fail
      all_goals
        go_ret
        exact ⟨by rw [← unhide HD]; first | rfl | exact congrArg (fun b => Ending.returned (Value.string b)) x1, Keeps.refl _ _⟩
end Go.Proofs.YtbgapbaeegloaabGreatDoor
