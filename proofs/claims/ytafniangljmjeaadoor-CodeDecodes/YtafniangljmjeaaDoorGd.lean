import Derived.Test.YtafniangljmjeaaDoorGc
import Derived.Test.YtafniangljmjeaaDoorEa
namespace Go.Proofs.YtafniangljmjeaaDoor
open Go.RowKit Go.Maps

theorem decC_len (t : Txt) : (decC t).1.length ≤ 96 := by
  unfold decC
  split
  · simp
  · rename_i h
    cases hd : decF t.length t with
    | none => simp
    | some l =>
      obtain ⟨_, _, h3⟩ := decF_sound _ _ _ hd
      have := bytesC_len l
      rw [h3] at this
      simp only
      omega
set_option maxRecDepth 100000 in
set_option maxHeartbeats 1000000 in
theorem decodes_walk (t : Txt) (hl : t.length ≤ 140737488355328) (v : Value) (w : World) (hE : Env w) (h : BytesAt w v t) :
    Calls Tryd.prog 5 #[v] w fun e w' => e = .returned (.bool true) ∧ Keeps (fun _ => False) w w' := by
  have HQ := hide (copyBytes_any w v t h hl)
  have HV := hide h
  have HE := hide hE
  obtain ⟨ao, cap, rfl⟩ := RowAt.form h
  clear h hE
  go_enter Tryd.func5, Tryd.ntmps5
  go_wp2_with fail
  refine (unhide HQ).mono ?_
  rintro e w1 ⟨v1, rfl, ho1, hk1⟩
  have HC := hide (decode_c t v1 w1 ((unhide HE).keepF hk1).ops ((unhide HE).keepF hk1).types (rowAt_own ho1))
  have HK1 := hide hk1
  clear ho1 hk1 HQ
  go_wp2_with fail
  refine (unhide HC).mono ?_
  rintro e w2 ⟨b2, rfl, ho2, hk2⟩
  have HK2 := hide ((unhide HK1).trans hk2)
  have HB2 := hide (rowAt_own ho2)
  have HC2 := hide (refDecode_v t (.slice ao t.length cap) w2 ((unhide HV).keepF (unhide HK2)))
  rw [← dec_eq t] at HC2
  clear ho2 hk2 HC
  go_wp2_with fail
  refine (unhide HC2).mono ?_
  rintro e w3 ⟨b3, rfl, ho3, hk3⟩
  have HK3 := hide ((unhide HK2).trans hk3)
  have HQ3 := hide (eqCode_v w3 b2 b3 (decC t).1 (decC t).1 (RowAt.keepF (unhide HB2) hk3) (rowAt_own ho3) (by have := decC_len t; unfold maxLen; omega))
  rw [decide_eq_true rfl] at HQ3
  clear ho3 hk3 HC2
  generalize (decC t).2 = E at *
  go_wp2_with (go_at_call 18; refine (unhide HQ3).mono ?_; rintro e w4 ⟨rfl, hk4⟩)
  go_ret
  exact ⟨rfl, (unhide HK3).trans hk4⟩

end Go.Proofs.YtafniangljmjeaaDoor
