import Derived.Test.YtafniangljmjeaaDoorGd
import Derived.Test.YtafniangljmjeaaDoorEb
namespace Go.Proofs.YtafniangljmjeaaDoor
open Go.RowKit Go.Maps

theorem rights_enc (l : List ValA) : rightsB l = decide ((encC l).2 = 0) := by
  apply Bool.eq_iff_iff.2
  constructor
  · intro h
    obtain ⟨_, _, e, _⟩ := rightsB_of h
    simp [e]
  · intro h
    simp at h
    obtain ⟨h1, h2, h3, _⟩ := encC_ok h rfl
    unfold rightsB
    rw [h2]
    simp [h1, h3]
set_option maxRecDepth 100000 in
set_option maxHeartbeats 2000000 in
theorem rounds_walk (l : List ValA) (t : Txt) (hl : l.length ≤ 4398046511104) (ht : t.length ≤ 140737488355328) (hI : InR l) (v u : Value) (w : World) (hE : Env w) (hv : ValsAt w v l) (hu : BytesAt w u t) :
    Calls Tryd.prog 6 #[v, u] w fun e w' => e = .returned (.bool true) ∧ Keeps (fun _ => False) w w' := by
  have HQ := hide (copied_v w v l hv hl)
  have HV := hide hv
  have HU := hide hu
  have HE := hide hE
  obtain ⟨ao, cap, rfl⟩ := RowAt.form hv
  obtain ⟨bo, bcap, rfl⟩ := RowAt.form hu
  clear hv hu hE
  go_enter Tryd.func6, Tryd.ntmps6
  go_wp2_with fail
  refine (unhide HQ).mono ?_
  rintro e w1 ⟨v1, rfl, ho1, hk1⟩
  have HC := hide (encode_v l v1 w1 ((unhide HE).keepF hk1).ops ((unhide HE).keepF hk1).types (rowAt_own ho1) hI)
  have HK1 := hide hk1
  clear ho1 hk1 HQ
  go_wp2_with fail
  refine (unhide HC).mono ?_
  rintro e w2 ⟨b2, rfl, ho2, hk2⟩
  have HK2 := hide ((unhide HK1).trans hk2)
  have HB2 := hide (rowAt_own ho2)
  have HC2 := hide (right_v l (.slice ao l.length cap) w2 ((unhide HV).keepF (unhide HK2)) hl hI)
  rw [rights_enc] at HC2
  have HDE : Hid ((encC l).2 = 0 → decC (encC l).1 = (l, 0)) := fun h => dec_enc hI h
  clear ho2 hk2 HC HK1
  -- the second half, from any world
  have HALF : Hid (∀ w3, Keeps (fun _ => False) w w3 → _) := fun w3 (hk : Keeps (fun _ => False) w w3) => copyBytes_any w3 (.slice bo t.length bcap) t ((unhide HU).keepF hk) ht
  by_cases he : (encC l).2 = 0
  case' pos =>
    have hd := (unhide HDE) he
    rw [he, decide_eq_true rfl] at HC2
    rw [he]
    clear he HDE
    go_wp2_with fail
    refine (unhide HC2).mono ?_
    rintro e w3 ⟨rfl, hk3⟩
    have HK3 := hide ((unhide HK2).trans hk3)
    have HC3 := hide (decode_c (encC l).1 b2 w3 ((unhide HE).keepF (unhide HK3)).ops ((unhide HE).keepF (unhide HK3)).types (RowAt.keepF (unhide HB2) hk3))
    rw [hd] at HC3
    clear hk3 HC2 hd HK2
    go_wp2_with fail
    refine (unhide HC3).mono ?_
    rintro e w4 ⟨b4, rfl, ho4, hk4⟩
    have HK4 := hide ((unhide HK3).trans hk4)
    have HQ4 := hide (eqCode_v w4 (.slice ao l.length cap) b4 l l ((unhide HV).keepF (unhide HK4)) (rowAt_own ho4) (by unfold maxLen; omega))
    rw [decide_eq_true rfl] at HQ4
    clear ho4 hk4 HC3 HK3
    go_wp2_with fail
    refine (unhide HQ4).mono ?_
    rintro e w5 ⟨rfl, hk5⟩
    have HKZ := hide ((unhide HK4).trans hk5)
    clear hk5 HQ4 HK4
    generalize w5 = wz at *
    have HCB := hide ((unhide HALF) wz (unhide HKZ))
    clear HALF
    go_wp2_with fail
  case' neg =>
    rw [decide_eq_false he] at HC2
    have he2 : ((encC l).2 == 0) = false := by simpa using he
    clear he HDE
    generalize (encC l).2 = E at *
    go_wp2_with fail
    refine (unhide HC2).mono ?_
    rintro e w3 ⟨rfl, hk3⟩
    have HKZ := hide ((unhide HK2).trans hk3)
    clear hk3 HC2 HK2
    generalize w3 = wz at *
    have HCB := hide ((unhide HALF) wz (unhide HKZ))
    clear HALF
    go_wp2_with fail
  all_goals
    refine (unhide HCB).mono ?_
    rintro e w6 ⟨v6, rfl, ho6, hk6⟩
    have HK6 := hide ((unhide HKZ).trans hk6)
    have HC6 := hide (decode_c t v6 w6 ((unhide HE).keepF (unhide HK6)).ops ((unhide HE).keepF (unhide HK6)).types (rowAt_own ho6))
    clear ho6 hk6 HCB HKZ
    go_wp2_with fail
    refine (unhide HC6).mono ?_
    rintro e w7 ⟨v7, rfl, ho7, hk7⟩
    have HK7 := hide ((unhide HK6).trans hk7)
    obtain ⟨zo, zc, rfl⟩ := (rowAt_own ho7).form
    clear hk7 HC6 HK6
    by_cases hd : (decC t).2 = 0
    · obtain ⟨e1, e2⟩ := enc_dec hd
      have HC8 := hide (encode_v (decC t).1 _ w7 ((unhide HE).keepF (unhide HK7)).ops ((unhide HE).keepF (unhide HK7)).types (rowAt_own ho7) e2)
      rw [e1] at HC8
      rw [hd]
      clear ho7 hd e1 e2
      generalize (decC t).1 = DL at *
      go_wp2_with fail
      refine (unhide HC8).mono ?_
      rintro e w8 ⟨b8, rfl, ho8, hk8⟩
      have HK8 := hide ((unhide HK7).trans hk8)
      have HQ8 := hide (eqBytes_any w8 b8 (.slice bo t.length bcap) t t (rowAt_own ho8) ((unhide HU).keepF (unhide HK8)) (by unfold maxLen; omega))
      rw [decide_eq_true rfl] at HQ8
      clear ho8 hk8 HC8 HK7
      go_wp2_with (go_at_call 12; refine (unhide HQ8).mono ?_; rintro e w9 ⟨rfl, nn, rfl⟩)
      go_ret
      exact ⟨rfl, (unhide HK8).drewN _⟩
    · have hde := decC_err hd
      rw [hde] at ho7 ⊢
      simp only [List.length_nil] at ho7 ⊢
      clear hd hde ho7
      go_wp2_with fail
      go_ret
      exact ⟨rfl, unhide HK7⟩

end Go.Proofs.YtafniangljmjeaaDoor
