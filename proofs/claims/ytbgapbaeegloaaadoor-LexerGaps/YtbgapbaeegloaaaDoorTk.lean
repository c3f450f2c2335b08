import Derived.Test.YtbgapbaeegloaaaDoorTj
namespace Go.Proofs.YtbgapbaeegloaaaDoor
open Go.RowKit Go.Maps

theorem lex_short (s : Txt) (h : (lexP s).2.1 = 0) : s.length ≤ 256 := by
  rcases lex_cases s with ⟨_, e⟩ | ⟨hl, _, e⟩ | ⟨hl, _, e⟩
  · rw [e] at h; simp at h
  · exact hl
  · exact hl

set_option maxRecDepth 100000 in
set_option maxHeartbeats 4000000 in
theorem lexerRounds_walk (l : List TokA) (v : Value) (t : Txt) (ht : t.length ≤ 140737488355328) (w : World) (hE : Env w) (hT : ToksAt w v l) (hb : ∀ x ∈ l, x.n ≤ 9223372036854775807) :
    Calls Tryd.prog 6 #[v, str t] w fun e w' => e = .returned (.bool true) ∧ Keeps (fun _ => False) w w' := by
  have HE := hide hE
  have HQ0 := hide (lex_v [110, 43, 61, 49] (by decide) w hE)
  rw [known_lex] at HQ0
  simp only at HQ0
  have HLX := fun w' (hk : Keeps (fun _ => False) w w') => hide (lex_v t ht w' ((unhide HE).keepF hk))
  have HER := hide (lex_err_nil t)
  have HTX := hide (lex_text t)
  generalize lexP t = D at HLX HER HTX
  obtain ⟨ls, es, asrc⟩ := D
  simp only at HLX HER HTX
  have HJN := fun w' (hk : Keeps (fun _ => False) w w') => hide (join_v l v w' ((unhide HE).keepF hk).pow (hT.keepF hk))
  have HLJ0 := hide (lex_join l hb)
  have HJL : Hid ((joinP l).2 = 0 → l.length ≤ 256) := fun h => by
    unfold joinP at h
    by_cases q : 256 < l.length
    · rw [if_pos q] at h; simp at h
    · omega
  obtain ⟨ao, cap, rfl⟩ := RowAt.form hT
  have HT := hide hT
  generalize joinP l = J0 at HJN HLJ0 HJL
  obtain ⟨j0, je0⟩ := J0
  simp only at HJN HLJ0 HJL
  clear hE hT hb
  go_enter Tryd.func6, Tryd.ntmps6
  go_wp2_with fail
  refine (unhide HQ0).mono ?_
  rintro e w1 ⟨v0, rfl, ho0, hk0⟩
  have HJ1 := hide (join_v [⟨1, [110], 0, 0⟩, ⟨5, [43, 61], 0, 1⟩, ⟨2, [], 1, 3⟩] v0 w1 ((unhide HE).keepF hk0).pow (rowAt_own ho0))
  rw [known_join] at HJ1
  simp only at HJ1
  have HK0 := hide hk0
  clear ho0 hk0 HQ0
  go_wp2_with fail
  refine (unhide HJ1).mono ?_
  rintro e w2 ⟨rfl, hk2⟩
  have HK2 := hide ((unhide HK0).trans hk2)
  have HJ2 := HJN w2 (unhide HK2)
  clear hk2 HJ1 HJN HK0
  go_wp2_with fail
  refine (unhide HJ2).mono ?_
  rintro e w3 ⟨rfl, hk3⟩
  have HK3 := hide ((unhide HK2).trans hk3)
  clear hk3 HJ2 HK2
  by_cases hj : je0 = 0
  · subst hj
    obtain ⟨l4, hl4, hal4⟩ := (unhide HLJ0) rfl
    have h256 := (unhide HJL) rfl
    have HQ4 := hide (lex_v j0 (by have := lex_short j0 (by rw [hl4]); omega) w3 ((unhide HE).keepF (unhide HK3)))
    rw [hl4] at HQ4
    simp only at HQ4
    have HAL4 := hide hal4
    clear hl4 hal4 HLJ0 HJL
    go_wp2_with fail
    refine (unhide HQ4).mono ?_
    rintro e w4 ⟨v4, rfl, ho4, hk4⟩
    have HK4 := hide ((unhide HK3).trans hk4)
    have HA4 := hide (alike_v w4 v4 (.slice ao l.length cap) l.length l4 l ((unhide HAL4).1) rfl (rowAt_own ho4) ((unhide HT).keepF (unhide HK4)) (by omega) ((unhide HAL4).2))
    clear ho4 hk4 HQ4 HK3
    go_wp2_with fail
    refine (unhide HA4).mono ?_
    rintro e W3 ⟨rfl, hk5⟩
    have HK3 := hide ((unhide HK4).trans hk5)
    clear hk5 HA4 HK4 HAL4
    go_wp2_with fail
    refine (unhide (HLX W3 (unhide HK3))).mono ?_
    rintro e w6 ⟨v6, rfl, ho6, hk6⟩
    have HK6 := hide ((unhide HK3).trans hk6)
    have HT6 : Hid (ToksAt w6 v6 ls) := rowAt_own ho6
    obtain ⟨ao6, cap6, rfl⟩ := (rowAt_own ho6).form
    clear ho6 hk6 HLX HK3
    by_cases hes : es = 0
    · subst hes
      obtain ⟨s1, s2, s3, s4⟩ := (unhide HTX) rfl
      have HJ6 := hide (join_v ls (.slice ao6 ls.length cap6) w6 ((unhide HE).keepF (unhide HK6)).pow (unhide HT6))
      have HLJ := hide (lex_join ls s2)
      have HS4 := hide s4
      have HS3 := hide s3
      clear HTX HER s1 s2 s3 s4
      generalize joinP ls = J at *
      obtain ⟨js, je⟩ := J
      simp only at HJ6 HLJ HS4
      go_wp2_with fail
      refine (unhide HJ6).mono ?_
      rintro e w7 ⟨rfl, hk7⟩
      have HK7 := hide ((unhide HK6).trans hk7)
      have HT7 := hide ((unhide HT6).keepF hk7)
      clear hk7 HJ6 HT6
      rcases unhide HS4 with rfl | rfl
      · obtain ⟨l8, hl8, hal8⟩ := (unhide HLJ) rfl
        have HQ8 := hide (lex_v js (by have := lex_short js (by rw [hl8]); omega) w7 ((unhide HE).keepF (unhide HK7)))
        rw [hl8] at HQ8
        simp only at HQ8
        have HAL8 := hide hal8
        clear hl8 hal8 HLJ HS4
        go_wp2_with fail
        refine (unhide HQ8).mono ?_
        rintro e w8 ⟨v8, rfl, ho8, hk8⟩
        have HK8 := hide ((unhide HK7).trans hk8)
        have HA8 := hide (alike_v w8 (.slice ao6 ls.length cap6) v8 ls.length ls l8 rfl ((unhide HAL8).1) ((unhide HT7).keepF hk8) (rowAt_own ho8) (by have := unhide HS3; omega) ((unhide HAL8).symm.2))
        clear ho8 hk8 HQ8
        go_wp2_with fail
        refine (unhide HA8).mono ?_
        rintro e w9 ⟨rfl, hk9⟩
        have HK9 := hide ((unhide HK8).trans hk9)
        clear hk9 HA8
        go_wp2_with fail
        all_goals
          go_ret
          exact ⟨rfl, unhide HK9⟩
      · clear HLJ HS4
        go_wp2_with fail
        go_ret
        exact ⟨rfl, unhide HK7⟩
    · obtain rfl : ls = [] := (unhide HER) hes
      have e0 : (es != 0) = true := by simpa using hes
      clear HTX HER
      go_wp2_with fail
      all_goals
        go_ret
        exact ⟨rfl, unhide HK6⟩
  · have e0 : (je0 == 0) = false := by simpa using hj
    obtain ⟨W3, HW3⟩ : ∃ W3, Hid (w3 = W3) := ⟨_, rfl⟩
    rw [unhide HW3] at HK3 ⊢
    clear HLJ0 HJL hj HW3
    go_wp2_with fail
    refine (unhide (HLX W3 (unhide HK3))).mono ?_
    rintro e w6 ⟨v6, rfl, ho6, hk6⟩
    have HK6 := hide ((unhide HK3).trans hk6)
    have HT6 : Hid (ToksAt w6 v6 ls) := rowAt_own ho6
    obtain ⟨ao6, cap6, rfl⟩ := (rowAt_own ho6).form
    clear ho6 hk6 HLX HK3
    by_cases hes : es = 0
    · subst hes
      obtain ⟨s1, s2, s3, s4⟩ := (unhide HTX) rfl
      have HJ6 := hide (join_v ls (.slice ao6 ls.length cap6) w6 ((unhide HE).keepF (unhide HK6)).pow (unhide HT6))
      have HLJ := hide (lex_join ls s2)
      have HS4 := hide s4
      have HS3 := hide s3
      clear HTX HER s1 s2 s3 s4
      generalize joinP ls = J at *
      obtain ⟨js, je⟩ := J
      simp only at HJ6 HLJ HS4
      go_wp2_with fail
      refine (unhide HJ6).mono ?_
      rintro e w7 ⟨rfl, hk7⟩
      have HK7 := hide ((unhide HK6).trans hk7)
      have HT7 := hide ((unhide HT6).keepF hk7)
      clear hk7 HJ6 HT6
      rcases unhide HS4 with rfl | rfl
      · obtain ⟨l8, hl8, hal8⟩ := (unhide HLJ) rfl
        have HQ8 := hide (lex_v js (by have := lex_short js (by rw [hl8]); omega) w7 ((unhide HE).keepF (unhide HK7)))
        rw [hl8] at HQ8
        simp only at HQ8
        have HAL8 := hide hal8
        clear hl8 hal8 HLJ HS4
        go_wp2_with fail
        refine (unhide HQ8).mono ?_
        rintro e w8 ⟨v8, rfl, ho8, hk8⟩
        have HK8 := hide ((unhide HK7).trans hk8)
        have HA8 := hide (alike_v w8 (.slice ao6 ls.length cap6) v8 ls.length ls l8 rfl ((unhide HAL8).1) ((unhide HT7).keepF hk8) (rowAt_own ho8) (by have := unhide HS3; omega) ((unhide HAL8).symm.2))
        clear ho8 hk8 HQ8
        go_wp2_with fail
        refine (unhide HA8).mono ?_
        rintro e w9 ⟨rfl, hk9⟩
        have HK9 := hide ((unhide HK8).trans hk9)
        clear hk9 HA8
        go_wp2_with fail
        all_goals
          go_ret
          exact ⟨rfl, unhide HK9⟩
      · clear HLJ HS4
        go_wp2_with fail
        go_ret
        exact ⟨rfl, unhide HK7⟩
    · obtain rfl : ls = [] := (unhide HER) hes
      have e0 : (es != 0) = true := by simpa using hes
      clear HTX HER
      go_wp2_with fail
      all_goals
        go_ret
        exact ⟨rfl, unhide HK6⟩
end Go.Proofs.YtbgapbaeegloaaaDoor
