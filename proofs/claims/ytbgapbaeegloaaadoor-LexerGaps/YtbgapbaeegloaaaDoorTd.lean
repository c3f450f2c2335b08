import Derived.Test.YtbgapbaeegloaaaDoorTc
import Derived.Test.YtbgapbaeegloaaaDoorMl
namespace Go.Proofs.YtbgapbaeegloaaaDoor
open Go.RowKit Go.Maps

theorem first_err (c : UInt8) (T : Txt) : (firstP c T).2.2 = 0 ∨ (firstP c T).2.2 = 72 ∨ (firstP c T).2.2 = 73 ∨ (firstP c T).2.2 = 74 := by
  unfold firstP numP wordP litP markP
  repeat' split
  all_goals simp
theorem lex_val {t : Txt} (hv : Val t) (hl : t.length ≤ 256) : lexP t = cutL t (t.length + 1) [] 0 := by
  unfold lexP
  rw [if_neg (by omega), if_neg (by rw [(val_iff t).2 hv]; omega)]
theorem lex_cases (t : Txt) : (256 < t.length ∧ lexP t = ([], 70, 0)) ∨ (t.length ≤ 256 ∧ runesB t < t.length ∧ lexP t = ([], 71, runesB t)) ∨ (t.length ≤ 256 ∧ Val t ∧ lexP t = cutL t (t.length + 1) [] 0) := by
  by_cases h : 256 < t.length
  · left; refine ⟨h, ?_⟩; unfold lexP; rw [if_pos h]
  · by_cases hr : runesB t < t.length
    · right; left; refine ⟨by omega, hr, ?_⟩; unfold lexP; rw [if_neg h, if_pos hr]
    · right; right
      have := runes_le t
      have hv := (val_iff t).1 (by omega)
      exact ⟨by omega, hv, lex_val hv (by omega)⟩
theorem lex_ok_at (t : Txt) (h : (lexP t).2.1 = 0) : (lexP t).2.2 = 0 := by
  rcases lex_cases t with ⟨_, e⟩ | ⟨_, _, e⟩ | ⟨_, _, e⟩
  · rw [e]
  · rw [e] at h; simp at h
  · rw [e] at h ⊢; exact (cut_acc t _ [] [] 0).2.2 h
theorem lex_err_nil (t : Txt) (h : (lexP t).2.1 ≠ 0) : (lexP t).1 = [] := by
  rcases lex_cases t with ⟨_, e⟩ | ⟨_, _, e⟩ | ⟨_, _, e⟩
  · rw [e]
  · rw [e]
  · rw [e] at h ⊢; exact (cut_acc t _ [] [] 0).2.1 h
theorem lex_more (t : Txt) (h : (lexP t).2.1 = 0) (hl : t.length ≤ 253) : lexP (t ++ [10, 63, 32]) = ([], 72, t.length + 1) := by
  rcases lex_cases t with ⟨_, e⟩ | ⟨_, _, e⟩ | ⟨_, hv, e⟩
  · rw [e] at h; simp at h
  · rw [e] at h; simp at h
  · rw [e] at h
    have hv' : Val (t ++ [10, 63, 32]) := hv.append (val_ascii _ (by decide))
    have hl' : (t ++ [10, 63, 32]).length = t.length + 3 := by simp
    rw [lex_val hv' (by omega)]
    obtain ⟨f, acc, hf, hc⟩ := cut_through t [10, 63, 32] rfl _ [] 0 (by omega) (by omega) h ((t ++ [10, 63, 32]).length + 1) [] (by omega)
    rw [hc]
    rw [hl'] at hf
    obtain ⟨f, rfl⟩ : ∃ g, f = g + 2 := ⟨f - 2, by omega⟩
    have h1 : (t ++ [10, 63, 32])[t.length]? = some 10 := by rw [List.getElem?_append_right (Nat.le_refl _), Nat.sub_self]; rfl
    have h2 : (t ++ [10, 63, 32])[t.length + 1]? = some 63 := by rw [List.getElem?_append_right (by omega), show t.length + 1 - t.length = 1 by omega]; rfl
    have h3 : (t ++ [10, 63, 32]).drop (t.length + 1) = [63, 32] := by
      rw [List.drop_append, List.drop_eq_nil_of_le (by omega), show t.length + 1 - t.length = 1 by omega]; rfl
    rw [cut_blank h1 (by decide), cut_tok h2 (by decide) (by decide), h3, show firstP 63 [63, 32] = (zeroT, 0, 72) by decide]
    rfl
theorem cut_err (t : Txt) (f : Nat) (acc : List TokA) (h2 : t.length + 1 ≤ f) : (cutL t f acc 0).2.1 ≠ 71 ∧ (cutL t f acc 0).2.1 ≠ 70 := by
  by_cases h : (cutL t f acc 0).2.1 = 0
  · rw [h]; decide
  · obtain ⟨_, ⟨c, _, _, _, hc⟩, _, _⟩ := cut_blames t f acc 0 (by omega) (by omega) h
    rw [← hc]
    rcases first_err c (t.drop (cutL t f acc 0).2.2) with e | e | e | e <;> rw [e] <;> decide
theorem lex_blames (t : Txt) (h0 : (lexP t).2.1 ≠ 0) (h70 : (lexP t).2.1 ≠ 70) : t.length ≤ 256 ∧ (lexP t).2.2 < t.length ∧ (lexP (t.drop (lexP t).2.2)).2 = ((lexP t).2.1, 0) ∧ ((lexP t).2.1 = 71 → (lexP (t.take (lexP t).2.2)).2.1 ≠ 71) ∧ ((lexP t).2.1 ≠ 71 → (lexP (t.take (lexP t).2.2)).2.1 = 0) := by
  rcases lex_cases t with ⟨_, e⟩ | ⟨hl, hr, e⟩ | ⟨hl, hv, e⟩
  · rw [e] at h70; exact absurd rfl h70
  · rw [e]
    simp only
    obtain ⟨hb, hvp⟩ := runes_bad t hr
    have hdl : (t.drop (runesB t)).length = t.length - runesB t := List.length_drop ..
    refine ⟨hl, hr, ?_, fun _ => ?_, fun h => absurd rfl h⟩
    · have hz := runes_zero (t.drop (runesB t)) (by omega) hb
      unfold lexP
      rw [if_neg (by omega), if_pos (by rw [hz]; omega), hz]
    · rw [lex_val hvp (by rw [List.length_take]; omega)]
      exact (cut_err _ _ _ (Nat.le_refl _)).1
  · rw [e] at h0 ⊢
    obtain ⟨_, ⟨c, hc, hb, h35, hfe⟩, i3, i4⟩ := cut_blames t _ [] 0 (by omega) (by omega) h0
    have hne := (cut_err t (t.length + 1) [] (Nat.le_refl _)).1
    generalize (cutL t (t.length + 1) [] 0).2 = R at *
    obtain ⟨er, p⟩ := R
    simp only at h0 hc hfe i3 i4 hne ⊢
    have hp := get_lt hc
    have hvv : Val (t.take p) ∧ Val (t.drop p) := by
      rcases i4 with rfl | ⟨y, hy, hy8⟩
      · exact ⟨by rw [List.take_zero]; exact .nil, by rw [List.drop_zero]; exact hv⟩
      · rcases Nat.eq_zero_or_pos p with rfl | hpos
        · exact ⟨by rw [List.take_zero]; exact .nil, by rw [List.drop_zero]; exact hv⟩
        · obtain ⟨_, _, k3, k4⟩ := hv.cut (p - 1) y hy hy8
          rw [show p - 1 + 1 = p by omega] at k3 k4
          exact ⟨k3, k4⟩
    have hdl : (t.drop p).length = t.length - p := List.length_drop ..
    have htl : (t.take p).length = p := by rw [List.length_take]; omega
    refine ⟨hl, hp, ?_, fun h => absurd h hne, fun _ => ?_⟩
    · have hd0 : (t.drop p)[0]? = some c := by rw [List.getElem?_drop, Nat.add_zero]; exact hc
      rw [lex_val hvv.2 (by omega), cut_tok hd0 hb h35, List.drop_zero, hfe, if_neg h0]
    · rw [lex_val hvv.1 (by omega)]
      exact i3 _ [] (by omega)

set_option maxRecDepth 100000 in
set_option maxHeartbeats 2000000 in
theorem lexerBlames_walk (t : Txt) (hl : t.length ≤ 140737488355328) (w : World) (hE : Env w) :
    Calls Tryd.prog 4 #[str t] w fun e w' => e = .returned (.bool true) ∧ Keeps (fun _ => False) w w' := by
  have HQ := hide (lex_v t hl w hE)
  have HE := hide hE
  have HOK := hide (lex_ok_at t)
  have HER := hide (lex_err_nil t)
  have HMO := hide (lex_more t)
  have HBL := hide (lex_blames t)
  have HCA := hide (lex_cases t)
  generalize lexP t = D at HQ HOK HER HMO HBL HCA
  obtain ⟨l, er, a⟩ := D
  simp only at HQ HOK HER HMO HBL HCA
  clear hE
  by_cases h0 : er = 0
  · subst h0
    obtain rfl : a = 0 := (unhide HOK) rfl
    clear HOK HER HBL
    by_cases h253 : 253 < t.length
    · have h' : (253 : Int) < (t.length : Int) := by omega
      clear HMO HCA
      go_enter Tryd.func4, Tryd.ntmps4
      go_wp2_with fail
      refine (unhide HQ).mono ?_
      rintro e w2 ⟨v, rfl, ho, hk⟩
      have HK := hide hk
      clear ho hk HQ
      go_wp2_with fail
      go_ret
      exact ⟨rfl, unhide HK⟩
    · have h' : ¬ (253 : Int) < (t.length : Int) := by omega
      have hadd : ∀ w' : World, (Op.stringOp .add (ByteArray.mk t.toArray) (ByteArray.mk #[10, 63, 32])).run Tryd.prog w' = .ok (str (t ++ [10, 63, 32])) w' := fun w' => add_str w' t [10, 63, 32] (by simp; omega)
      have HQ2 := fun w' (hk : Keeps (fun _ => False) w w') => hide (lex_v (t ++ [10, 63, 32]) (by simp; omega) w' ((unhide HE).keepF hk))
      rw [(unhide HMO) rfl (by omega)] at HQ2
      simp only [List.length_nil] at HQ2
      clear HMO HCA
      go_enter Tryd.func4, Tryd.ntmps4
      go_wp2_with fail
      refine (unhide HQ).mono ?_
      rintro e w2 ⟨v, rfl, ho, hk⟩
      have HK := hide hk
      have HQ3 := HQ2 w2 hk
      clear ho hk HQ HQ2
      go_wp2_with fail
      refine (unhide HQ3).mono ?_
      rintro e w3 ⟨v3, rfl, ho3, hk3⟩
      obtain ⟨ao, cap, rfl⟩ := (rowAt_own ho3).form
      have HK3 := hide ((unhide HK).trans hk3)
      clear ho3 hk3 HQ3
      go_wp2_with fail
      all_goals
        go_ret
        exact ⟨rfl, unhide HK3⟩
  · obtain rfl : l = [] := (unhide HER) h0
    simp only [List.length_nil] at HQ
    have e0 : (er == 0) = false := by simpa using h0
    by_cases h70 : er = 70
    · subst h70
      obtain ⟨h256, ha⟩ : 256 < t.length ∧ a = 0 := by
        rcases unhide HCA with ⟨q1, q2⟩ | ⟨_, _, q⟩ | ⟨_, _, q⟩
        · simp only [Prod.mk.injEq] at q2; exact ⟨q1, q2.2.2⟩
        · simp at q
        · exfalso
          have := (cut_err t (t.length + 1) [] (Nat.le_refl _)).2
          rw [← q] at this
          exact this rfl
      subst ha
      have h' : (256 : Int) < (t.length : Int) := by omega
      clear HCA HBL HMO HER HOK h0 h256
      go_enter Tryd.func4, Tryd.ntmps4
      go_wp2_with fail
      refine (unhide HQ).mono ?_
      rintro e w2 ⟨v, rfl, ho, hk⟩
      obtain ⟨ao, cap, rfl⟩ := (rowAt_own ho).form
      have HK := hide hk
      clear ho hk HQ
      go_wp2_with fail
      all_goals
        go_ret
        exact ⟨rfl, unhide HK⟩
    · have e70 : (er == 70) = false := by simpa using h70
      obtain ⟨b1, b2, b3, b4, b5⟩ := (unhide HBL) h0 h70
      have hx1 : (ByteArray.mk t.toArray).extract 0 a = ⟨(t.take a).toArray⟩ := by rw [ext_str, List.drop_zero, Nat.sub_zero]
      have hx2 : (ByteArray.mk t.toArray).extract a t.length = ⟨(t.drop a).toArray⟩ := by rw [ext_str, List.take_of_length_le (by simp)]
      have HP := fun w' (hk : Keeps (fun _ => False) w w') => hide (lex_v (t.take a) (by rw [List.length_take]; omega) w' ((unhide HE).keepF hk))
      have HS := fun w' (hk : Keeps (fun _ => False) w w') => hide (lex_v (t.drop a) (by rw [List.length_drop]; omega) w' ((unhide HE).keepF hk))
      rw [b3] at HS
      simp only at HS
      have h256' : ¬ (256 : Int) < (t.length : Int) := by omega
      have ha1 : (a : Int) < (t.length : Int) := by omega
      have ha0 : (0 : Int) ≤ (a : Int) := by omega
      generalize lexP (t.take a) = P1 at HP b4 b5
      obtain ⟨l1, er1, a1⟩ := P1
      generalize (lexP (t.drop a)).1 = l2 at HS
      simp only at HP b4 b5
      have HB4 := hide b4
      have HB5 := hide b5
      generalize t.take a = ta at *
      generalize t.drop a = td at *
      clear HCA HBL HMO HER HOK h0 h70 b3 b4 b5 b1 b2
      go_enter Tryd.func4, Tryd.ntmps4
      go_wp2_with fail
      refine (unhide HQ).mono ?_
      rintro e w2 ⟨v, rfl, ho, hk⟩
      obtain ⟨ao, cap, rfl⟩ := (rowAt_own ho).form
      have HK := hide hk
      have HP2 := HP w2 hk
      clear ho hk HQ HP
      go_wp2_with fail
      refine (unhide HP2).mono ?_
      rintro e w3 ⟨v3, rfl, ho3, hk3⟩
      have HK3 := hide ((unhide HK).trans hk3)
      have HS3 := HS w3 (unhide HK3)
      clear ho3 hk3 HP2 HS
      go_wp2_with fail
      refine (unhide HS3).mono ?_
      rintro e w4 ⟨v4, rfl, ho4, hk4⟩
      have HK4 := hide ((unhide HK3).trans hk4)
      clear ho4 hk4 HS3
      by_cases h71 : er = 71
      · have hne : (er1 != 71) = true := by simpa using (unhide HB4) h71
        subst h71
        go_wp2_with fail
        all_goals
          go_ret
          exact ⟨rfl, unhide HK4⟩
      · have e71 : (er == 71) = false := by simpa using h71
        obtain rfl : er1 = 0 := (unhide HB5) h71
        go_wp2_with fail
        all_goals
          go_ret
          exact ⟨rfl, unhide HK4⟩
end Go.Proofs.YtbgapbaeegloaaaDoor
