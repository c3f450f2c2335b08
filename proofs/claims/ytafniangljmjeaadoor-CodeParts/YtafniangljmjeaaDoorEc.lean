import Derived.Test.YtafniangljmjeaaDoorEd
namespace Go.Proofs.YtafniangljmjeaaDoor
open Go.RowKit Go.Maps

set_option maxRecDepth 100000 in
set_option maxHeartbeats 2000000 in
theorem parts_walk (a b : List ValA) (hla : a.length ≤ 4398046511104) (hlb : b.length ≤ 4398046511104) (hIa : InR a) (hIb : InR b) (va vb : Value) (w : World) (hE : Env w) (ha : ValsAt w va a) (hb : ValsAt w vb b) :
    Calls Tryd.prog 4 #[va, vb] w fun e w' => e = .returned (.bool true) ∧ Keeps (fun _ => False) w w' := by
  obtain ⟨j0, hi, hz0, hz1, hz2⟩ := info_parts Tryd.info5
  have HQ := hide (right_v a va w ha hla hIa)
  obtain ⟨ao, capa, rfl⟩ := RowAt.form ha
  obtain ⟨bo, capb, rfl⟩ := RowAt.form hb
  have HA := hide ha
  have HB := hide hb
  have HE := hide hE
  clear ha hb hE
  go_enter Tryd.func4, Tryd.ntmps4
  go_wp2_with fail
  refine (unhide HQ).mono ?_
  rintro e w1 ⟨rfl, hk1⟩
  have HQ2 := hide (right_v b (.slice bo b.length capb) w1 ((unhide HB).keepF hk1) hlb hIb)
  have HK1 := hide hk1
  clear hk1 HQ
  cases hra : rightsB a with
  | false =>
    clear HQ2
    go_wp2_with fail
    go_ret
    exact ⟨rfl, unhide HK1⟩
  | true =>
    obtain ⟨fa, ba, ea, na⟩ := rightsB_of hra
    have HFA := hide fa
    have HEA := hide ea
    clear hra fa ea
    go_wp2_with fail
    refine (unhide HQ2).mono ?_
    rintro e w2 ⟨rfl, hk2⟩
    have HK2 := hide ((unhide HK1).trans hk2)
    clear hk2 HQ2 HK1
    cases hrb : rightsB b with
    | false =>
      go_wp2_with fail
      go_ret
      exact ⟨rfl, unhide HK2⟩
    | true =>
      obtain ⟨fb, bb, eb, nb⟩ := rightsB_of hrb
      have HFB := hide fb
      have HEB := hide eb
      clear hrb fb eb
      have HC := hide (copied_v w2 _ a ((unhide HA).keepF (unhide HK2)) (by omega))
      go_wp2_with fail
      refine (unhide HC).mono ?_
      rintro e w3 ⟨v3, rfl, ho3, hk3⟩
      have HK3 := hide ((unhide HK2).trans hk3)
      have HC2 := hide (encode_v a v3 w3 ((unhide HE).keepF (unhide HK3)).ops ((unhide HE).keepF (unhide HK3)).types (rowAt_own ho3) hIa)
      rw [unhide HEA] at HC2
      clear ho3 hk3 HC HK2
      go_wp2_with fail
      refine (unhide HC2).mono ?_
      rintro e w4 ⟨xa, rfl, ho4, hk4⟩
      have HK4 := hide ((unhide HK3).trans hk4)
      have HXA := hide (rowAt_own ho4)
      have HC3 := hide (copied_v w4 _ b ((unhide HB).keepF (unhide HK4)) (by omega))
      clear ho4 hk4 HC2 HK3
      go_wp2_with fail
      refine (unhide HC3).mono ?_
      rintro e w5 ⟨v5, rfl, ho5, hk5⟩
      have HK5 := hide ((unhide HK4).trans hk5)
      have HXA5 := hide (RowAt.keepF (unhide HXA) hk5)
      have HC4 := hide (encode_v b v5 w5 ((unhide HE).keepF (unhide HK5)).ops ((unhide HE).keepF (unhide HK5)).types (rowAt_own ho5) hIb)
      rw [unhide HEB] at HC4
      clear ho5 hk5 HC3 HK4 HXA
      go_wp2_with fail
      refine (unhide HC4).mono ?_
      rintro e w6 ⟨xb, rfl, ho6, hk6⟩
      have HK6 := hide ((unhide HK5).trans hk6)
      have HXA6 := hide (RowAt.keepF (unhide HXA5) hk6)
      have HXB6 := hide (rowAt_own ho6)
      have HC5 := hide (joined_v w6 _ _ a b ((unhide HA).keepF (unhide HK6)) ((unhide HB).keepF (unhide HK6)) na nb)
      clear ho6 hk6 HC4 HK5 HXA5
      go_wp2_with fail
      refine (unhide HC5).mono ?_
      rintro e w7 ⟨v7, rfl, ho7, hk7⟩
      have HK7 := hide ((unhide HK6).trans hk7)
      have HXA7 := hide (RowAt.keepF (unhide HXA6) hk7)
      have HXB7 := hide (RowAt.keepF (unhide HXB6) hk7)
      have HC6 := hide (encode_v (a ++ b) v7 w7 ((unhide HE).keepF (unhide HK7)).ops ((unhide HE).keepF (unhide HK7)).types (rowAt_own ho7) (InR_append hIa hIb))
      rw [encC_join (unhide HFA) (unhide HFB)] at HC6
      clear ho7 hk7 HC5 HK6 HXA6 HXB6
      have HPA : Hid (0 < a.length → 0 < (bytesC a).length) := fun h => Nat.lt_of_lt_of_le h (bytesC_len a)
      generalize bytesC a = A at *
      generalize bytesC b = B at *
      go_wp2_with fail
      refine (unhide HC6).mono ?_
      rintro e w8 ⟨z8, rfl, ho8, hk8⟩
      have HK8 := hide ((unhide HK7).trans hk8)
      have HXA8 := hide (RowAt.keepF (unhide HXA7) hk8)
      have HXB8 := hide (RowAt.keepF (unhide HXB7) hk8)
      obtain ⟨zo, zc, rfl⟩ := (rowAt_own ho8).form
      have HZ8 := hide (rowAt_own ho8)
      obtain ⟨xo, xc, rfl⟩ := RowAt.form (unhide HXA8)
      obtain ⟨yo, yc, rfl⟩ := RowAt.form (unhide HXB8)
      clear ho8 hk8 HC6 HK7 HXA7 HXB7 HEA HEB HFA HFB
      by_cases hbig : 96 < A.length + B.length
      · rw [if_pos hbig] at HZ8 ⊢
        simp only [List.length_nil] at HZ8 ⊢
        have g1 : (96 : Int) < (A.length : Int) + (B.length : Int) := by omega
        have ga : (A.length : Int) ≤ 96 := by omega
        have gb : (B.length : Int) ≤ 96 := by omega
        by_cases ha0 : a.length = 0
        · have g2 : decide ((0 : Int) < (a.length : Int)) = false := decide_eq_false (by omega)
          go_wp2_with fail
          go_ret
          exact ⟨rfl, unhide HK8⟩
        · have g2 : decide ((0 : Int) < (a.length : Int)) = true := decide_eq_true (by omega)
          have g3 : ((A.length : Int) == 0) = false := by have := (unhide HPA) (by omega); simp; intro h; rw [h] at this; simp at this
          go_wp2_with fail
          go_ret
          exact ⟨rfl, unhide HK8⟩
      · rw [if_neg hbig] at HZ8 ⊢
        simp only at HZ8 ⊢
        have g1 : ¬ (96 : Int) < (A.length : Int) + (B.length : Int) := by omega
        have ga : (A.length : Int) ≤ 96 := by omega
        have gb : (B.length : Int) ≤ 96 := by omega
        have hZL : (A ++ B).length ≤ 96 := by simp; omega
        generalize hZ : A ++ B = Z at HZ8 hZL ⊢
        have HZE := hide hZ
        clear hZ
        by_cases ha0 : a.length = 0
        · have g2 : decide ((0 : Int) < (a.length : Int)) = false := decide_eq_false (by omega)
          go_wp2_with (first
            | (at_builtin; refine wpList_append_any rfl _ _ rfl w8.heap.size (.slice none 0 0) 0 [] rfl (World.ownsRow_nil _ _ 5 1) (.slice xo A.length xc) A rfl (unhide HXA8) (by unfold maxLen; omega) (by omega) (Nat.le_refl _) ?_; intro v9 w9 hown9 hgrow9; have HO9 := hide hown9; have HK9 := hide ((Keeps.refl (fun _ => False) w8).grown hgrow9 (fun q e hq => by cases e)); have HXB9 := hide (RowAt.keepF (unhide HXB8) (unhide HK9)); have HZ9 := hide (RowAt.keepF (unhide HZ8) (unhide HK9)); have hs9 : w8.heap.size ≤ w9.heap.size := (unhide HK9).size; clear hown9 hgrow9; have mark : True := trivial)
            | (clear mark; at_builtin; refine wpList_append_any rfl _ _ rfl w8.heap.size v9 (0 + A.length) ([] ++ bs A) rfl (unhide HO9) (.slice yo B.length yc) B rfl (unhide HXB9) (by unfold maxLen; omega) (by omega) hs9 ?_; intro v10 w10 hown10 hgrow10; have HO10 := hide hown10; have HK10 := hide ((unhide HK9).grown hgrow10 (fun q e hq => by have := ((unhide HO9).lt q e).1; omega)); have HZ10 := hide (RowAt.keepF (unhide HZ8) (unhide HK10)); have HQZ := hide (eqBytes_any w10 (.slice zo Z.length zc) v10 Z Z (unhide HZ10) (by have h := rowAt_own (unhide HO10); rw [List.nil_append, show bs A ++ bs B = bs (A ++ B) by simp [bs], show 0 + A.length + B.length = (A ++ B).length by simp, unhide HZE] at h; exact h) (by unfold maxLen; omega)); rw [decide_eq_true rfl] at HQZ; clear hown10 hgrow10; have mark2 : True := trivial)
            | (clear mark2; go_at_call 12; refine (unhide HQZ).mono ?_; rintro e w11 ⟨rfl, nn, rfl⟩))
          go_ret
          exact ⟨rfl, ((unhide HK8).trans (unhide HK10)).drewN _⟩
        · have g2 : decide ((0 : Int) < (a.length : Int)) = true := decide_eq_true (by omega)
          have g3 : ((A.length : Int) == 0) = false := by have := (unhide HPA) (by omega); simp; intro h; rw [h] at this; simp at this
          go_wp2_with (first
            | (at_builtin; refine wpList_append_any rfl _ _ rfl w8.heap.size (.slice none 0 0) 0 [] rfl (World.ownsRow_nil _ _ 5 1) (.slice xo A.length xc) A rfl (unhide HXA8) (by unfold maxLen; omega) (by omega) (Nat.le_refl _) ?_; intro v9 w9 hown9 hgrow9; have HO9 := hide hown9; have HK9 := hide ((Keeps.refl (fun _ => False) w8).grown hgrow9 (fun q e hq => by cases e)); have HXB9 := hide (RowAt.keepF (unhide HXB8) (unhide HK9)); have HZ9 := hide (RowAt.keepF (unhide HZ8) (unhide HK9)); have hs9 : w8.heap.size ≤ w9.heap.size := (unhide HK9).size; clear hown9 hgrow9; have mark : True := trivial)
            | (clear mark; at_builtin; refine wpList_append_any rfl _ _ rfl w8.heap.size v9 (0 + A.length) ([] ++ bs A) rfl (unhide HO9) (.slice yo B.length yc) B rfl (unhide HXB9) (by unfold maxLen; omega) (by omega) hs9 ?_; intro v10 w10 hown10 hgrow10; have HO10 := hide hown10; have HK10 := hide ((unhide HK9).grown hgrow10 (fun q e hq => by have := ((unhide HO9).lt q e).1; omega)); have HZ10 := hide (RowAt.keepF (unhide HZ8) (unhide HK10)); have HQZ := hide (eqBytes_any w10 (.slice zo Z.length zc) v10 Z Z (unhide HZ10) (by have h := rowAt_own (unhide HO10); rw [List.nil_append, show bs A ++ bs B = bs (A ++ B) by simp [bs], show 0 + A.length + B.length = (A ++ B).length by simp, unhide HZE] at h; exact h) (by unfold maxLen; omega)); rw [decide_eq_true rfl] at HQZ; clear hown10 hgrow10; have mark2 : True := trivial)
            | (clear mark2; go_at_call 12; refine (unhide HQZ).mono ?_; rintro e w11 ⟨rfl, nn, rfl⟩))
          go_ret
          exact ⟨rfl, ((unhide HK8).trans (unhide HK10)).drewN _⟩

end Go.Proofs.YtafniangljmjeaaDoor
