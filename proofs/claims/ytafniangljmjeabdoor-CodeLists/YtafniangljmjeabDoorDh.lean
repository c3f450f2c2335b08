import Derived.Test.YtafniangljmjeabDoorDg
namespace Go.Proofs.YtafniangljmjeabDoor
open Go.RowKit Go.Maps

theorem owns_one (w1 : World) (B b : Nat) (x : Value) (hB : B ≤ b) (hb : b = w1.heap.size) : (w1.alloc (.cells #[x] 5)).ownsRow B 5 1 (.slice (some ⟨b, 0, none⟩) 1 1) 1 [x] := by
  subst hb
  exact ⟨rfl, Or.inr ⟨w1.heap.size, 1, #[x], rfl, hB, heap_alloc_new w1 _, Nat.le_refl _, by unfold maxLen; omega, by simp, by simp⟩⟩
theorem news_row {w : World} {B t n : Nat} {g cap : Nat} {xs : List Value} (h : w.ownsRow B t 1 (.slice (some ⟨g, 0, none⟩) n cap) n xs) (h0 : 0 < n) : ∀ j u, xs[j]? = some u → w.cell? ((⟨g, 0, none⟩ : Addr).add j) = some u := fun j u hu => by
  obtain ⟨b', off', cap', e', _, hc'⟩ := (rowAt_own h).cells h0
  simp at e'
  obtain ⟨⟨rfl, rfl⟩, rfl⟩ := e'
  have h5 := hc' j u hu
  rw [Nat.zero_add] at h5
  have h6 : (⟨g, 0, none⟩ : Addr).add j = ⟨g, j, none⟩ := by cases j <;> simp [Addr.add]
  rw [h6]
  exact h5
theorem bs_one (G : Txt) : ∀ u ∈ bs G, u.oneCell' = true := by
  intro u hu
  unfold bs at hu
  simp at hu
  obtain ⟨c, _, rfl⟩ := hu
  rfl
theorem groups_pos (u : Nat) : 0 < (groups u).length := by
  by_cases hg : u < 128
  · rw [groups_small hg]; simp
  · rw [groups_big (by omega)]; simp

set_option maxRecDepth 100000 in
set_option maxHeartbeats 4000000 in
theorem one_v (i : ValA) (w : World) (hF : formB i = 0) (hI : -9223372036854775808 ≤ i.n ∧ i.n ≤ 9223372036854775807) :
    Calls Tryd.prog 22 #[i.v] w fun e w' => ∃ v, e = .returned v ∧ w'.ownsRow w.heap.size 5 1 v (oneB i).length (bs (oneB i)) ∧ Keeps (fun _ => False) w w' := by
  obtain ⟨j0, hi, hz0, hz1, hz2⟩ := info_parts Tryd.info5
  obtain ⟨ho1, ho2⟩ := formB_zero hF
  obtain ⟨r1, r2⟩ := opdB_range ho1
  have hr := rightB_at ho2
  obtain ⟨kd, n, s⟩ := i
  unfold ValA.v
  simp only at *
  obtain ⟨m, rfl⟩ := Int.eq_ofNat_of_zero_le (show 0 ≤ kd by omega)
  have HU := hide (u8_num (n := (m : Int)) (by omega) (by omega))
  have m1 : (m : Int) ≤ 26 := by omega
  have m0 : (0 : Int) ≤ (m : Int) := by omega
  have hw8 : IntKind.u8.wrap (m : Int) = (m : Int) := by rw [IntKind.wrap_u8]; omega
  obtain ⟨HX, hxb, hxc⟩ := boxed w #[.int .i64 (m : Int), .int .i64 n, str s] 54
  have b0 := hxc 0 (.int .i64 (m : Int)) rfl
  obtain ⟨HY, hyb, _⟩ := boxed (w.alloc (.cells #[.int .i64 (m : Int), .int .i64 n, str s] 54)) #[.int .u8 (m : Int)] 5
  have a0 := ((unhide HY).cell hxb id).trans (hxc 0 (.int .i64 (m : Int)) rfl)
  have a1 := ((unhide HY).cell hxb id).trans (hxc 1 (.int .i64 n) rfl)
  have a2 := ((unhide HY).cell hxb id).trans (hxc 2 (str s) rfl)
  have HK := hide ((unhide HX).trans (unhide HY))
  have HW := hide (owns_one (w.alloc (.cells #[.int .i64 (m : Int), .int .i64 n, str s] 54)) w.heap.size (w.heap.size + 1) (.int .u8 (m : Int)) (by omega) (by simp))
  have hsz : ((w.alloc (.cells #[.int .i64 (m : Int), .int .i64 n, str s] 54)).alloc (.cells #[.int .u8 (m : Int)] 5)).heap.size = w.heap.size + 2 := by simp
  have HQ := hide (operand_v (m : Int) ((w.alloc (.cells #[.int .i64 (m : Int), .int .i64 n, str s] 54)).alloc (.cells #[.int .u8 (m : Int)] 5)))
  have HR := hide hr
  have HE : Hid (oneB ⟨m, n, s⟩ = u8 m :: tailB ⟨m, n, s⟩) := rfl
  have HI := hide hI
  have hne : (Value.slice (some ⟨w.heap.size + 1, 0, none⟩) 1 1).ownBlock ≠ some w.heap.size := by show (some (w.heap.size + 1) : Option Nat) ≠ _; simp
  clear hxc HX HY hr hI hF ho2 hxb hyb
  rcases opdB_cases (m : Int) with e1 | e1 | e1 | e1 | e1 | e1
  · exact absurd e1 ho1
  · have HT : Hid (tailB ⟨m, n, s⟩ = []) := by show _ = _; simp [tailB, e1]
    rw [e1] at HQ
    clear e1 ho1
    go_enter Tryd.func22, Tryd.ntmps22
    go_wp2_with (go_at_call 29; refine (unhide HQ).mono ?_; rintro e w' ⟨rfl, rfl⟩)
    go_ret
    refine ⟨_, rfl, ?_, unhide HK⟩
    rw [unhide HE, unhide HT]
    simpa [bs, unhide HU] using unhide HW
  · have HT : Hid (tailB ⟨m, n, s⟩ = groups (tn n)) := by show _ = _; simp [tailB, e1]
    rw [e1] at HQ
    have HG := hide (groups_10 _ (tn_le n (unhide HI).1 (unhide HI).2))
    have HGP := hide (groups_pos (tn n))
    have HTU := hide (turned_v n (unhide HI).1 (unhide HI).2 ((w.alloc (.cells #[.int .i64 (m : Int), .int .i64 n, str s] 54)).alloc (.cells #[.int .u8 (m : Int)] 5)))
    clear e1 ho1
    generalize groups (tn n) = G at *
    go_enter Tryd.func22, Tryd.ntmps22
    go_wp2_with fail
    refine (unhide HQ).mono ?_
    rintro e w' ⟨rfl, rfl⟩
    go_wp2_with fail
    refine (unhide HTU).mono ?_
    rintro e w3 ⟨v3, rfl, ho3, hk3⟩
    obtain ⟨g3, cap3, rfl, _, _⟩ := ho3.form (unhide HGP)
    have HN3 := hide (news_row ho3 (unhide HGP))
    have HO3 := hide (ownsRow_kept (unhide HW) hk3 (fun _ _ => id))
    have HK3 := hide ((unhide HK).trans hk3)
    have hs3 : w.heap.size ≤ w3.heap.size := (unhide HK3).size
    obtain ⟨H3, hH3⟩ : ∃ H3, w3.heap.size = H3 := ⟨_, rfl⟩
    have HLG : Hid ((bs G).length = G.length * 1) := by show _ = _; rw [bs_length]; omega
    have HB1 : Hid (1 + G.length ≤ maxLen) := by have := unhide HG; show _ ≤ _; unfold maxLen; omega
    have HB2 : Hid ((1 + G.length) * 1 ≤ 140737488355328) := by have := unhide HG; show _ ≤ _; omega
    clear ho3 hk3 HTU HQ
    go_wp2_with (at_builtin; refine wpList_append_lies _ rfl _ _ _ rfl w.heap.size 5 j0 _ 1 1 Tryd.underlying38 hi hz0 hz1 hz2 rfl (by omega) (.slice (some ⟨w.heap.size + 1, 0, none⟩) 1 1) 1 _ rfl (unhide HO3) ⟨g3, 0, none⟩ G.length cap3 (bs G) rfl (unhide HLG) (unhide HN3) (bs_one G) (unhide HGP) (unhide HB1) (unhide HB2) hs3 H3 hH3 ?_; intro g4 cap4 w4 hown4 hgrow4 hat4 hlt4; have HO4 := hide hown4; have HK4 := hide ((unhide HK3).grown hgrow4 (fun q e hq => by have := ((unhide HO3).lt q e).1; omega)); clear hown4 hgrow4 hat4)
    go_ret
    refine ⟨_, rfl, ?_, unhide HK4⟩
    rw [unhide HE, unhide HT]
    have h4 := unhide HO4
    have e5 : bs (u8 m :: G) = [.int .u8 (m : Int)] ++ bs G := by simp [bs, unhide HU]
    rw [e5, show (u8 m :: G).length = 1 + G.length by simp; omega]
    exact h4
  · have HT : Hid (tailB ⟨m, n, s⟩ = UInt8.ofNat s.length :: s) := by show _ = _; simp [tailB, e1]
    rw [e1] at HQ
    have hs20 := ((unhide HR).2.2.1 e1).2
    have HC : Hid (num (UInt8.ofNat s.length) = (s.length : Int)) := num_of _ (by omega)
    have hl20 : (s.length : Int) ≤ 20 := by omega
    have hw9 : IntKind.u8.wrap (s.length : Int) = (s.length : Int) := by rw [IntKind.wrap_u8]; omega
    clear e1 ho1
    generalize UInt8.ofNat s.length = cL at *
    go_enter Tryd.func22, Tryd.ntmps22
    go_wp2_with fail
    refine (unhide HQ).mono ?_
    rintro e w' ⟨rfl, rfl⟩
    generalize (w.alloc (.cells #[.int .i64 (m : Int), .int .i64 n, str s] 54)).alloc (.cells #[.int .u8 (m : Int)] 5) = w3 at HW HK a2 hsz ⊢
    have hs0 : w.heap.size + 2 ≤ w3.heap.size := by omega
    clear a0 a1 b0 HQ hsz
    go_wp2_with (at_builtin; refine wpList_append_lies _ rfl _ _ _ rfl w.heap.size 5 j0 _ 1 1 Tryd.underlying38 hi hz0 hz1 hz2 rfl (by omega) (.slice (some ⟨w.heap.size + 1, 0, none⟩) 1 1) 1 _ rfl ((unhide HW).alloc _) ⟨w3.heap.size, 0, none⟩ 1 1 [.int .u8 (s.length : Int)] rfl rfl (World.news_of_block (cs := #[.int .u8 (s.length : Int)]) (t := 5) (fr := (0, 0)) (heap_alloc_new w3 _)) (by simp [Value.oneCell']) (by omega) (by unfold maxLen; omega) (by omega) (by simp; omega) (w3.heap.size + 1) (by simp) ?_; intro g4 cap4 w4 hown4 hgrow4 hat4 hlt4; have d2 := far_cell hgrow4 (by simp; omega) hne (((Keeps.refl (fun _ => False) w3).alloc _).cell (by omega) id |>.trans a2); have HO4 := hide hown4; have HK4 := hide (((unhide HK).alloc _).grown hgrow4 (fun q e hq => by have := ((unhide HW).lt q e).1; omega)); have hne4 : (Value.slice (some ⟨g4, 0, none⟩) (1 + 1) cap4).ownBlock ≠ some w.heap.size := (by show (some g4 : Option Nat) ≠ _; rcases hat4 with h | h; (rw [← h]; exact hne); (intro e; simp at e; omega)); have hs4 : w.heap.size < w4.heap.size := (by have := hgrow4.size; simp at this; omega); clear hown4 hgrow4 hat4)
    go_loopw [3, 5] (fun o i wr => ∃ k : Nat, k ≤ s.length ∧ i = .int .i64 k ∧ wr.ownsRow w.heap.size 5 1 o (1 + 1 + k) ([.int .u8 (m : Int)] ++ [.int .u8 (s.length : Int)] ++ bs (s.take k)) ∧ wr.cell? ⟨w.heap.size, 2, none⟩ = some (str s) ∧ o.ownBlock ≠ some w.heap.size ∧ w.heap.size < wr.heap.size ∧ Keeps (fun _ => False) w wr) (fun _ i _ => s.length - (intOf i).toNat)
    case atStart => exact ⟨0, Nat.zero_le _, rfl, by simpa [bs] using unhide HO4, d2, hne4, hs4, unhide HK4⟩
    case round =>
      obtain ⟨k, hk, rfl, hown, hbx, hnb, hsb, hkp⟩ := hrel
      have HWR := hide hown
      have HKR := hide hkp
      clear hown hkp a2
      by_cases hlt : k < s.length
      · obtain ⟨x, hx⟩ : ∃ x, s[k]? = some x := ⟨_, List.getElem?_eq_getElem hlt⟩
        have i1 : (k : Int) < (s.length : Int) := by omega
        have i0' : (0 : Int) ≤ (k : Int) := by omega
        have q := str_at hx
        have HS := hide (take_snoc _ _ _ hx)
        clear hx
        go_wp2_with (at_builtin; refine wpList_append_lies _ rfl _ _ _ rfl w.heap.size 5 j0 _ 1 1 Tryd.underlying38 hi hz0 hz1 hz2 rfl (by omega) u3 (1 + 1 + k) _ rfl ((unhide HWR).alloc _) ⟨wr.heap.size, 0, none⟩ 1 1 [.int .u8 (x.toNat : Int)] rfl rfl (World.news_of_block (cs := #[.int .u8 (x.toNat : Int)]) (t := 5) (fr := (0, 0)) (heap_alloc_new wr _)) (by simp [Value.oneCell']) (by omega) (by unfold maxLen; omega) (by omega) (by simp; omega) (wr.heap.size + 1) (by simp) ?_; intro g5 cap5 w5 hown5 hgrow5 hat5 hlt5; have d5 := far_cell hgrow5 (by simp; omega) hnb (((Keeps.refl (fun _ => False) wr).alloc _).cell (by omega) id |>.trans hbx); have HO5 := hide hown5; have HK5 := hide (((unhide HKR).alloc _).grown hgrow5 (fun q e hq => by have := ((unhide HWR).lt q e).1; omega)); have hne5 : (some g5 : Option Nat) ≠ some w.heap.size := (by rcases hat5 with h | h; (rw [← h]; exact hnb); (intro e; simp at e; omega)); have hs5 : w.heap.size < w5.heap.size := (by have := hgrow5.size; simp at this; omega); clear hown5 hgrow5 hat5)
        go_roundw
        case rel =>
          refine ⟨k + 1, by omega, by go_num, ?_, d5, hne5, hs5, unhide HK5⟩
          rw [unhide HS]
          have h5 := unhide HO5
          rw [List.append_assoc] at h5
          simp only [bs, List.map_append, List.map_cons, List.map_nil, num] at h5 ⊢
          exact h5
        case measure => simp [intOf]; omega
      · obtain rfl : k = s.length := by omega
        have i1 : ¬ (s.length : Int) < (s.length : Int) := by omega
        rw [List.take_length] at HWR
        clear hlt
        go_wp2_with fail
        go_ret
        refine ⟨_, rfl, ?_, unhide HKR⟩
        rw [unhide HE, unhide HT]
        have h4 := unhide HWR
        have e5 : bs (u8 m :: cL :: s) = [.int .u8 (m : Int)] ++ [.int .u8 (s.length : Int)] ++ bs s := by simp [bs, unhide HU, unhide HC]
        rw [e5, show (u8 m :: cL :: s).length = 1 + 1 + s.length by simp; omega]
        exact h4
  all_goals
    have HT : Hid (tailB ⟨m, n, s⟩ = [u8 n]) := by show _ = _; simp [tailB, e1]
    rw [e1] at HQ
    have hn01 : 0 ≤ n ∧ n ≤ 255 := by
      first
        | (have := ((unhide HR).2.2.2.1 e1).1; omega)
        | (have := ((unhide HR).2.2.2.2 e1).1; omega)
    obtain ⟨hn0, hn1⟩ := hn01
    have HN := hide (u8_num hn0 hn1)
    have hw9 : IntKind.u8.wrap n = n := by rw [IntKind.wrap_u8]; omega
    clear e1 ho1
    go_enter Tryd.func22, Tryd.ntmps22
    go_wp2_with fail
    refine (unhide HQ).mono ?_
    rintro e w' ⟨rfl, rfl⟩
    generalize (w.alloc (.cells #[.int .i64 (m : Int), .int .i64 n, str s] 54)).alloc (.cells #[.int .u8 (m : Int)] 5) = w3 at HW HK a1 hsz ⊢
    have hs0 : w.heap.size + 2 ≤ w3.heap.size := by omega
    clear a0 a2 b0 HQ hsz
    go_wp2_with (at_builtin; refine wpList_append_lies _ rfl _ _ _ rfl w.heap.size 5 j0 _ 1 1 Tryd.underlying38 hi hz0 hz1 hz2 rfl (by omega) (.slice (some ⟨w.heap.size + 1, 0, none⟩) 1 1) 1 _ rfl ((unhide HW).alloc _) ⟨w3.heap.size, 0, none⟩ 1 1 [.int .u8 n] rfl rfl (World.news_of_block (cs := #[.int .u8 n]) (t := 5) (fr := (0, 0)) (heap_alloc_new w3 _)) (by simp [Value.oneCell']) (by omega) (by unfold maxLen; omega) (by omega) (by simp; omega) (w3.heap.size + 1) (by simp) ?_; intro g4 cap4 w4 hown4 hgrow4 hat4 hlt4; have HO4 := hide hown4; have HK4 := hide (((unhide HK).alloc _).grown hgrow4 (fun q e hq => by have := ((unhide HW).lt q e).1; omega)); clear hown4 hgrow4 hat4)
    go_ret
    refine ⟨_, rfl, ?_, unhide HK4⟩
    rw [unhide HE, unhide HT]
    have h4 := unhide HO4
    have e5 : bs [u8 m, u8 n] = [.int .u8 (m : Int)] ++ [.int .u8 n] := by simp [bs, unhide HU, unhide HN]
    rw [e5]
    exact h4

end Go.Proofs.YtafniangljmjeabDoor
