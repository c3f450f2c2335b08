import Derived.Test.YtcicaifioghciaaGreatDoorGb
import Derived.Test.YtcicaifioghciaaGreatDoorJzak
namespace Go.Proofs.YtcicaifioghciaaGreatDoor
open Go.RowKit Go.Maps

/-- Reading all, whatever the fuel. -/
theorem allC_fuel : ∀ (n m : Nat) (b : Txt), b.length ≤ n → b.length ≤ m → allC n b = allC m b
  | 0, 0, _, _, _ => rfl
  | 0, m + 1, b, h, _ => by
    have : b = [] := List.eq_nil_of_length_eq_zero (by omega)
    subst this
    simp [allC]
  | n + 1, 0, b, _, h => by
    have : b = [] := List.eq_nil_of_length_eq_zero (by omega)
    subst this
    simp [allC]
  | n + 1, m + 1, b, h1, h2 => by
    rw [allC, allC]
    split
    · rfl
    · rename_i hb
      have := readC_len b hb
      rw [allC_fuel n m (readC b).2 (by omega) (by omega)]
def allD (b : Txt) : List ValA := allC b.length b
theorem allD_nil : allD [] = [] := by simp [allD, allC]
theorem allD_cons {b : Txt} (h : b ≠ []) : allD b = (readC b).1 :: allD (readC b).2 := by
  unfold allD
  have hl := readC_len b h
  cases hb : b.length with
  | zero => exact absurd (List.eq_nil_of_length_eq_zero hb) h
  | succ n =>
    rw [allC, if_neg h, allC_fuel n (readC b).2.length (readC b).2 (by omega) (by omega)]
theorem refC_D (b : Txt) (h : b.length ≤ 96) : refC b = if (encC (allD b)).2 ≠ 0 ∨ (encC (allD b)).1 ≠ b then ([], 110) else (allD b, 0) := by
  unfold refC
  rw [if_neg (by omega)]
  rfl
/-- What is read ends at the text's own end. -/
theorem readC_suffix (b : Txt) : (readC b).2 <:+ b := by
  cases b with
  | nil => simp [readC]
  | cons c r =>
    have tb : ∀ (t : Txt) (u s : Nat), (tbB t u s).2 <:+ t := by
      intro t
      induction t with
      | nil => intro u s; simp [tbB]
      | cons x t ih =>
        intro u s
        rw [tbB]
        split
        · exact List.suffix_cons x t
        · exact (ih _ _).trans (List.suffix_cons x t)
    simp only [readC]
    repeat' split
    · exact (tb r 0 1).trans (List.suffix_cons c r)
    · exact List.nil_suffix
    · rename_i k q
      exact ((List.drop_suffix _ _).trans (List.suffix_cons _ _)).trans (List.suffix_cons _ _)
    · exact List.nil_suffix
    · exact (List.suffix_cons _ _).trans (List.suffix_cons _ _)
    · exact List.suffix_cons c r
theorem suffix_drop {a b : Txt} (h : a <:+ b) : b.drop (b.length - a.length) = a := by
  obtain ⟨p, rfl⟩ := h
  simp

set_option maxRecDepth 100000 in
set_option maxHeartbeats 2000000 in
theorem refDecode_v (t : Txt) (v : Value) (w : World) (h : BytesAt w v t) :
    Calls Tryz.prog 21 #[v] w fun e w' => ∃ r', e = .returned (.tuple #[r', .int .i64 (refC t).2]) ∧ w'.ownsRow w.heap.size 51 3 r' (refC t).1.length (vcs (refC t).1) ∧ Keeps (fun _ => False) w w' := by
  obtain ⟨ao, cap, rfl⟩ := RowAt.form h
  by_cases h96 : 96 < t.length
  · have e : refC t = ([], 110) := by unfold refC; rw [if_pos h96]
    rw [e]
    have i1 : (96 : Int) < (t.length : Int) := by omega
    clear h
    go_enter Tryz.func21, Tryz.ntmps21
    go_wp2_with fail
    go_ret2
    exact ⟨_, rfl, World.ownsRow_nil _ w.heap.size 51 3, Keeps.refl _ _⟩
  · have hl : t.length ≤ 96 := by omega
    have i1 : ¬ (96 : Int) < (t.length : Int) := by omega
    obtain ⟨i0, hi, hz0, hz1, hz2⟩ := info_parts Tryz.info51
    have HV := hide h
    have HRC := hide (refC_D t hl)
    clear h h96
    go_enter Tryz.func21, Tryz.ntmps21
    go_wp2_with fail
    go_loopw [4, 5] (fun o i wr => ∃ (k : Nat) (dn : List ValA), k ≤ t.length ∧ i = .int .i64 k ∧ dn.length ≤ k ∧ wr.ownsRow w.heap.size 51 3 o dn.length (vcs dn) ∧ Hid (allD t = dn ++ allD (t.drop k) ∧ InR dn) ∧ Keeps (fun _ => False) w wr) (fun _ i _ => t.length - (intOf i).toNat)
    case atStart => exact ⟨0, [], Nat.zero_le _, rfl, by simp, World.ownsRow_nil _ w.heap.size 51 3, ⟨by simp, by intro x hx; simp at hx⟩, Keeps.refl _ _⟩
    case round =>
      obtain ⟨k, dn, hk, rfl, hdk, hown, HS, hkp⟩ := hrel
      obtain ⟨oo, oc, rfl⟩ := (rowAt_own hown).form
      have HW := hide hown
      have HK := hide hkp
      have hsz := hkp.size
      by_cases hlt : k < t.length
      · have hne : t.drop k ≠ [] := by
          intro e
          have := congrArg List.length e
          simp at this
          omega
        have HQ := hide (read_v wr (.slice ao t.length cap) t k ((unhide HV).keepF hkp) hlt (by omega))
        have HAC := hide (allD_cons hne)
        have hrl := readC_len (t.drop k) hne
        rw [List.length_drop] at hrl
        have HDR : Hid (t.drop (t.length - (readC (t.drop k)).2.length) = (readC (t.drop k)).2) := by
          have h1 := readC_suffix (t.drop k)
          exact suffix_drop (h1.trans (List.drop_suffix k t))
        have HRG := hide (readC_range (t.drop k))
        have i2 : (k : Int) < (t.length : Int) := by omega
        clear hown hkp hne
        generalize readC (t.drop k) = R at *
        obtain ⟨x, rs⟩ := R
        simp only at *
        obtain ⟨N, hN⟩ : ∃ N : Nat, N = t.length - rs.length := ⟨_, rfl⟩
        have hNE : (t.length : Int) - (rs.length : Int) = (N : Int) := by omega
        have hNk : k < N := by omega
        have hNt : N ≤ t.length := by omega
        rw [hNE] at HQ
        rw [← hN] at HDR
        clear hNE hN hrl
        go_wp2_with fail
        refine (unhide HQ).mono ?_
        rintro e w2 ⟨rfl, hk2⟩
        have HK2 := hide ((unhide HK).trans hk2)
        have HW2 := hide (ownsRow_kept (unhide HW) hk2 (fun _ _ => id))
        have hs2 : w.heap.size ≤ w2.heap.size := (unhide HK2).size
        have HE : Hid (allD t = (dn ++ [x]) ++ allD (t.drop N) ∧ InR (dn ++ [x])) := by
          refine ⟨?_, InR_append (unhide HS).2 (by intro y hy; simp at hy; subst hy; exact unhide HRG)⟩
          rw [(unhide HS).1, unhide HAC, unhide HDR]
          simp
        clear hk2 HQ
        unfold ValA.v
        obtain ⟨HX, hxb, hxc⟩ := boxed w2 #[.int .i64 x.kind, .int .i64 x.n, str x.s] 51
        have a0 := hxc 0 (.int .i64 x.kind) rfl
        have a1 := hxc 1 (.int .i64 x.n) rfl
        have a2 := hxc 2 (str x.s) rfl
        go_wp2_with (at_builtin; refine wpList_append_lies _ rfl _ _ _ rfl w.heap.size 51 i0 _ 3 32 Tryz.underlying25 hi hz0 hz1 hz2 rfl (by omega) (.slice oo dn.length oc) dn.length (vcs dn) rfl (((unhide HW2).alloc _).alloc _) ⟨w2.heap.size + 1, 0, none⟩ 1 1 x.cs rfl rfl (World.news_of_block (cs := #[.int .i64 x.kind, .int .i64 x.n, str x.s]) (t := 51) (fr := (0, 0)) (by have q := heap_alloc_new (w2.alloc (.cells #[.int .i64 x.kind, .int .i64 x.n, str x.s] 51)) (.cells #[.int .i64 x.kind, .int .i64 x.n, str x.s] 51); rw [World.size_alloc] at q; exact q)) (by simp [Value.oneCell', ValA.cs]) (by omega) (by unfold maxLen; omega) (by omega) (by simp; omega) (w2.heap.size + 2) (by simp) ?_; intro g3 cap3 w3 hown3 hgrow3 hat3 hlt3; have HO3 := hide hown3; have HK3 := hide ((((unhide HK2).alloc _).alloc _).grown hgrow3 (fun q e hq => by have := ((unhide HW2).lt q e).1; omega)); clear hown3 hgrow3 hat3)
        go_roundw
        case rel =>
          refine ⟨N, dn ++ [x], by omega, by go_num, by simp; omega, ?_, HE, unhide HK3⟩
          simpa [vcs] using unhide HO3
        case measure => simp [intOf]; omega
      · obtain rfl : k = t.length := by omega
        have i2 : ¬ (t.length : Int) < (t.length : Int) := by omega
        have hall : allD t = dn := by
          have := (unhide HS).1
          rw [List.drop_length, allD_nil] at this
          simpa using this
        have hdI := (unhide HS).2
        have HQ := hide (refEncode_v dn (.slice oo dn.length oc) wr (rowAt_own hown) hdI)
        have HV2 := hide ((unhide HV).keepF hkp)
        rw [hall] at HRC
        clear hown hkp HS hall hlt
        go_wp2_with fail
        refine (unhide HQ).mono ?_
        rintro e w2 ⟨b2, rfl, ho2, hk2⟩
        have HK2 := hide ((unhide HK).trans hk2)
        have HW2 := hide (ownsRow_kept (unhide HW) hk2 (fun _ _ => id))
        have HQ3 := hide (eqBytes_any w2 (.slice ao t.length cap) b2 t (encC dn).1 ((unhide HV2).keepF hk2) (rowAt_own ho2) (by unfold maxLen; omega))
        clear ho2 hk2 HQ
        by_cases he : (encC dn).2 = 0
        · rw [he]
          rw [he] at HRC
          by_cases hq : t = (encC dn).1
          · rw [decide_eq_true hq] at HQ3
            have HE : Hid (refC t = (dn, 0)) := by show _ = _; rw [unhide HRC, if_neg (by simp; exact hq.symm)]
            clear he hq HRC
            go_wp2_with (go_at_call 12; refine (unhide HQ3).mono ?_; rintro e w4 ⟨rfl, nn, rfl⟩)
            go_ret2
            rw [unhide HE]
            exact ⟨_, rfl, ownsRow_kept (unhide HW2) ((Keeps.refl _ _).drewN _) (fun _ _ => id), (unhide HK2).drewN _⟩
          · rw [decide_eq_false hq] at HQ3
            have HE : Hid (refC t = ([], 110)) := by show _ = _; rw [unhide HRC, if_pos (Or.inr (fun e => hq e.symm))]
            clear he hq HRC
            go_wp2_with (go_at_call 12; refine (unhide HQ3).mono ?_; rintro e w4 ⟨rfl, nn, rfl⟩)
            go_ret2
            rw [unhide HE]
            exact ⟨_, rfl, World.ownsRow_nil _ w.heap.size 51 3, (unhide HK2).drewN _⟩
        · have HE : Hid (refC t = ([], 110)) := by show _ = _; rw [unhide HRC, if_pos (Or.inl he)]
          have he2 : ((encC dn).2 != 0) = true := by simpa using he
          clear he HRC HQ3
          generalize (encC dn).2 = E at *
          go_wp2_with fail
          go_ret2
          rw [unhide HE]
          exact ⟨_, rfl, World.ownsRow_nil _ w.heap.size 51 3, unhide HK2⟩

end Go.Proofs.YtcicaifioghciaaGreatDoor
