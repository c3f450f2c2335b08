import Derived.Test.YtiinohibmcefkaaGreatDoorZzag
namespace Go.Proofs.YtiinohibmcefkaaGreatDoor
open Go.RowKit Go.Maps

set_option maxRecDepth 100000 in
set_option maxHeartbeats 800000 in
theorem exprsWellMade_v (Z : Zone) (N : Nat) : ∀ (l : EL), l.size < N → l.size ≤ 4294967294 → ∀ (w : World) (up : Nat) (v : Value), Forms w → SlE Z w up v l →
    Calls Tryz.prog 111 #[v] w fun e w' => e = .returned (.bool (wellE l)) ∧ Keeps (fun _ => False) w w' := by
  induction N with
  | zero => intro l h; omega
  | succ N ih =>
    intro l hsz hlen' w up v hF hS
    have hlen : l.len ≤ 4294967294 := by have := EL.len_le l; omega
    obtain ⟨ao, cap, b, off, rfl, hcap, ha, hx⟩ := hS.open
    have IH := hide ih
    have HX := hide hx
    have HA := hide ha
    have HF := hide hF
    clear hS ih hx ha hF
    go_enter Tryz.func111, Tryz.ntmps111
    go_wp2_with fail
    go_loopw [7] (fun i wr => ∃ (rest : EL) (k : Nat), i = .int .i64 k ∧ k + rest.len = l.len ∧ rest.size ≤ l.size ∧ wellE rest = wellE l ∧ Keeps (fun _ => False) w wr ∧ ExIn Z wr rest b (off + k * 4)) (fun i _ => l.len - (intOf i).toNat)
    case atStart => exact ⟨l, 0, rfl, by omega, Nat.le_refl _, rfl, Keeps.refl _ _, by simpa using unhide HX⟩
    case round =>
      obtain ⟨rest, k, rfl, hkl, hrs, hwe, hkeep, hr⟩ := hrel
      cases rest with
      | nil =>
        simp only [EL.len, EL.size, wellE] at hkl hrs hwe
        have HK := hide hkeep
        clear hkeep hr
        have i1 : ¬ (k : Int) < (l.len : Int) := by omega
        have HWE := hide hwe
        clear hwe
        go_wp2_with fail
        go_ret
        exact ⟨ret_bool (by first | exact unhide HWE | exact (unhide HWE).symm), unhide HK⟩
      | cons op n s kids rest =>
        obtain ⟨h1, h2, h3, h4, h5, ⟨kao, kcap, h6, h7, h8⟩, h9⟩ := hr
        simp only [EL.len, EL.size, wellE] at hkl hrs hwe
        obtain ⟨rfl, hp⟩ := (unhide HA) (by omega)
        have HKID : Hid (SlE Z wr b (.slice kao kids.len kcap) kids) := ⟨kao, kcap, rfl, h7, h8⟩
        have HR := hide h9
        have HK := hide hkeep
        have HWE := hide hwe
        have i1 : (k : Int) < (l.len : Int) := by omega
        have i0 : (0 : Int) ≤ (k : Int) := by omega
        obtain ⟨HB, hxb, hxc⟩ := boxedT wr #[.int .i64 op, .int .i64 n, str s, .slice kao kids.len kcap] 27
        have q3 := hxc 3 (.slice kao kids.len kcap) rfl
        have HRT := hide (rootFits_v op n s kao kids.len kcap _ (((unhide HF).keepF (unhide HK)).keepF (unhide HB)))
        have HKD := fun (w' : World) (hk : Keeps (fun _ => False) wr w') => hide (unhide IH kids (by omega) (by omega) w' b (.slice kao kids.len kcap) (((unhide HF).keepF (unhide HK)).keepF hk) ((unhide HKID).keepF hk))
        clear hkeep h2 h8 h9 hwe hxc
        cases hrt : rootB op n s kids.len with
        | false =>
          rw [hrt] at HRT HWE
          rw [Bool.false_and] at HWE
          go_wp2_with (go_at_call 174; refine (unhide HRT).mono ?_; rintro e w1 ⟨rfl, hk1⟩)
          go_ret
          exact ⟨ret_bool (unhide HWE), ((unhide HK).trans (unhide HB)).trans hk1⟩
        | true =>
          rw [hrt] at HRT HWE
          rw [Bool.true_and] at HWE
          cases hkd : wellE kids with
          | false =>
            simp only [hkd] at HKD
            rw [hkd] at HWE
            rw [Bool.false_and] at HWE
            go_wp2_with (first
              | (go_at_call 174; refine (unhide HRT).mono ?_; rintro e w1 ⟨rfl, hk1⟩; have HK1 := hide ((unhide HB).trans hk1); have q4 := (hk1.cell (o := 3) hxb id).trans q3; clear hk1)
              | (go_at_call 111; refine (unhide (HKD _ (unhide HK1))).mono ?_; rintro e w2 ⟨rfl, hk2⟩; have HK2 := hide ((unhide HK1).trans hk2); clear hk2))
            go_ret
            exact ⟨ret_bool (unhide HWE), (unhide HK).trans (unhide HK2)⟩
          | true =>
            simp only [hkd] at HKD
            rw [hkd] at HWE
            rw [Bool.true_and] at HWE
            go_wp2_with (first
              | (go_at_call 174; refine (unhide HRT).mono ?_; rintro e w1 ⟨rfl, hk1⟩; have HK1 := hide ((unhide HB).trans hk1); have q4 := (hk1.cell (o := 3) hxb id).trans q3; clear hk1)
              | (go_at_call 111; refine (unhide (HKD _ (unhide HK1))).mono ?_; rintro e w2 ⟨rfl, hk2⟩; have HK2 := hide ((unhide HK1).trans hk2); clear hk2))
            go_roundw
            case rel =>
              refine ⟨rest, k + 1, by go_num, by omega, by omega, unhide HWE, (unhide HK).trans (unhide HK2), ?_⟩
              rw [show off + (k + 1) * 4 = off + k * 4 + 4 by omega]
              exact (unhide HR).keepF (unhide HK2)
            case measure => simp [intOf]; omega
end Go.Proofs.YtiinohibmcefkaaGreatDoor
namespace Go.Proofs.YtiinohibmcefkaaGreatDoor
open Go.RowKit Go.Maps

set_option maxRecDepth 100000 in
set_option maxHeartbeats 800000 in
theorem exprsDepth_v (Z : Zone) (N : Nat) : ∀ (l : EL), l.size < N → l.size ≤ 4294967294 → ∀ (w : World) (up : Nat) (v : Value), SlE Z w up v l →
    Calls Tryz.prog 112 #[v] w fun e w' => e = .returned (.int .i64 (depthE l)) ∧ Keeps (fun _ => False) w w' := by
  induction N with
  | zero => intro l h; omega
  | succ N ih =>
    intro l hsz hlen' w up v hS
    have hlen : l.len ≤ 4294967294 := by have := EL.len_le l; omega
    obtain ⟨ao, cap, b, off, rfl, hcap, ha, hx⟩ := hS.open
    have IH := hide ih
    have HX := hide hx
    have HA := hide ha
    have HDL := hide (depthE_le l)
    clear hS ih hx ha
    go_enter Tryz.func112, Tryz.ntmps112
    go_wp2_with fail
    go_loopw [3, 8] (fun d i wr => ∃ (rest : EL) (k m : Nat), d = .int .i64 m ∧ i = .int .i64 k ∧ k + rest.len = l.len ∧ rest.size ≤ l.size ∧ max m (depthE rest) = depthE l ∧ Keeps (fun _ => False) w wr ∧ ExIn Z wr rest b (off + k * 4)) (fun _ i _ => l.len - (intOf i).toNat)
    case atStart => exact ⟨l, 0, 0, rfl, rfl, by omega, Nat.le_refl _, by omega, Keeps.refl _ _, by simpa using unhide HX⟩
    case round =>
      obtain ⟨rest, k, m, rfl, rfl, hkl, hrs, hwe, hkeep, hr⟩ := hrel
      cases rest with
      | nil =>
        simp only [EL.len, EL.size, depthE] at hkl hrs hwe
        have HK := hide hkeep
        have HWE := hide hwe
        clear hkeep hr hwe
        have i1 : ¬ (k : Int) < (l.len : Int) := by omega
        go_wp2_with fail
        go_ret
        exact ⟨ret_int (by have := unhide HWE; omega), unhide HK⟩
      | cons op n s kids rest =>
        obtain ⟨h1, h2, h3, h4, h5, ⟨kao, kcap, h6, h7, h8⟩, h9⟩ := hr
        simp only [EL.len, EL.size, depthE] at hkl hrs hwe
        obtain ⟨rfl, hp⟩ := (unhide HA) (by omega)
        have HKID : Hid (SlE Z wr b (.slice kao kids.len kcap) kids) := ⟨kao, kcap, rfl, h7, h8⟩
        have HR := hide h9
        have HK := hide hkeep
        have HWE := hide hwe
        have i1 : (k : Int) < (l.len : Int) := by omega
        have i0 : (0 : Int) ≤ (k : Int) := by omega
        obtain ⟨HB, hxb, hxc⟩ := boxedT wr #[.int .i64 op, .int .i64 n, str s, .slice kao kids.len kcap] 27
        have q3 := hxc 3 (.slice kao kids.len kcap) rfl
        have HKD := fun (w' : World) (hk : Keeps (fun _ => False) wr w') => hide (unhide IH kids (by omega) (by omega) w' b (.slice kao kids.len kcap) ((unhide HKID).keepF hk))
        have hdk := depthE_le kids
        obtain ⟨D, hD⟩ : ∃ D, D = depthE kids := ⟨_, rfl⟩
        simp only [← hD] at HKD
        rw [← hD] at HWE hdk
        clear hkeep h2 h8 h9 hwe hxc
        go_wp2_with (go_at_call 112; refine (unhide (HKD _ (unhide HB))).mono ?_; rintro e w1 ⟨rfl, hk1⟩; have HK1 := hide ((unhide HB).trans hk1); clear hk1)
        go_roundw
        case rel =>
          refine ⟨rest, k + 1, max m (1 + depthE kids), congrArg (Value.int .i64) (by split <;> omega), by go_num, by omega, by omega, by have := unhide HWE; omega, (unhide HK).trans (unhide HK1), ?_⟩
          rw [show off + (k + 1) * 4 = off + k * 4 + 4 by omega]
          exact (unhide HR).keepF (unhide HK1)
        case measure => simp [intOf]; omega
end Go.Proofs.YtiinohibmcefkaaGreatDoor
