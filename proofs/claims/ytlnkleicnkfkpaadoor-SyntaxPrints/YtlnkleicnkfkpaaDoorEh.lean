import Derived.Test.YtlnkleicnkfkpaaDoorEg
namespace Go.Proofs.YtlnkleicnkfkpaaDoor
open Go.RowKit Go.Maps

set_option maxRecDepth 100000 in
set_option maxHeartbeats 800000 in
theorem exprsDepth_v (Z : Zone) (N : Nat) : ∀ (l : EL), l.size < N → l.size ≤ 2147483647 → ∀ (w : World) (up : Nat) (v : Value), SlE Z w up v l →
    Calls Tryd.prog 26 #[v] w fun e w' => e = .returned (.int .i64 (depthE l)) ∧ Keeps (fun _ => False) w w' := by
  induction N with
  | zero => intro l h; omega
  | succ N ih =>
    intro l hsz hlen' w up v hS
    have hlen : l.len ≤ 2147483647 := by have := EL.len_le l; omega
    obtain ⟨ao, cap, b, off, rfl, hcap, ha, hx⟩ := hS.open
    have IH := hide ih
    have HX := hide hx
    have HA := hide ha
    have HDL := hide (depthE_le l)
    clear hS ih hx ha
    go_enter Tryd.func26, Tryd.ntmps26
    go_wp2_with fail
    go_loopw [3, 8] (fun d i wr => ∃ (rest : EL) (k m : Nat), d = .int .i64 m ∧ i = .int .i64 k ∧ k + rest.len = l.len ∧ rest.size ≤ l.size ∧ max m (depthE rest) = depthE l ∧ Keeps (fun _ => False) w wr ∧ ExIn Z wr rest b (off + k * 4)) (fun _ i _ => l.len - (intOf i).toNat)
    case atStart => exact ⟨l, 0, 0, rfl, rfl, by omega, Nat.le_refl _, by omega, Keeps.refl _ _, by simpa using unhide HX⟩
    case round =>
      obtain ⟨rest, k, m, rfl, rfl, hkl, hrs, hwe, hkeep, hr⟩ := hrel
      cases rest with
      | nil =>
        simp only [EL.len, EL.size, depthE] at hkl hrs hwe
        have HK := hide hkeep
        have HWE := hide hwe
        clear hkeep hr hwe
        have i1 : ¬ (k : Int) < (l.len : Int) := by omega
        go_wp2_with fail
        go_ret
        exact ⟨ret_int (by have := unhide HWE; omega), unhide HK⟩
      | cons op n s kids rest =>
        obtain ⟨h1, h2, h3, h4, h5, ⟨kao, kcap, h6, h7, h8⟩, h9⟩ := hr
        simp only [EL.len, EL.size, depthE] at hkl hrs hwe
        obtain ⟨rfl, hp⟩ := (unhide HA) (by omega)
        have HKID : Hid (SlE Z wr b (.slice kao kids.len kcap) kids) := ⟨kao, kcap, rfl, h7, h8⟩
        have HR := hide h9
        have HK := hide hkeep
        have HWE := hide hwe
        have i1 : (k : Int) < (l.len : Int) := by omega
        have i0 : (0 : Int) ≤ (k : Int) := by omega
        obtain ⟨HB, hxb, hxc⟩ := boxedT wr #[.int .i64 op, .int .i64 n, str s, .slice kao kids.len kcap] 25
        have q3 := hxc 3 (.slice kao kids.len kcap) rfl
        have HKD := fun (w' : World) (hk : Keeps (fun _ => False) wr w') => hide (unhide IH kids (by omega) (by omega) w' b (.slice kao kids.len kcap) ((unhide HKID).keepF hk))
        have hdk := depthE_le kids
        obtain ⟨D, hD⟩ : ∃ D, D = depthE kids := ⟨_, rfl⟩
        simp only [← hD] at HKD
        rw [← hD] at HWE hdk
        clear hkeep h2 h8 h9 hwe hxc
        go_wp2_with (go_at_call 26; refine (unhide (HKD _ (unhide HB))).mono ?_; rintro e w1 ⟨rfl, hk1⟩; have HK1 := hide ((unhide HB).trans hk1); clear hk1)
        go_roundw
        case rel =>
          refine ⟨rest, k + 1, max m (1 + depthE kids), congrArg (Value.int .i64) (by split <;> omega), by go_num, by omega, by omega, by have := unhide HWE; omega, (unhide HK).trans (unhide HK1), ?_⟩
          rw [show off + (k + 1) * 4 = off + k * 4 + 4 by omega]
          exact (unhide HR).keepF (unhide HK1)
        case measure => simp [intOf]; omega
end Go.Proofs.YtlnkleicnkfkpaaDoor
