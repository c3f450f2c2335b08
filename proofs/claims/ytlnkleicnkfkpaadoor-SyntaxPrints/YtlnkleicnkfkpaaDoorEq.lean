import Derived.Test.YtlnkleicnkfkpaaDoorEp
namespace Go.Proofs.YtlnkleicnkfkpaaDoor
open Go.RowKit Go.Maps

set_option maxRecDepth 100000 in
set_option maxHeartbeats 1600000 in
theorem depthExpr_v (Z : Zone) (N : Nat) : ∀ (kids : EL), kids.size < N → kids.size ≤ 2147483647 → ∀ (op n : Int) (s : Txt) (w : World) (up : Nat) (v : Value), SlE Z w up v kids →
    Calls Tryd.prog 31 #[exV op n s v] w fun e w' => e = .returned (.int .i64 ((1 + depthE kids : Nat) : Int)) ∧ Keeps (fun _ => False) w w' := by
  induction N with
  | zero => intro l h; omega
  | succ N ih =>
    intro l hsz hlen' op n s w up v hS
    have hlen : l.len ≤ 2147483647 := by have := EL.len_le l; omega
    have hdl := depthE_le l
    obtain ⟨ao, cap, b, off, rfl, hcap, ha, hx⟩ := hS.open
    obtain ⟨HB, hxb, hxc⟩ := boxedT w #[.int .i64 op, .int .i64 n, str s, .slice ao l.len cap] 25
    have c3 := hxc 3 (.slice ao l.len cap) rfl
    have IH := hide ih
    have HX := hide hx
    have HA := hide ha
    clear hS ih hx ha hxc
    go_enter Tryd.func31, Tryd.ntmps31
    go_wp2_with fail
    go_loopw [3, 4] (fun d i wr => ∃ (rest : EL) (k m : Nat), d = .int .i64 m ∧ i = .int .i64 k ∧ k + rest.len = l.len ∧ rest.size ≤ l.size ∧ max m (depthE rest) = depthE l ∧ Keeps (fun _ => False) (w.alloc (.cells #[.int .i64 op, .int .i64 n, str s, .slice ao l.len cap] 25)) wr ∧ ExIn Z wr rest b (off + k * 4)) (fun _ i _ => l.len - (intOf i).toNat)
    case atStart => exact ⟨l, 0, 0, rfl, rfl, by omega, Nat.le_refl _, by omega, Keeps.refl _ _, by simpa using (unhide HX).keepF (unhide HB)⟩
    case round =>
      obtain ⟨rest, k, m, rfl, rfl, hkl, hrs, hwe, hkeep, hr⟩ := hrel
      have q3 := (hkeep.cell (o := 3) hxb id).trans c3
      have HK := hide hkeep
      clear hkeep
      cases rest with
      | nil =>
        simp only [EL.len, EL.size, depthE] at hkl hrs hwe
        clear hr
        have i1 : ¬ (k : Int) < (l.len : Int) := by omega
        go_wp2_with fail
        go_ret
        exact ⟨ret_int (by omega), (unhide HB).trans (unhide HK)⟩
      | cons op' n' s' kids rest =>
        obtain ⟨h1, h2, h3, h4, h5, ⟨kao, kcap, h6, h7, h8⟩, h9⟩ := hr
        simp only [EL.len, EL.size, depthE] at hkl hrs hwe
        obtain ⟨rfl, hp⟩ := (unhide HA) (by omega)
        have HKID : Hid (SlE Z wr b (.slice kao kids.len kcap) kids) := ⟨kao, kcap, rfl, h7, h8⟩
        have HR := hide h9
        have HWE := hide hwe
        have i1 : (k : Int) < (l.len : Int) := by omega
        have i0 : (0 : Int) ≤ (k : Int) := by omega
        have HKD := hide (unhide IH kids (by omega) (by omega) op' n' s' wr b (.slice kao kids.len kcap) (unhide HKID))
        have hdk := depthE_le kids
        generalize hD : 1 + depthE kids = D at HKD HWE
        clear h2 h8 h9 hwe
        by_cases hmd : (m : Int) < (D : Int)
        · go_wp2_with (go_at_call 31; refine (unhide HKD).mono ?_; rintro e w1 ⟨rfl, hk1⟩; have HK1 := hide hk1; clear hk1)
          go_roundw
          case rel =>
            refine ⟨rest, k + 1, D, rfl, by go_num, by omega, by omega, by have := unhide HWE; omega, (unhide HK).trans (unhide HK1), ?_⟩
            rw [show off + (k + 1) * 4 = off + k * 4 + 4 by omega]
            exact (unhide HR).keepF (unhide HK1)
          case measure => simp [intOf]; omega
        · go_wp2_with (go_at_call 31; refine (unhide HKD).mono ?_; rintro e w1 ⟨rfl, hk1⟩; have HK1 := hide hk1; clear hk1)
          go_roundw
          case rel =>
            refine ⟨rest, k + 1, m, rfl, by go_num, by omega, by omega, by have := unhide HWE; omega, (unhide HK).trans (unhide HK1), ?_⟩
            rw [show off + (k + 1) * 4 = off + k * 4 + 4 by omega]
            exact (unhide HR).keepF (unhide HK1)
          case measure => simp [intOf]; omega
end Go.Proofs.YtlnkleicnkfkpaaDoor
