import Derived.Test.YtlnkleicnkfkpaaDoorEo
namespace Go.Proofs.YtlnkleicnkfkpaaDoor
open Go.RowKit Go.Maps

set_option maxRecDepth 100000 in
set_option maxHeartbeats 1600000 in
theorem wellExpr_v (Z : Zone) (N : Nat) : ∀ (kids : EL), kids.size < N → kids.size ≤ 2147483647 → ∀ (op n : Int) (s : Txt) (w : World) (up : Nat) (v : Value), SlE Z w up v kids →
    Calls Tryd.prog 30 #[exV op n s v] w fun e w' => e = .returned (.bool (rootB op n s kids.len && wellE kids)) ∧ Keeps (fun _ => False) w w' := by
  induction N with
  | zero => intro l h; omega
  | succ N ih =>
    intro l hsz hlen' op n s w up v hS
    have hlen : l.len ≤ 2147483647 := by have := EL.len_le l; omega
    obtain ⟨ao, cap, b, off, rfl, hcap, ha, hx⟩ := hS.open
    obtain ⟨HB, hxb, hxc⟩ := boxedT w #[.int .i64 op, .int .i64 n, str s, .slice ao l.len cap] 25
    have c0 := hxc 0 (.int .i64 op) rfl
    have c1 := hxc 1 (.int .i64 n) rfl
    have c2 := hxc 2 (str s) rfl
    have c3 := hxc 3 (.slice ao l.len cap) rfl
    have IH := hide ih
    have HX := hide hx
    have HA := hide ha
    have HLF := hide (leaf_v op n s (.slice ao l.len cap) (w.alloc (.cells #[.int .i64 op, .int .i64 n, str s, .slice ao l.len cap] 25)) ⟨_, _, _, rfl⟩)
    have HKI := hide (kids_v op (w.alloc (.cells #[.int .i64 op, .int .i64 n, str s, .slice ao l.len cap] 25)))
    clear hS ih hx ha hxc
    unfold rootB
    by_cases hk0 : 0 ≤ kidsB op
    · rw [decide_eq_true hk0, Bool.true_and]
      by_cases hkk : (l.len : Int) = kidsB op
      · rw [decide_eq_true hkk, Bool.true_and]
        generalize kidsB op = K at *
        subst hkk
        cases hlf : leafB op n s with
        | false =>
          rw [hlf] at HLF
          rw [Bool.false_and]
          go_enter Tryd.func30, Tryd.ntmps30
          go_wp2_with (first
            | (go_at_call 41; refine (unhide HKI).mono ?_; rintro e w1 ⟨rfl, rfl⟩)
            | (go_at_call 42; refine (unhide HLF).mono ?_; rintro e w2 ⟨rfl, hk2⟩))
          go_ret
          exact ⟨rfl, (unhide HB).trans hk2⟩
        | true =>
          rw [hlf] at HLF
          rw [Bool.true_and]
          go_enter Tryd.func30, Tryd.ntmps30
          go_wp2_with (first
            | (go_at_call 41; refine (unhide HKI).mono ?_; rintro e w1 ⟨rfl, rfl⟩)
            | (go_at_call 42; refine (unhide HLF).mono ?_; rintro e w2 ⟨rfl, hk2⟩; have HK2 := hide hk2; clear hk2))
          go_loopw [4] (fun i wr => ∃ (rest : EL) (k : Nat), i = .int .i64 k ∧ k + rest.len = l.len ∧ rest.size ≤ l.size ∧ wellE rest = wellE l ∧ Keeps (fun _ => False) (w.alloc (.cells #[.int .i64 op, .int .i64 n, str s, .slice ao l.len cap] 25)) wr ∧ ExIn Z wr rest b (off + k * 4)) (fun i _ => l.len - (intOf i).toNat)
          case atStart => exact ⟨l, 0, rfl, by omega, Nat.le_refl _, rfl, unhide HK2, by simpa using (unhide HX).keepF ((unhide HB).trans (unhide HK2))⟩
          case round =>
            obtain ⟨rest, k, rfl, hkl, hrs, hwe, hkeep, hr⟩ := hrel
            have q3 := (hkeep.cell (o := 3) hxb id).trans c3
            have HK := hide hkeep
            clear HK2 hkeep
            cases rest with
            | nil =>
              simp only [EL.len, EL.size, wellE] at hkl hrs hwe
              have HWE := hide hwe
              clear hr hwe
              have i1 : ¬ (k : Int) < (l.len : Int) := by omega
              go_wp2_with fail
              go_ret
              exact ⟨ret_bool (by first | exact unhide HWE | exact (unhide HWE).symm), (unhide HB).trans (unhide HK)⟩
            | cons op' n' s' kids rest =>
              obtain ⟨h1, h2, h3, h4, h5, ⟨kao, kcap, h6, h7, h8⟩, h9⟩ := hr
              simp only [EL.len, EL.size, wellE] at hkl hrs hwe
              obtain ⟨rfl, hp⟩ := (unhide HA) (by omega)
              have HKID : Hid (SlE Z wr b (.slice kao kids.len kcap) kids) := ⟨kao, kcap, rfl, h7, h8⟩
              have HR := hide h9
              have HWE := hide hwe
              have i1 : (k : Int) < (l.len : Int) := by omega
              have i0 : (0 : Int) ≤ (k : Int) := by omega
              have HKD := hide (unhide IH kids (by omega) (by omega) op' n' s' wr b (.slice kao kids.len kcap) (unhide HKID))
              clear h2 h8 h9 hwe
              rw [← Bool.and_assoc] at HWE
              cases hv : (rootB op' n' s' kids.len && wellE kids) with
              | false =>
                rw [hv] at HKD HWE
                go_wp2_with (go_at_call 30; refine (unhide HKD).mono ?_; rintro e w1 ⟨rfl, hk1⟩)
                go_ret
                exact ⟨ret_bool (by have := unhide HWE; simpa using this), ((unhide HB).trans (unhide HK)).trans hk1⟩
              | true =>
                rw [hv] at HKD HWE
                go_wp2_with (go_at_call 30; refine (unhide HKD).mono ?_; rintro e w1 ⟨rfl, hk1⟩; have HK1 := hide hk1; clear hk1)
                go_roundw
                case rel =>
                  refine ⟨rest, k + 1, by go_num, by omega, by omega, by have := unhide HWE; simpa using this, (unhide HK).trans (unhide HK1), ?_⟩
                  rw [show off + (k + 1) * 4 = off + k * 4 + 4 by omega]
                  exact (unhide HR).keepF (unhide HK1)
                case measure => simp [intOf]; omega
      · rw [decide_eq_false hkk, Bool.false_and, Bool.false_and]
        generalize kidsB op = K at *
        have d1 : ((l.len : Int) != K) = true := by simpa using hkk
        have d0 : ¬ K < 0 := by omega
        clear hkk
        go_enter Tryd.func30, Tryd.ntmps30
        go_wp2_with (go_at_call 41; refine (unhide HKI).mono ?_; rintro e w1 ⟨rfl, rfl⟩)
        all_goals (go_ret; exact ⟨rfl, unhide HB⟩)
    · rw [decide_eq_false hk0, Bool.false_and, Bool.false_and]
      generalize kidsB op = K at *
      have d0 : K < 0 := by omega
      go_enter Tryd.func30, Tryd.ntmps30
      go_wp2_with (go_at_call 41; refine (unhide HKI).mono ?_; rintro e w1 ⟨rfl, rfl⟩)
      all_goals (go_ret; exact ⟨rfl, unhide HB⟩)
end Go.Proofs.YtlnkleicnkfkpaaDoor
