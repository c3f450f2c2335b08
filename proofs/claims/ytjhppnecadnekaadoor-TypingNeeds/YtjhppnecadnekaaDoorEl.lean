import Derived.Test.YtjhppnecadnekaaDoorEk
namespace Go.Proofs.YtjhppnecadnekaaDoor
open Go.RowKit Go.Maps

set_option maxRecDepth 100000 in
set_option maxHeartbeats 1600000 in
theorem wellMade_v (Z : Zone) (N : Nat) : ∀ (l : SL), l.size < N → l.size ≤ 4294967294 → ∀ (w : World) (up : Nat) (v : Value), Forms w → SlS Z w up v l →
    Calls Tryd.prog 63 #[v] w fun e w' => e = .returned (.bool (wellS l)) ∧ Keeps (fun _ => False) w w' := by
  induction N with
  | zero => intro l h; omega
  | succ N ih =>
    intro l hsz hlen' w up v hF hS
    have hlen : l.len ≤ 4294967294 := by have := SL.len_le l; omega
    obtain ⟨ao, cap, b, off, rfl, hcap, ha, hx⟩ := hS.open
    have IH := hide ih
    have HX := hide hx
    have HA := hide ha
    have HF := hide hF
    clear hS ih hx ha hF
    go_enter Tryd.func63, Tryd.ntmps63
    go_wp2_with fail
    go_loopw [7] (fun i wr => ∃ (rest : SL) (k : Nat), i = .int .i64 k ∧ k + rest.len = l.len ∧ rest.size ≤ l.size ∧ wellS rest = wellS l ∧ Keeps (fun _ => False) w wr ∧ StIn Z wr rest b (off + k * 5)) (fun i _ => l.len - (intOf i).toNat)
    case atStart => exact ⟨l, 0, rfl, by omega, Nat.le_refl _, rfl, Keeps.refl _ _, by simpa using unhide HX⟩
    case round =>
      obtain ⟨rest, k, rfl, hkl, hrs, hwe, hkeep, hr⟩ := hrel
      cases rest with
      | nil =>
        simp only [SL.len, SL.size, wellS] at hkl hrs hwe
        have HK := hide hkeep
        have HWE := hide hwe
        clear hkeep hr hwe
        have i1 : ¬ (k : Int) < (l.len : Int) := by omega
        go_wp2_with fail
        go_ret
        exact ⟨ret_bool (by first | exact unhide HWE | exact (unhide HWE).symm), unhide HK⟩
      | cons op f ex th el rest =>
        obtain ⟨h1, h2, h3, h4, ⟨xv, h5, hxs⟩, ⟨tao, tcap, h6, h7, h8⟩, ⟨eao, ecap, g6, g7, g8⟩, h9⟩ := hr
        simp only [SL.len, SL.size, wellS] at hkl hrs hwe
        obtain ⟨rfl, hp⟩ := (unhide HA) (by omega)
        have HTH : Hid (SlS Z wr b (.slice tao th.len tcap) th) := ⟨tao, tcap, rfl, h7, h8⟩
        have HEL : Hid (SlS Z wr b (.slice eao el.len ecap) el) := ⟨eao, ecap, rfl, g7, g8⟩
        have HEX := hide hxs
        obtain ⟨xao, xcap, rfl, hxl⟩ := hxs.head
        have HR := hide h9
        have HK := hide hkeep
        have HWE := hide hwe
        have i1 : (k : Int) < (l.len : Int) := by omega
        have i0 : (0 : Int) ≤ (k : Int) := by omega
        obtain ⟨HB, hxb, hxc⟩ := boxedT wr #[.int .i64 op, str f, .slice xao ex.len xcap, .slice tao th.len tcap, .slice eao el.len ecap] 64
        have q2 := hxc 2 (.slice xao ex.len xcap) rfl
        have q3 := hxc 3 (.slice tao th.len tcap) rfl
        have q4 := hxc 4 (.slice eao el.len ecap) rfl
        have HFW := hide ((unhide HF).keepF (unhide HK))
        have HHD := hide (headFits_v op f xao tao eao ex.len th.len el.len xcap tcap ecap (wr.alloc (.cells #[.int .i64 op, str f, .slice xao ex.len xcap, .slice tao th.len tcap, .slice eao el.len ecap] 64)))
        have HQX := fun (w' : World) (hk : Keeps (fun _ => False) wr w') => hide (exprsWellMade_v Z (ex.size + 1) ex (by omega) (by omega) w' b (.slice xao ex.len xcap) ((unhide HFW).keepF hk) ((unhide HEX).keepF hk))
        have HQT := fun (w' : World) (hk : Keeps (fun _ => False) wr w') => hide (unhide IH th (by omega) (by omega) w' b (.slice tao th.len tcap) ((unhide HFW).keepF hk) ((unhide HTH).keepF hk))
        have HQE := fun (w' : World) (hk : Keeps (fun _ => False) wr w') => hide (unhide IH el (by omega) (by omega) w' b (.slice eao el.len ecap) ((unhide HFW).keepF hk) ((unhide HEL).keepF hk))
        clear hkeep h2 h8 h9 hwe hxc hxs g8
        generalize headS op f ex.len th.len el.len = b1 at HHD HWE
        generalize wellE ex = b2 at HQX HWE
        generalize wellS th = b3 at HQT HWE
        generalize wellS el = b4 at HQE HWE
        cases b1 with
        | false =>
          go_wp2_with (first
            | (go_at_call 80; refine (unhide HHD).mono ?_; rintro e w1 ⟨rfl, hk1⟩; have HJ1 := hide hk1; have HK1 := hide ((unhide HB).trans hk1); have r2 := (hk1.cell (o := 2) hxb id).trans q2; clear hk1)
            | (go_at_call 81; refine (unhide (HQX _ (unhide HK1))).mono ?_; rintro e w2 ⟨rfl, hk2⟩; have HJ2 := hide ((unhide HJ1).trans hk2); have HK2 := hide ((unhide HK1).trans hk2); have r3 := ((unhide HJ2).cell (o := 3) hxb id).trans q3; clear hk2)
            | (go_at_call_of 63 (Value.slice tao th.len tcap); refine (unhide (HQT _ (unhide HK2))).mono ?_; rintro e w3 ⟨rfl, hk3⟩; have HJ3 := hide ((unhide HJ2).trans hk3); have HK3 := hide ((unhide HK2).trans hk3); have r4 := ((unhide HJ3).cell (o := 4) hxb id).trans q4; clear hk3)
            | (go_at_call_of 63 (Value.slice eao el.len ecap); refine (unhide (HQE _ (unhide HK3))).mono ?_; rintro e w4 ⟨rfl, hk4⟩; have HK4 := hide ((unhide HK3).trans hk4); clear hk4))
          go_ret
          exact ⟨ret_bool (by have := unhide HWE; simpa using this), (unhide HK).trans (unhide HK1)⟩
        | true =>
          cases b2 with
          | false =>
            go_wp2_with (first
              | (go_at_call 80; refine (unhide HHD).mono ?_; rintro e w1 ⟨rfl, hk1⟩; have HJ1 := hide hk1; have HK1 := hide ((unhide HB).trans hk1); have r2 := (hk1.cell (o := 2) hxb id).trans q2; clear hk1)
              | (go_at_call 81; refine (unhide (HQX _ (unhide HK1))).mono ?_; rintro e w2 ⟨rfl, hk2⟩; have HJ2 := hide ((unhide HJ1).trans hk2); have HK2 := hide ((unhide HK1).trans hk2); have r3 := ((unhide HJ2).cell (o := 3) hxb id).trans q3; clear hk2)
              | (go_at_call_of 63 (Value.slice tao th.len tcap); refine (unhide (HQT _ (unhide HK2))).mono ?_; rintro e w3 ⟨rfl, hk3⟩; have HJ3 := hide ((unhide HJ2).trans hk3); have HK3 := hide ((unhide HK2).trans hk3); have r4 := ((unhide HJ3).cell (o := 4) hxb id).trans q4; clear hk3)
              | (go_at_call_of 63 (Value.slice eao el.len ecap); refine (unhide (HQE _ (unhide HK3))).mono ?_; rintro e w4 ⟨rfl, hk4⟩; have HK4 := hide ((unhide HK3).trans hk4); clear hk4))
            go_ret
            exact ⟨ret_bool (by have := unhide HWE; simpa using this), (unhide HK).trans (unhide HK2)⟩
          | true =>
            cases b3 with
            | false =>
              go_wp2_with (first
                | (go_at_call 80; refine (unhide HHD).mono ?_; rintro e w1 ⟨rfl, hk1⟩; have HJ1 := hide hk1; have HK1 := hide ((unhide HB).trans hk1); have r2 := (hk1.cell (o := 2) hxb id).trans q2; clear hk1)
                | (go_at_call 81; refine (unhide (HQX _ (unhide HK1))).mono ?_; rintro e w2 ⟨rfl, hk2⟩; have HJ2 := hide ((unhide HJ1).trans hk2); have HK2 := hide ((unhide HK1).trans hk2); have r3 := ((unhide HJ2).cell (o := 3) hxb id).trans q3; clear hk2)
                | (go_at_call_of 63 (Value.slice tao th.len tcap); refine (unhide (HQT _ (unhide HK2))).mono ?_; rintro e w3 ⟨rfl, hk3⟩; have HJ3 := hide ((unhide HJ2).trans hk3); have HK3 := hide ((unhide HK2).trans hk3); have r4 := ((unhide HJ3).cell (o := 4) hxb id).trans q4; clear hk3)
                | (go_at_call_of 63 (Value.slice eao el.len ecap); refine (unhide (HQE _ (unhide HK3))).mono ?_; rintro e w4 ⟨rfl, hk4⟩; have HK4 := hide ((unhide HK3).trans hk4); clear hk4))
              go_ret
              exact ⟨ret_bool (by have := unhide HWE; simpa using this), (unhide HK).trans (unhide HK3)⟩
            | true =>
              cases b4 with
              | false =>
                go_wp2_with (first
                  | (go_at_call 80; refine (unhide HHD).mono ?_; rintro e w1 ⟨rfl, hk1⟩; have HJ1 := hide hk1; have HK1 := hide ((unhide HB).trans hk1); have r2 := (hk1.cell (o := 2) hxb id).trans q2; clear hk1)
                  | (go_at_call 81; refine (unhide (HQX _ (unhide HK1))).mono ?_; rintro e w2 ⟨rfl, hk2⟩; have HJ2 := hide ((unhide HJ1).trans hk2); have HK2 := hide ((unhide HK1).trans hk2); have r3 := ((unhide HJ2).cell (o := 3) hxb id).trans q3; clear hk2)
                  | (go_at_call_of 63 (Value.slice tao th.len tcap); refine (unhide (HQT _ (unhide HK2))).mono ?_; rintro e w3 ⟨rfl, hk3⟩; have HJ3 := hide ((unhide HJ2).trans hk3); have HK3 := hide ((unhide HK2).trans hk3); have r4 := ((unhide HJ3).cell (o := 4) hxb id).trans q4; clear hk3)
                  | (go_at_call_of 63 (Value.slice eao el.len ecap); refine (unhide (HQE _ (unhide HK3))).mono ?_; rintro e w4 ⟨rfl, hk4⟩; have HK4 := hide ((unhide HK3).trans hk4); clear hk4))
                go_ret
                exact ⟨ret_bool (by have := unhide HWE; simpa using this), (unhide HK).trans (unhide HK4)⟩
              | true =>
                go_wp2_with (first
                  | (go_at_call 80; refine (unhide HHD).mono ?_; rintro e w1 ⟨rfl, hk1⟩; have HJ1 := hide hk1; have HK1 := hide ((unhide HB).trans hk1); have r2 := (hk1.cell (o := 2) hxb id).trans q2; clear hk1)
                  | (go_at_call 81; refine (unhide (HQX _ (unhide HK1))).mono ?_; rintro e w2 ⟨rfl, hk2⟩; have HJ2 := hide ((unhide HJ1).trans hk2); have HK2 := hide ((unhide HK1).trans hk2); have r3 := ((unhide HJ2).cell (o := 3) hxb id).trans q3; clear hk2)
                  | (go_at_call_of 63 (Value.slice tao th.len tcap); refine (unhide (HQT _ (unhide HK2))).mono ?_; rintro e w3 ⟨rfl, hk3⟩; have HJ3 := hide ((unhide HJ2).trans hk3); have HK3 := hide ((unhide HK2).trans hk3); have r4 := ((unhide HJ3).cell (o := 4) hxb id).trans q4; clear hk3)
                  | (go_at_call_of 63 (Value.slice eao el.len ecap); refine (unhide (HQE _ (unhide HK3))).mono ?_; rintro e w4 ⟨rfl, hk4⟩; have HK4 := hide ((unhide HK3).trans hk4); clear hk4))
                go_roundw
                case rel =>
                  refine ⟨rest, k + 1, by go_num, by omega, by omega, by have := unhide HWE; simpa using this, (unhide HK).trans (unhide HK4), ?_⟩
                  rw [show off + (k + 1) * 5 = off + k * 5 + 5 by omega]
                  exact (unhide HR).keepF (unhide HK4)
                case measure => simp [intOf]; omega
end Go.Proofs.YtjhppnecadnekaaDoor
