import Derived.Test.YtoempeobaknkcaaGreatDoorJyad
namespace Go.Proofs.YtoempeobaknkcaaGreatDoor
open Go.RowKit Go.Maps

set_option maxRecDepth 100000 in
set_option maxHeartbeats 1600000 in
theorem depthExpr_v (Z : Zone) (N : Nat) : ∀ (kids : EL), kids.size < N → kids.size ≤ 4294967294 → ∀ (op n : Int) (s : Txt) (w : World) (up : Nat) (v : Value), SlE Z w up v kids →
    Calls Tryz.prog 87 #[exV op n s v] w fun e w' => e = .returned (.int .i64 ((1 + depthE kids : Nat) : Int)) ∧ Keeps (fun _ => False) w w' := by
  induction N with
  | zero => intro l h; omega
  | succ N ih =>
    intro l hsz hlen' op n s w up v hS
    have hlen : l.len ≤ 4294967294 := by have := EL.len_le l; omega
    have hdl := depthE_le l
    obtain ⟨ao, cap, b, off, rfl, hcap, ha, hx⟩ := hS.open
    obtain ⟨HB, hxb, hxc⟩ := boxedT w #[.int .i64 op, .int .i64 n, str s, .slice ao l.len cap] 57
    have c3 := hxc 3 (.slice ao l.len cap) rfl
    have IH := hide ih
    have HX := hide hx
    have HA := hide ha
    clear hS ih hx ha hxc
    go_enter Tryz.func87, Tryz.ntmps87
    go_wp2_with fail
    go_loopw [3, 4] (fun d i wr => ∃ (rest : EL) (k m : Nat), d = .int .i64 m ∧ i = .int .i64 k ∧ k + rest.len = l.len ∧ rest.size ≤ l.size ∧ max m (depthE rest) = depthE l ∧ Keeps (fun _ => False) (w.alloc (.cells #[.int .i64 op, .int .i64 n, str s, .slice ao l.len cap] 57)) wr ∧ ExIn Z wr rest b (off + k * 4)) (fun _ i _ => l.len - (intOf i).toNat)
    case atStart => exact ⟨l, 0, 0, rfl, rfl, by omega, Nat.le_refl _, by omega, Keeps.refl _ _, by simpa using (unhide HX).keepF (unhide HB)⟩
    case round =>
      obtain ⟨rest, k, m, rfl, rfl, hkl, hrs, hwe, hkeep, hr⟩ := hrel
      have q3 := (hkeep.cell (o := 3) hxb id).trans c3
      have HK := hide hkeep
      clear hkeep
      cases rest with
      | nil =>
        simp only [EL.len, EL.size, depthE] at hkl hrs hwe
        clear hr
        have i1 : ¬ (k : Int) < (l.len : Int) := by omega
        go_wp2_with fail
        go_ret
        exact ⟨ret_int (by omega), (unhide HB).trans (unhide HK)⟩
      | cons op' n' s' kids rest =>
        obtain ⟨h1, h2, h3, h4, h5, ⟨kao, kcap, h6, h7, h8⟩, h9⟩ := hr
        simp only [EL.len, EL.size, depthE] at hkl hrs hwe
        obtain ⟨rfl, hp⟩ := (unhide HA) (by omega)
        have HKID : Hid (SlE Z wr b (.slice kao kids.len kcap) kids) := ⟨kao, kcap, rfl, h7, h8⟩
        have HR := hide h9
        have HWE := hide hwe
        have i1 : (k : Int) < (l.len : Int) := by omega
        have i0 : (0 : Int) ≤ (k : Int) := by omega
        have HKD := hide (unhide IH kids (by omega) (by omega) op' n' s' wr b (.slice kao kids.len kcap) (unhide HKID))
        have hdk := depthE_le kids
        generalize hD : 1 + depthE kids = D at HKD HWE
        clear h2 h8 h9 hwe
        by_cases hmd : (m : Int) < (D : Int)
        · go_wp2_with (go_at_call 87; refine (unhide HKD).mono ?_; rintro e w1 ⟨rfl, hk1⟩; have HK1 := hide hk1; clear hk1)
          go_roundw
          case rel =>
            refine ⟨rest, k + 1, D, rfl, by go_num, by omega, by omega, by have := unhide HWE; omega, (unhide HK).trans (unhide HK1), ?_⟩
            rw [show off + (k + 1) * 4 = off + k * 4 + 4 by omega]
            exact (unhide HR).keepF (unhide HK1)
          case measure => simp [intOf]; omega
        · go_wp2_with (go_at_call 87; refine (unhide HKD).mono ?_; rintro e w1 ⟨rfl, hk1⟩; have HK1 := hide hk1; clear hk1)
          go_roundw
          case rel =>
            refine ⟨rest, k + 1, m, rfl, by go_num, by omega, by omega, by have := unhide HWE; omega, (unhide HK).trans (unhide HK1), ?_⟩
            rw [show off + (k + 1) * 4 = off + k * 4 + 4 by omega]
            exact (unhide HR).keepF (unhide HK1)
          case measure => simp [intOf]; omega
end Go.Proofs.YtoempeobaknkcaaGreatDoor
namespace Go.Proofs.YtoempeobaknkcaaGreatDoor
open Go.RowKit Go.Maps

set_option maxRecDepth 100000 in
set_option maxHeartbeats 1600000 in
theorem rCount_v (Z : Zone) (N : Nat) : ∀ (l : SL), l.size < N → l.size ≤ 4294967294 → ∀ (w : World) (up : Nat) (v : Value), SlS Z w up v l →
    Calls Tryz.prog 62 #[v] w fun e w' => e = .returned (.int .i64 (countS l)) ∧ Keeps (fun _ => False) w w' := by
  induction N with
  | zero => intro l h; omega
  | succ N ih =>
    intro l hsz hlen' w up v hS
    have hlen : l.len ≤ 4294967294 := by have := SL.len_le l; omega
    obtain ⟨ao, cap, b, off, rfl, hcap, ha, hx⟩ := hS.open
    have IH := hide ih
    have HX := hide hx
    have HA := hide ha
    have hcl := countS_le l
    clear hS ih hx ha
    go_enter Tryz.func62, Tryz.ntmps62
    go_wp2_with fail
    go_loopw [3, 4] (fun d i wr => ∃ (rest : SL) (k m : Nat), d = .int .i64 m ∧ i = .int .i64 k ∧ k + rest.len = l.len ∧ rest.size ≤ l.size ∧ m + countS rest = countS l ∧ Keeps (fun _ => False) w wr ∧ StIn Z wr rest b (off + k * 5)) (fun _ i _ => l.len - (intOf i).toNat)
    case atStart => exact ⟨l, 0, 0, rfl, rfl, by omega, Nat.le_refl _, by omega, Keeps.refl _ _, by simpa using unhide HX⟩
    case round =>
      obtain ⟨rest, k, m, rfl, rfl, hkl, hrs, hwe, hkeep, hr⟩ := hrel
      cases rest with
      | nil =>
        simp only [SL.len, SL.size, countS] at hkl hrs hwe
        have HK := hide hkeep
        clear hkeep hr
        have i1 : ¬ (k : Int) < (l.len : Int) := by omega
        go_wp2_with fail
        go_ret
        exact ⟨ret_int (by omega), unhide HK⟩
      | cons op f ex th el rest =>
        obtain ⟨h1, h2, h3, h4, ⟨xv, h5, hxs⟩, ⟨tao, tcap, h6, h7, h8⟩, ⟨eao, ecap, g6, g7, g8⟩, h9⟩ := hr
        simp only [SL.len, SL.size, countS] at hkl hrs hwe
        obtain ⟨rfl, hp⟩ := (unhide HA) (by omega)
        have HTH : Hid (SlS Z wr b (.slice tao th.len tcap) th) := ⟨tao, tcap, rfl, h7, h8⟩
        have HEL : Hid (SlS Z wr b (.slice eao el.len ecap) el) := ⟨eao, ecap, rfl, g7, g8⟩
        have HR := hide h9
        have HK := hide hkeep
        have HWE := hide hwe
        have i1 : (k : Int) < (l.len : Int) := by omega
        have i0 : (0 : Int) ≤ (k : Int) := by omega
        have f3 : ∀ m : KW wr, m.wd.cell? ⟨b, off + k * 5 + 3, none⟩ = some (.slice tao th.len tcap) := fun m => (m.kept.cell h1 id).trans h6
        have f4 : ∀ m : KW wr, m.wd.cell? ⟨b, off + k * 5 + 4, none⟩ = some (.slice eao el.len ecap) := fun m => (m.kept.cell h1 id).trans g6
        have HQT := hide (fun (m : KW wr) => kw_of m (unhide IH th (by omega) (by omega) m.wd b (.slice tao th.len tcap) ((unhide HTH).keepF m.kept)))
        have HQE := hide (fun (m : KW wr) => kw_of m (unhide IH el (by omega) (by omega) m.wd b (.slice eao el.len ecap) ((unhide HEL).keepF m.kept)))
        have hdk := countS_le th
        have hde := countS_le el
        clear hkeep h2 h8 h9 hwe hxs g8
        go_wp2_with fail
        refine region_kept (by kernel_rfl) (by kernel_rfl) ?_
        repeat (go_big_quiet_step ((first | (go_at_call_of 62 (Value.slice tao th.len tcap); exact unhide HQT _) | (go_at_call_of 62 (Value.slice eao el.len ecap); exact unhide HQE _))))
        refine wpQuiet_nil ?_
        rintro _ ⟨nq, rfl⟩
        go_wp2_with fail
        have hwe := unhide HWE
        go_roundw
        case rel =>
          refine ⟨rest, k + 1, m + 1 + countS th + countS el, ?_, by go_num, by omega, by omega, by omega, (unhide HK).trans nq.kept, ?_⟩
          · rw [wrap64_id (n := (m : Int) + 1) (by omega), wrap64_id (n := (m : Int) + 1 + (countS th : Int)) (by omega), wrap64_id (by omega)]
            rfl
          · rw [show off + (k + 1) * 5 = off + k * 5 + 5 by omega]
            exact (unhide HR).keepF nq.kept
        case measure => simp [intOf]; omega
end Go.Proofs.YtoempeobaknkcaaGreatDoor
namespace Go.Proofs.YtoempeobaknkcaaGreatDoor
open Go.RowKit Go.Maps

set_option maxRecDepth 100000 in
set_option maxHeartbeats 1600000 in
theorem rDepth_v (Z : Zone) (N : Nat) : ∀ (l : SL), l.size < N → l.size ≤ 4294967294 → ∀ (w : World) (up : Nat) (v : Value), SlS Z w up v l →
    Calls Tryz.prog 63 #[v] w fun e w' => e = .returned (.int .i64 (depthS l)) ∧ Keeps (fun _ => False) w w' := by
  induction N with
  | zero => intro l h; omega
  | succ N ih =>
    intro l hsz hlen' w up v hS
    have hlen : l.len ≤ 4294967294 := by have := SL.len_le l; omega
    obtain ⟨ao, cap, b, off, rfl, hcap, ha, hx⟩ := hS.open
    have IH := hide ih
    have HX := hide hx
    have HA := hide ha
    have hcl := depthS_le l
    clear hS ih hx ha
    go_enter Tryz.func63, Tryz.ntmps63
    go_wp2_with fail
    go_loopw [3, 4] (fun d i wr => ∃ (rest : SL) (k m : Nat), d = .int .i64 m ∧ i = .int .i64 k ∧ k + rest.len = l.len ∧ rest.size ≤ l.size ∧ max m (depthS rest) = depthS l ∧ Keeps (fun _ => False) w wr ∧ StIn Z wr rest b (off + k * 5)) (fun _ i _ => l.len - (intOf i).toNat)
    case atStart => exact ⟨l, 0, 0, rfl, rfl, by omega, Nat.le_refl _, by omega, Keeps.refl _ _, by simpa using unhide HX⟩
    case round =>
      obtain ⟨rest, k, m, rfl, rfl, hkl, hrs, hwe, hkeep, hr⟩ := hrel
      cases rest with
      | nil =>
        simp only [SL.len, SL.size, depthS] at hkl hrs hwe
        have HK := hide hkeep
        clear hkeep hr
        have i1 : ¬ (k : Int) < (l.len : Int) := by omega
        go_wp2_with fail
        go_ret
        exact ⟨ret_int (by omega), unhide HK⟩
      | cons op f ex th el rest =>
        obtain ⟨h1, h2, h3, h4, ⟨xv, h5, hxs⟩, ⟨tao, tcap, h6, h7, h8⟩, ⟨eao, ecap, g6, g7, g8⟩, h9⟩ := hr
        simp only [SL.len, SL.size, depthS] at hkl hrs hwe
        obtain ⟨rfl, hp⟩ := (unhide HA) (by omega)
        have HTH : Hid (SlS Z wr b (.slice tao th.len tcap) th) := ⟨tao, tcap, rfl, h7, h8⟩
        have HEL : Hid (SlS Z wr b (.slice eao el.len ecap) el) := ⟨eao, ecap, rfl, g7, g8⟩
        obtain ⟨xao, xcap, xb, xoff, rfl, hxcap, hxa, hxx⟩ := hxs.open
        have HXX := hide hxx
        have HXA := hide hxa
        have HR := hide h9
        have HK := hide hkeep
        have HWE := hide hwe
        have i1 : (k : Int) < (l.len : Int) := by omega
        have i0 : (0 : Int) ≤ (k : Int) := by omega
        have HQT := hide (unhide IH th (by omega) (by omega) wr b (.slice tao th.len tcap) (unhide HTH))
        have HQE := fun (w' : World) (hk : Keeps (fun _ => False) wr w') => hide (unhide IH el (by omega) (by omega) w' b (.slice eao el.len ecap) ((unhide HEL).keepF hk))
        have hdt := depthS_le th
        have hde := depthS_le el
        have hdx := depthE_le ex
        have hxl := EL.len_le ex
        clear hkeep h2 h8 h9 hwe hxs g8 hxx hxa
        obtain ⟨DT, hDT⟩ : ∃ D, depthS th = D := ⟨_, rfl⟩
        obtain ⟨DE, hDE⟩ : ∃ D, depthS el = D := ⟨_, rfl⟩
        rw [hDT] at HQT HWE hdt
        simp only [hDE] at HQE
        rw [hDE] at HWE hde
        clear hDT hDE
        by_cases hte : (DT : Int) < (DE : Int)
        · skip
          go_wp2_with (first
            | (go_at_call_of 63 (Value.slice tao th.len tcap); refine (unhide HQT).mono ?_; rintro e w1 ⟨rfl, hk1⟩; have HK1 := hide hk1; have r4 := (hk1.cell h1 id).trans g6; clear hk1)
            | (go_at_call_of 63 (Value.slice eao el.len ecap); refine (unhide (HQE _ (unhide HK1))).mono ?_; rintro e w2 ⟨rfl, hk2⟩; have HK2 := hide ((unhide HK1).trans hk2); clear hk2))
          go_loopw [5, 7] (fun a kk w4 => ∃ (xr : EL) (j A : Nat), a = .int .i64 A ∧ kk = .int .i64 j ∧ j + xr.len = ex.len ∧ xr.size ≤ ex.size ∧ max A (depthE xr) = max (depthE ex) (max DT DE) ∧ Keeps (fun _ => False) wr w4 ∧ ExIn Z w4 xr xb (xoff + j * 4)) (fun _ kk _ => ex.len - (intOf kk).toNat)
          case atStart => exact ⟨ex, 0, DE, rfl, rfl, by omega, Nat.le_refl _, by omega, unhide HK2, by simpa using (unhide HXX).keepF (unhide HK2)⟩
          case round =>
            obtain ⟨xr, j, A, rfl, rfl, hjl, hjs, hja, hkeep, hr⟩ := hrel
            have r5 := (hkeep.cell h1 id).trans h5
            have HK4 := hide hkeep
            clear hkeep HK2
            cases xr with
            | nil =>
              simp only [EL.len, EL.size, depthE] at hjl hjs hja
              clear hr
              have j1 : ¬ (j : Int) < (ex.len : Int) := by omega
              by_cases hmA : (m : Int) < (A : Int) + 1
              · go_wp2_with fail
                go_roundw
                case rel =>
                  refine ⟨rest, k + 1, A + 1, rfl, by go_num, by omega, by omega, by have := unhide HWE; omega, (unhide HK).trans (unhide HK4), ?_⟩
                  rw [show off + (k + 1) * 5 = off + k * 5 + 5 by omega]
                  exact (unhide HR).keepF (unhide HK4)
                case measure => simp [intOf]; omega
              · go_wp2_with fail
                go_roundw
                case rel =>
                  refine ⟨rest, k + 1, m, rfl, by go_num, by omega, by omega, by have := unhide HWE; omega, (unhide HK).trans (unhide HK4), ?_⟩
                  rw [show off + (k + 1) * 5 = off + k * 5 + 5 by omega]
                  exact (unhide HR).keepF (unhide HK4)
                case measure => simp [intOf]; omega
            | cons op' n' s' kids xr =>
              obtain ⟨x1, x2, x3, x4, x5, ⟨kao, kcap, x6, x7, x8⟩, x9⟩ := hr
              simp only [EL.len, EL.size, depthE] at hjl hjs hja
              obtain ⟨rfl, hp'⟩ := (unhide HXA) (by omega)
              have HKID : Hid (SlE Z wr xb (.slice kao kids.len kcap) kids) := ⟨kao, kcap, rfl, x7, x8⟩
              have HXR := hide x9
              have HJA := hide hja
              have j1 : (j : Int) < (ex.len : Int) := by omega
              have j0 : (0 : Int) ≤ (j : Int) := by omega
              have HKD := hide (depthExpr_v Z (kids.size + 1) kids (by omega) (by omega) op' n' s' wr xb (.slice kao kids.len kcap) (unhide HKID))
              have hdk := depthE_le kids
              generalize hD : 1 + depthE kids = D at HKD HJA
              clear x2 x8 x9 hja
              by_cases hmd : (A : Int) < (D : Int)
              · go_wp2_with (go_at_call 87; refine (unhide HKD).mono ?_; rintro e w5 ⟨rfl, hk5⟩; have HK5 := hide hk5; clear hk5)
                go_roundw
                case rel =>
                  refine ⟨xr, j + 1, D, rfl, by go_num, by omega, by omega, by have := unhide HJA; omega, (unhide HK4).trans (unhide HK5), ?_⟩
                  rw [show xoff + (j + 1) * 4 = xoff + j * 4 + 4 by omega]
                  exact (unhide HXR).keepF (unhide HK5)
                case measure => simp [intOf]; omega
              · go_wp2_with (go_at_call 87; refine (unhide HKD).mono ?_; rintro e w5 ⟨rfl, hk5⟩; have HK5 := hide hk5; clear hk5)
                go_roundw
                case rel =>
                  refine ⟨xr, j + 1, A, rfl, by go_num, by omega, by omega, by have := unhide HJA; omega, (unhide HK4).trans (unhide HK5), ?_⟩
                  rw [show xoff + (j + 1) * 4 = xoff + j * 4 + 4 by omega]
                  exact (unhide HXR).keepF (unhide HK5)
                case measure => simp [intOf]; omega
        · have HTE := hide hte
          have hte2 : decide (DT < DE) = false := by simp; omega
          go_wp2_with (first
            | (go_at_call_of 63 (Value.slice tao th.len tcap); refine (unhide HQT).mono ?_; rintro e w1 ⟨rfl, hk1⟩; have HK1 := hide hk1; have r4 := (hk1.cell h1 id).trans g6; clear hk1)
            | (go_at_call_of 63 (Value.slice eao el.len ecap); refine (unhide (HQE _ (unhide HK1))).mono ?_; rintro e w2 ⟨rfl, hk2⟩; have HK2 := hide ((unhide HK1).trans hk2); clear hk2))
          clear hte
          go_loopw [5, 7] (fun a kk w4 => ∃ (xr : EL) (j A : Nat), a = .int .i64 A ∧ kk = .int .i64 j ∧ j + xr.len = ex.len ∧ xr.size ≤ ex.size ∧ max A (depthE xr) = max (depthE ex) (max DT DE) ∧ Keeps (fun _ => False) wr w4 ∧ ExIn Z w4 xr xb (xoff + j * 4)) (fun _ kk _ => ex.len - (intOf kk).toNat)
          case atStart => exact ⟨ex, 0, DT, rfl, rfl, by omega, Nat.le_refl _, by have := unhide HTE; omega, unhide HK2, by simpa using (unhide HXX).keepF (unhide HK2)⟩
          case round =>
            obtain ⟨xr, j, A, rfl, rfl, hjl, hjs, hja, hkeep, hr⟩ := hrel
            have r5 := (hkeep.cell h1 id).trans h5
            have HK4 := hide hkeep
            clear hkeep HK2
            cases xr with
            | nil =>
              simp only [EL.len, EL.size, depthE] at hjl hjs hja
              clear hr
              have j1 : ¬ (j : Int) < (ex.len : Int) := by omega
              by_cases hmA : (m : Int) < (A : Int) + 1
              · go_wp2_with fail
                go_roundw
                case rel =>
                  refine ⟨rest, k + 1, A + 1, rfl, by go_num, by omega, by omega, by have := unhide HWE; omega, (unhide HK).trans (unhide HK4), ?_⟩
                  rw [show off + (k + 1) * 5 = off + k * 5 + 5 by omega]
                  exact (unhide HR).keepF (unhide HK4)
                case measure => simp [intOf]; omega
              · go_wp2_with fail
                go_roundw
                case rel =>
                  refine ⟨rest, k + 1, m, rfl, by go_num, by omega, by omega, by have := unhide HWE; omega, (unhide HK).trans (unhide HK4), ?_⟩
                  rw [show off + (k + 1) * 5 = off + k * 5 + 5 by omega]
                  exact (unhide HR).keepF (unhide HK4)
                case measure => simp [intOf]; omega
            | cons op' n' s' kids xr =>
              obtain ⟨x1, x2, x3, x4, x5, ⟨kao, kcap, x6, x7, x8⟩, x9⟩ := hr
              simp only [EL.len, EL.size, depthE] at hjl hjs hja
              obtain ⟨rfl, hp'⟩ := (unhide HXA) (by omega)
              have HKID : Hid (SlE Z wr xb (.slice kao kids.len kcap) kids) := ⟨kao, kcap, rfl, x7, x8⟩
              have HXR := hide x9
              have HJA := hide hja
              have j1 : (j : Int) < (ex.len : Int) := by omega
              have j0 : (0 : Int) ≤ (j : Int) := by omega
              have HKD := hide (depthExpr_v Z (kids.size + 1) kids (by omega) (by omega) op' n' s' wr xb (.slice kao kids.len kcap) (unhide HKID))
              have hdk := depthE_le kids
              generalize hD : 1 + depthE kids = D at HKD HJA
              clear x2 x8 x9 hja
              by_cases hmd : (A : Int) < (D : Int)
              · go_wp2_with (go_at_call 87; refine (unhide HKD).mono ?_; rintro e w5 ⟨rfl, hk5⟩; have HK5 := hide hk5; clear hk5)
                go_roundw
                case rel =>
                  refine ⟨xr, j + 1, D, rfl, by go_num, by omega, by omega, by have := unhide HJA; omega, (unhide HK4).trans (unhide HK5), ?_⟩
                  rw [show xoff + (j + 1) * 4 = xoff + j * 4 + 4 by omega]
                  exact (unhide HXR).keepF (unhide HK5)
                case measure => simp [intOf]; omega
              · go_wp2_with (go_at_call 87; refine (unhide HKD).mono ?_; rintro e w5 ⟨rfl, hk5⟩; have HK5 := hide hk5; clear hk5)
                go_roundw
                case rel =>
                  refine ⟨xr, j + 1, A, rfl, by go_num, by omega, by omega, by have := unhide HJA; omega, (unhide HK4).trans (unhide HK5), ?_⟩
                  rw [show xoff + (j + 1) * 4 = xoff + j * 4 + 4 by omega]
                  exact (unhide HXR).keepF (unhide HK5)
                case measure => simp [intOf]; omega
end Go.Proofs.YtoempeobaknkcaaGreatDoor
