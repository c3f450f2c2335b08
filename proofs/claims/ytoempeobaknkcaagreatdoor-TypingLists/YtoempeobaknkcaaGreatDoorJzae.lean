import Derived.Test.YtoempeobaknkcaaGreatDoorJzad
namespace Go.Proofs.YtoempeobaknkcaaGreatDoor
open Go.RowKit Go.Maps

set_option maxRecDepth 100000 in
set_option maxHeartbeats 1600000 in
theorem depthExpr_v (Z : Zone) (N : Nat) : ∀ (kids : EL), kids.size < N → kids.size ≤ 4294967294 → ∀ (op n : Int) (s : Txt) (w : World) (up : Nat) (v : Value), SlE Z w up v kids →
    Calls Tryz.prog 87 #[exV op n s v] w fun e w' => e = .returned (.int .i64 ((1 + depthE kids : Nat) : Int)) ∧ Keeps (fun _ => False) w w' := by
  induction N with
  | zero => intro l h; omega
  | succ N ih =>
    intro l hsz hlen' op n s w up v hS
    have hlen : l.len ≤ 4294967294 := by have := EL.len_le l; omega
    have hdl := depthE_le l
    obtain ⟨ao, cap, b, off, rfl, hcap, ha, hx⟩ := hS.open
    obtain ⟨HB, hxb, hxc⟩ := boxedT w #[.int .i64 op, .int .i64 n, str s, .slice ao l.len cap] 57
    have c3 := hxc 3 (.slice ao l.len cap) rfl
    have IH := hide ih
    have HX := hide hx
    have HA := hide ha
    clear hS ih hx ha hxc
    go_enter Tryz.func87, Tryz.ntmps87
    go_wp2_with fail
    go_loopw [3, 4] (fun d i wr => ∃ (rest : EL) (k m : Nat), d = .int .i64 m ∧ i = .int .i64 k ∧ k + rest.len = l.len ∧ rest.size ≤ l.size ∧ max m (depthE rest) = depthE l ∧ Keeps (fun _ => False) (w.alloc (.cells #[.int .i64 op, .int .i64 n, str s, .slice ao l.len cap] 57)) wr ∧ ExIn Z wr rest b (off + k * 4)) (fun _ i _ => l.len - (intOf i).toNat)
    case atStart => exact ⟨l, 0, 0, rfl, rfl, by omega, Nat.le_refl _, by omega, Keeps.refl _ _, by simpa using (unhide HX).keepF (unhide HB)⟩
    case round =>
      obtain ⟨rest, k, m, rfl, rfl, hkl, hrs, hwe, hkeep, hr⟩ := hrel
      have q3 := (hkeep.cell (o := 3) hxb id).trans c3
      have HK := hide hkeep
      clear hkeep
      cases rest with
      | nil =>
        simp only [EL.len, EL.size, depthE] at hkl hrs hwe
        clear hr
        have i1 : ¬ (k : Int) < (l.len : Int) := by omega
        go_wp2_with fail
        go_ret
        exact ⟨ret_int (by omega), (unhide HB).trans (unhide HK)⟩
      | cons op' n' s' kids rest =>
        obtain ⟨h1, h2, h3, h4, h5, ⟨kao, kcap, h6, h7, h8⟩, h9⟩ := hr
        simp only [EL.len, EL.size, depthE] at hkl hrs hwe
        obtain ⟨rfl, hp⟩ := (unhide HA) (by omega)
        have HKID : Hid (SlE Z wr b (.slice kao kids.len kcap) kids) := ⟨kao, kcap, rfl, h7, h8⟩
        have HR := hide h9
        have HWE := hide hwe
        have i1 : (k : Int) < (l.len : Int) := by omega
        have i0 : (0 : Int) ≤ (k : Int) := by omega
        have HKD := hide (unhide IH kids (by omega) (by omega) op' n' s' wr b (.slice kao kids.len kcap) (unhide HKID))
        have hdk := depthE_le kids
        generalize hD : 1 + depthE kids = D at HKD HWE
        clear h2 h8 h9 hwe
        by_cases hmd : (m : Int) < (D : Int)
        · go_wp2_with (go_at_call 87; refine (unhide HKD).mono ?_; rintro e w1 ⟨rfl, hk1⟩; have HK1 := hide hk1; clear hk1)
          go_roundw
          case rel =>
            refine ⟨rest, k + 1, D, rfl, by go_num, by omega, by omega, by have := unhide HWE; omega, (unhide HK).trans (unhide HK1), ?_⟩
            rw [show off + (k + 1) * 4 = off + k * 4 + 4 by omega]
            exact (unhide HR).keepF (unhide HK1)
          case measure => simp [intOf]; omega
        · go_wp2_with (go_at_call 87; refine (unhide HKD).mono ?_; rintro e w1 ⟨rfl, hk1⟩; have HK1 := hide hk1; clear hk1)
          go_roundw
          case rel =>
            refine ⟨rest, k + 1, m, rfl, by go_num, by omega, by omega, by have := unhide HWE; omega, (unhide HK).trans (unhide HK1), ?_⟩
            rw [show off + (k + 1) * 4 = off + k * 4 + 4 by omega]
            exact (unhide HR).keepF (unhide HK1)
          case measure => simp [intOf]; omega
end Go.Proofs.YtoempeobaknkcaaGreatDoor
namespace Go.Proofs.YtoempeobaknkcaaGreatDoor
open Go.RowKit Go.Maps

set_option maxRecDepth 100000 in
set_option maxHeartbeats 1600000 in
theorem rCount_v (Z : Zone) (N : Nat) : ∀ (l : SL), l.size < N → l.size ≤ 4294967294 → ∀ (w : World) (up : Nat) (v : Value), SlS Z w up v l →
    Calls Tryz.prog 62 #[v] w fun e w' => e = .returned (.int .i64 (countS l)) ∧ Keeps (fun _ => False) w w' := by
  induction N with
  | zero => intro l h; omega
  | succ N ih =>
    intro l hsz hlen' w up v hS
    have hlen : l.len ≤ 4294967294 := by have := SL.len_le l; omega
    obtain ⟨ao, cap, b, off, rfl, hcap, ha, hx⟩ := hS.open
    have IH := hide ih
    have HX := hide hx
    have HA := hide ha
    have hcl := countS_le l
    clear hS ih hx ha
    go_enter Tryz.func62, Tryz.ntmps62
    go_wp2_with fail
    go_loopw [3, 4] (fun d i wr => ∃ (rest : SL) (k m : Nat), d = .int .i64 m ∧ i = .int .i64 k ∧ k + rest.len = l.len ∧ rest.size ≤ l.size ∧ m + countS rest = countS l ∧ Keeps (fun _ => False) w wr ∧ StIn Z wr rest b (off + k * 5)) (fun _ i _ => l.len - (intOf i).toNat)
    case atStart => exact ⟨l, 0, 0, rfl, rfl, by omega, Nat.le_refl _, by omega, Keeps.refl _ _, by simpa using unhide HX⟩
    case round =>
      obtain ⟨rest, k, m, rfl, rfl, hkl, hrs, hwe, hkeep, hr⟩ := hrel
      cases rest with
      | nil =>
        simp only [SL.len, SL.size, countS] at hkl hrs hwe
        have HK := hide hkeep
        clear hkeep hr
        have i1 : ¬ (k : Int) < (l.len : Int) := by omega
        go_wp2_with fail
        go_ret
        exact ⟨ret_int (by omega), unhide HK⟩
      | cons op f ex th el rest =>
        obtain ⟨h1, h2, h3, h4, ⟨xv, h5, hxs⟩, ⟨tao, tcap, h6, h7, h8⟩, ⟨eao, ecap, g6, g7, g8⟩, h9⟩ := hr
        simp only [SL.len, SL.size, countS] at hkl hrs hwe
        obtain ⟨rfl, hp⟩ := (unhide HA) (by omega)
        have HTH : Hid (SlS Z wr b (.slice tao th.len tcap) th) := ⟨tao, tcap, rfl, h7, h8⟩
        have HEL : Hid (SlS Z wr b (.slice eao el.len ecap) el) := ⟨eao, ecap, rfl, g7, g8⟩
        have HR := hide h9
        have HK := hide hkeep
        have HWE := hide hwe
        have i1 : (k : Int) < (l.len : Int) := by omega
        have i0 : (0 : Int) ≤ (k : Int) := by omega
        have f3 : ∀ m : KW wr, m.wd.cell? ⟨b, off + k * 5 + 3, none⟩ = some (.slice tao th.len tcap) := fun m => (m.kept.cell h1 id).trans h6
        have f4 : ∀ m : KW wr, m.wd.cell? ⟨b, off + k * 5 + 4, none⟩ = some (.slice eao el.len ecap) := fun m => (m.kept.cell h1 id).trans g6
        have HQT := hide (fun (m : KW wr) => kw_of m (unhide IH th (by omega) (by omega) m.wd b (.slice tao th.len tcap) ((unhide HTH).keepF m.kept)))
        have HQE := hide (fun (m : KW wr) => kw_of m (unhide IH el (by omega) (by omega) m.wd b (.slice eao el.len ecap) ((unhide HEL).keepF m.kept)))
        have hdk := countS_le th
        have hde := countS_le el
        clear hkeep h2 h8 h9 hwe hxs g8
        go_wp2_with fail
        refine region_kept (by kernel_rfl) (by kernel_rfl) ?_
        repeat (go_big_quiet_step ((first | (go_at_call_of 62 (Value.slice tao th.len tcap); exact unhide HQT _) | (go_at_call_of 62 (Value.slice eao el.len ecap); exact unhide HQE _))))
        refine wpQuiet_nil ?_
        rintro _ ⟨nq, rfl⟩
        go_wp2_with fail
        have hwe := unhide HWE
        go_roundw
        case rel =>
          refine ⟨rest, k + 1, m + 1 + countS th + countS el, ?_, by go_num, by omega, by omega, by omega, (unhide HK).trans nq.kept, ?_⟩
          · rw [wrap64_id (n := (m : Int) + 1) (by omega), wrap64_id (n := (m : Int) + 1 + (countS th : Int)) (by omega), wrap64_id (by omega)]
            rfl
          · rw [show off + (k + 1) * 5 = off + k * 5 + 5 by omega]
            exact (unhide HR).keepF nq.kept
        case measure => simp [intOf]; omega
end Go.Proofs.YtoempeobaknkcaaGreatDoor
namespace Go.Proofs.YtoempeobaknkcaaGreatDoor
open Go.RowKit Go.Maps

set_option maxRecDepth 100000 in
set_option maxHeartbeats 1600000 in
theorem rDepth_v (Z : Zone) (N : Nat) : ∀ (l : SL), l.size < N → l.size ≤ 4294967294 → ∀ (w : World) (up : Nat) (v : Value), SlS Z w up v l →
    Calls Tryz.prog 63 #[v] w fun e w' => e = .returned (.int .i64 (depthS l)) ∧ Keeps (fun _ => False) w w' := by
  induction N with
  | zero => intro l h; omega
  | succ N ih =>
    intro l hsz hlen' w up v hS
    have hlen : l.len ≤ 4294967294 := by have := SL.len_le l; omega
    obtain ⟨ao, cap, b, off, rfl, hcap, ha, hx⟩ := hS.open
    have IH := hide ih
    have HX := hide hx
    have HA := hide ha
    have hcl := depthS_le l
    clear hS ih hx ha
    go_enter Tryz.func63, Tryz.ntmps63
    go_wp2_with fail
    go_loopw [3, 4] (fun d i wr => ∃ (rest : SL) (k m : Nat), d = .int .i64 m ∧ i = .int .i64 k ∧ k + rest.len = l.len ∧ rest.size ≤ l.size ∧ max m (depthS rest) = depthS l ∧ Keeps (fun _ => False) w wr ∧ StIn Z wr rest b (off + k * 5)) (fun _ i _ => l.len - (intOf i).toNat)
    case atStart => exact ⟨l, 0, 0, rfl, rfl, by omega, Nat.le_refl _, by omega, Keeps.refl _ _, by simpa using unhide HX⟩
    case round =>
      obtain ⟨rest, k, m, rfl, rfl, hkl, hrs, hwe, hkeep, hr⟩ := hrel
      cases rest with
      | nil =>
        simp only [SL.len, SL.size, depthS] at hkl hrs hwe
        have HK := hide hkeep
        clear hkeep hr
        have i1 : ¬ (k : Int) < (l.len : Int) := by omega
        go_wp2_with fail
        go_ret
        exact ⟨ret_int (by omega), unhide HK⟩
      | cons op f ex th el rest =>
        obtain ⟨h1, h2, h3, h4, ⟨xv, h5, hxs⟩, ⟨tao, tcap, h6, h7, h8⟩, ⟨eao, ecap, g6, g7, g8⟩, h9⟩ := hr
        simp only [SL.len, SL.size, depthS] at hkl hrs hwe
        obtain ⟨rfl, hp⟩ := (unhide HA) (by omega)
        have HTH : Hid (SlS Z wr b (.slice tao th.len tcap) th) := ⟨tao, tcap, rfl, h7, h8⟩
        have HEL : Hid (SlS Z wr b (.slice eao el.len ecap) el) := ⟨eao, ecap, rfl, g7, g8⟩
        obtain ⟨xao, xcap, xb, xoff, rfl, hxcap, hxa, hxx⟩ := hxs.open
        have HXX := hide hxx
        have HXA := hide hxa
        have HR := hide h9
        have HK := hide hkeep
        have HWE := hide hwe
        have i1 : (k : Int) < (l.len : Int) := by omega
        have i0 : (0 : Int) ≤ (k : Int) := by omega
        have HQT := hide (unhide IH th (by omega) (by omega) wr b (.slice tao th.len tcap) (unhide HTH))
        have HQE := fun (w' : World) (hk : Keeps (fun _ => False) wr w') => hide (unhide IH el (by omega) (by omega) w' b (.slice eao el.len ecap) ((unhide HEL).keepF hk))
        have hdt := depthS_le th
        have hde := depthS_le el
        have hdx := depthE_le ex
        have hxl := EL.len_le ex
        clear hkeep h2 h8 h9 hwe hxs g8 hxx hxa
        obtain ⟨DT, hDT⟩ : ∃ D, depthS th = D := ⟨_, rfl⟩
        obtain ⟨DE, hDE⟩ : ∃ D, depthS el = D := ⟨_, rfl⟩
        rw [hDT] at HQT HWE hdt
        simp only [hDE] at HQE
        rw [hDE] at HWE hde
        clear hDT hDE
        by_cases hte : (DT : Int) < (DE : Int)
        · skip
          go_wp2_with (first
            | (go_at_call_of 63 (Value.slice tao th.len tcap); refine (unhide HQT).mono ?_; rintro e w1 ⟨rfl, hk1⟩; have HK1 := hide hk1; have r4 := (hk1.cell h1 id).trans g6; clear hk1)
            | (go_at_call_of 63 (Value.slice eao el.len ecap); refine (unhide (HQE _ (unhide HK1))).mono ?_; rintro e w2 ⟨rfl, hk2⟩; have HK2 := hide ((unhide HK1).trans hk2); clear hk2))
          go_loopw [5, 7] (fun a kk w4 => ∃ (xr : EL) (j A : Nat), a = .int .i64 A ∧ kk = .int .i64 j ∧ j + xr.len = ex.len ∧ xr.size ≤ ex.size ∧ max A (depthE xr) = max (depthE ex) (max DT DE) ∧ Keeps (fun _ => False) wr w4 ∧ ExIn Z w4 xr xb (xoff + j * 4)) (fun _ kk _ => ex.len - (intOf kk).toNat)
          case atStart => exact ⟨ex, 0, DE, rfl, rfl, by omega, Nat.le_refl _, by omega, unhide HK2, by simpa using (unhide HXX).keepF (unhide HK2)⟩
          case round =>
            obtain ⟨xr, j, A, rfl, rfl, hjl, hjs, hja, hkeep, hr⟩ := hrel
            have r5 := (hkeep.cell h1 id).trans h5
            have HK4 := hide hkeep
            clear hkeep HK2
            cases xr with
            | nil =>
              simp only [EL.len, EL.size, depthE] at hjl hjs hja
              clear hr
              have j1 : ¬ (j : Int) < (ex.len : Int) := by omega
              by_cases hmA : (m : Int) < (A : Int) + 1
              · go_wp2_with fail
                go_roundw
                case rel =>
                  refine ⟨rest, k + 1, A + 1, rfl, by go_num, by omega, by omega, by have := unhide HWE; omega, (unhide HK).trans (unhide HK4), ?_⟩
                  rw [show off + (k + 1) * 5 = off + k * 5 + 5 by omega]
                  exact (unhide HR).keepF (unhide HK4)
                case measure => simp [intOf]; omega
              · go_wp2_with fail
                go_roundw
                case rel =>
                  refine ⟨rest, k + 1, m, rfl, by go_num, by omega, by omega, by have := unhide HWE; omega, (unhide HK).trans (unhide HK4), ?_⟩
                  rw [show off + (k + 1) * 5 = off + k * 5 + 5 by omega]
                  exact (unhide HR).keepF (unhide HK4)
                case measure => simp [intOf]; omega
            | cons op' n' s' kids xr =>
              obtain ⟨x1, x2, x3, x4, x5, ⟨kao, kcap, x6, x7, x8⟩, x9⟩ := hr
              simp only [EL.len, EL.size, depthE] at hjl hjs hja
              obtain ⟨rfl, hp'⟩ := (unhide HXA) (by omega)
              have HKID : Hid (SlE Z wr xb (.slice kao kids.len kcap) kids) := ⟨kao, kcap, rfl, x7, x8⟩
              have HXR := hide x9
              have HJA := hide hja
              have j1 : (j : Int) < (ex.len : Int) := by omega
              have j0 : (0 : Int) ≤ (j : Int) := by omega
              have HKD := hide (depthExpr_v Z (kids.size + 1) kids (by omega) (by omega) op' n' s' wr xb (.slice kao kids.len kcap) (unhide HKID))
              have hdk := depthE_le kids
              generalize hD : 1 + depthE kids = D at HKD HJA
              clear x2 x8 x9 hja
              by_cases hmd : (A : Int) < (D : Int)
              · go_wp2_with (go_at_call 87; refine (unhide HKD).mono ?_; rintro e w5 ⟨rfl, hk5⟩; have HK5 := hide hk5; clear hk5)
                go_roundw
                case rel =>
                  refine ⟨xr, j + 1, D, rfl, by go_num, by omega, by omega, by have := unhide HJA; omega, (unhide HK4).trans (unhide HK5), ?_⟩
                  rw [show xoff + (j + 1) * 4 = xoff + j * 4 + 4 by omega]
                  exact (unhide HXR).keepF (unhide HK5)
                case measure => simp [intOf]; omega
              · go_wp2_with (go_at_call 87; refine (unhide HKD).mono ?_; rintro e w5 ⟨rfl, hk5⟩; have HK5 := hide hk5; clear hk5)
                go_roundw
                case rel =>
                  refine ⟨xr, j + 1, A, rfl, by go_num, by omega, by omega, by have := unhide HJA; omega, (unhide HK4).trans (unhide HK5), ?_⟩
                  rw [show xoff + (j + 1) * 4 = xoff + j * 4 + 4 by omega]
                  exact (unhide HXR).keepF (unhide HK5)
                case measure => simp [intOf]; omega
        · have HTE := hide hte
          have hte2 : decide (DT < DE) = false := by simp; omega
          go_wp2_with (first
            | (go_at_call_of 63 (Value.slice tao th.len tcap); refine (unhide HQT).mono ?_; rintro e w1 ⟨rfl, hk1⟩; have HK1 := hide hk1; have r4 := (hk1.cell h1 id).trans g6; clear hk1)
            | (go_at_call_of 63 (Value.slice eao el.len ecap); refine (unhide (HQE _ (unhide HK1))).mono ?_; rintro e w2 ⟨rfl, hk2⟩; have HK2 := hide ((unhide HK1).trans hk2); clear hk2))
          clear hte
          go_loopw [5, 7] (fun a kk w4 => ∃ (xr : EL) (j A : Nat), a = .int .i64 A ∧ kk = .int .i64 j ∧ j + xr.len = ex.len ∧ xr.size ≤ ex.size ∧ max A (depthE xr) = max (depthE ex) (max DT DE) ∧ Keeps (fun _ => False) wr w4 ∧ ExIn Z w4 xr xb (xoff + j * 4)) (fun _ kk _ => ex.len - (intOf kk).toNat)
          case atStart => exact ⟨ex, 0, DT, rfl, rfl, by omega, Nat.le_refl _, by have := unhide HTE; omega, unhide HK2, by simpa using (unhide HXX).keepF (unhide HK2)⟩
          case round =>
            obtain ⟨xr, j, A, rfl, rfl, hjl, hjs, hja, hkeep, hr⟩ := hrel
            have r5 := (hkeep.cell h1 id).trans h5
            have HK4 := hide hkeep
            clear hkeep HK2
            cases xr with
            | nil =>
              simp only [EL.len, EL.size, depthE] at hjl hjs hja
              clear hr
              have j1 : ¬ (j : Int) < (ex.len : Int) := by omega
              by_cases hmA : (m : Int) < (A : Int) + 1
              · go_wp2_with fail
                go_roundw
                case rel =>
                  refine ⟨rest, k + 1, A + 1, rfl, by go_num, by omega, by omega, by have := unhide HWE; omega, (unhide HK).trans (unhide HK4), ?_⟩
                  rw [show off + (k + 1) * 5 = off + k * 5 + 5 by omega]
                  exact (unhide HR).keepF (unhide HK4)
                case measure => simp [intOf]; omega
              · go_wp2_with fail
                go_roundw
                case rel =>
                  refine ⟨rest, k + 1, m, rfl, by go_num, by omega, by omega, by have := unhide HWE; omega, (unhide HK).trans (unhide HK4), ?_⟩
                  rw [show off + (k + 1) * 5 = off + k * 5 + 5 by omega]
                  exact (unhide HR).keepF (unhide HK4)
                case measure => simp [intOf]; omega
            | cons op' n' s' kids xr =>
              obtain ⟨x1, x2, x3, x4, x5, ⟨kao, kcap, x6, x7, x8⟩, x9⟩ := hr
              simp only [EL.len, EL.size, depthE] at hjl hjs hja
              obtain ⟨rfl, hp'⟩ := (unhide HXA) (by omega)
              have HKID : Hid (SlE Z wr xb (.slice kao kids.len kcap) kids) := ⟨kao, kcap, rfl, x7, x8⟩
              have HXR := hide x9
              have HJA := hide hja
              have j1 : (j : Int) < (ex.len : Int) := by omega
              have j0 : (0 : Int) ≤ (j : Int) := by omega
              have HKD := hide (depthExpr_v Z (kids.size + 1) kids (by omega) (by omega) op' n' s' wr xb (.slice kao kids.len kcap) (unhide HKID))
              have hdk := depthE_le kids
              generalize hD : 1 + depthE kids = D at HKD HJA
              clear x2 x8 x9 hja
              by_cases hmd : (A : Int) < (D : Int)
              · go_wp2_with (go_at_call 87; refine (unhide HKD).mono ?_; rintro e w5 ⟨rfl, hk5⟩; have HK5 := hide hk5; clear hk5)
                go_roundw
                case rel =>
                  refine ⟨xr, j + 1, D, rfl, by go_num, by omega, by omega, by have := unhide HJA; omega, (unhide HK4).trans (unhide HK5), ?_⟩
                  rw [show xoff + (j + 1) * 4 = xoff + j * 4 + 4 by omega]
                  exact (unhide HXR).keepF (unhide HK5)
                case measure => simp [intOf]; omega
              · go_wp2_with (go_at_call 87; refine (unhide HKD).mono ?_; rintro e w5 ⟨rfl, hk5⟩; have HK5 := hide hk5; clear hk5)
                go_roundw
                case rel =>
                  refine ⟨xr, j + 1, A, rfl, by go_num, by omega, by omega, by have := unhide HJA; omega, (unhide HK4).trans (unhide HK5), ?_⟩
                  rw [show xoff + (j + 1) * 4 = xoff + j * 4 + 4 by omega]
                  exact (unhide HXR).keepF (unhide HK5)
                case measure => simp [intOf]; omega
end Go.Proofs.YtoempeobaknkcaaGreatDoor
namespace Go.Proofs.YtoempeobaknkcaaGreatDoor
open Go.RowKit Go.Maps

/-- Is a statement well made? -/
def stmtB (op : Int) (f : Txt) (ex : EL) (th el : SL) : Bool := headS op f ex.len th.len el.len && (wellE ex && (wellS th && wellS el))
theorem wellS_cons (op : Int) (f : Txt) (ex : EL) (th el r : SL) : wellS (.cons op f ex th el r) = (stmtB op f ex th el && wellS r) := by
  simp only [wellS, stmtB, Bool.and_assoc]
theorem zero_th (th : SL) : (decide (th.len = 0) && wellS th) = decide (th.len = 0) := by
  cases th with
  | nil => rfl
  | cons o f x t e r => simp [SL.len]
theorem zero_ex (ex : EL) : (decide (ex.len = 0) && wellE ex) = decide (ex.len = 0) := by
  cases ex with
  | nil => rfl
  | cons o n s k r => simp [EL.len]
theorem and4 (a b c d e f g : Bool) (h1 : (c && f) = c) (h2 : (d && g) = d) : (a && (b && (c && d)) && (e && (f && g))) = (a && (b && (e && (c && d)))) := by
  cases a <;> cases b <;> cases c <;> cases d <;> cases e <;> cases f <;> cases g <;> simp_all
theorem and5 (a b c d e f g : Bool) (h1 : (c && f) = c) (h2 : (d && g) = d) (h3 : (b && e) = b) : (a && (b && (c && d)) && (e && (f && g))) = (a && (b && (c && d))) := by
  cases a <;> cases b <;> cases c <;> cases d <;> cases e <;> cases f <;> cases g <;> simp_all
theorem stmtB_14 (op : Int) (f : Txt) (ex : EL) (th el : SL) (h : op = 1 ∨ op = 2 ∨ op = 3 ∨ op = 4) : stmtB op f ex th el = (nameB f && (decide (ex.len = 1) && (wellE ex && (decide (th.len = 0) && decide (el.len = 0))))) := by
  unfold stmtB headS
  rw [if_pos h, and4 _ _ _ _ _ _ _ (zero_th th) (zero_th el)]
theorem stmtB_5 (f : Txt) (ex : EL) (th el : SL) : stmtB 5 f ex th el = (nameB f && (decide (ex.len = 0) && (decide (th.len = 0) && decide (el.len = 0)))) := by
  unfold stmtB headS
  rw [if_neg (by omega), if_pos rfl, and5 _ _ _ _ _ _ _ (zero_th th) (zero_th el) (zero_ex ex)]
theorem stmtB_67 (op : Int) (f : Txt) (ex : EL) (th el : SL) (h : op = 6 ∨ op = 7) : stmtB op f ex th el = (decide (f = []) && (decide (ex.len = 0) && (decide (th.len = 0) && decide (el.len = 0)))) := by
  unfold stmtB headS
  rw [if_neg (by omega), if_neg (by omega), if_pos h, and5 _ _ _ _ _ _ _ (zero_th th) (zero_th el) (zero_ex ex)]
theorem stmtB_8 (f : Txt) (ex : EL) (th el : SL) : stmtB 8 f ex th el = (decide (f = []) && (decide (ex.len = 1) && (wellE ex && (wellS th && wellS el)))) := by
  unfold stmtB headS
  rw [if_neg (by omega), if_neg (by omega), if_neg (by omega), if_pos rfl, Bool.and_assoc]
theorem stmtB_no (op : Int) (f : Txt) (ex : EL) (th el : SL) (h : op < 1 ∨ 8 < op) : stmtB op f ex th el = false := by
  unfold stmtB headS
  rw [if_neg (by omega), if_neg (by omega), if_neg (by omega), if_neg (by omega), Bool.false_and]

set_option maxRecDepth 100000 in
set_option maxHeartbeats 1600000 in
theorem wellStmt_14 (Z : Zone) (op : Int) (hop : op = 1 ∨ op = 2 ∨ op = 3 ∨ op = 4) (f : Txt) (ex : EL) (th el : SL) (hsz : ex.size ≤ 4294967294) (w : World) (up : Nat) (xv : Value) (tao eao : Option Addr) (tcap ecap : Nat) (hX : SlE Z w up xv ex) :
    Calls Tryz.prog 86 #[stV op f xv (.slice tao th.len tcap) (.slice eao el.len ecap)] w fun e w' => e = .returned (.bool (stmtB op f ex th el)) ∧ Keeps (fun _ => False) w w' := by
  rw [stmtB_14 op f ex th el hop]
  obtain ⟨xao, xcap, xb, xoff, rfl, hxcap, hxa, hxx⟩ := hX.open
  obtain ⟨HB, hxb, hxc⟩ := boxedT w #[.int .i64 op, str f, .slice xao ex.len xcap, .slice tao th.len tcap, .slice eao el.len ecap] 53
  have c0 := hxc 0 (.int .i64 op) rfl
  have c1 := hxc 1 (str f) rfl
  have c2 := hxc 2 (.slice xao ex.len xcap) rfl
  have c3 := hxc 3 (.slice tao th.len tcap) rfl
  have c4 := hxc 4 (.slice eao el.len ecap) rfl
  have HN := hide (isName_v f)
  clear hxc
  cases hnm : nameB f with
  | false =>
    rw [hnm] at HN
    rw [Bool.false_and]
    clear hX hxx hxa
    rcases hop with rfl | rfl | rfl | rfl
    all_goals
      go_enter Tryz.func86, Tryz.ntmps86
      go_wp2_with (go_at_call 102; refine (unhide HN _).mono ?_; rintro e w1 ⟨rfl, rfl⟩)
      go_ret
      exact ⟨rfl, unhide HB⟩
  | true =>
    rw [hnm] at HN
    rw [Bool.true_and]
    by_cases hx1 : ex.len = 1
    · match ex, hx1 with
      | .cons xo xn xs xk .nil, _ =>
        obtain ⟨rfl, hp⟩ := hxa (by simp [EL.len])
        obtain ⟨h1, h2, h3, h4, h5, ⟨kao, kcap, h6, h7, h8⟩, h9⟩ := hxx
        have HW := hide (wellExpr_v Z (xk.size + 1) xk (by omega) (by simp [EL.size] at hsz; omega) xo xn xs (w.alloc (.cells #[.int .i64 op, str f, .slice (some ⟨xb, xoff, none⟩) (EL.cons xo xn xs xk .nil).len xcap, .slice tao th.len tcap, .slice eao el.len ecap] 53)) xb (.slice kao xk.len kcap) (SlE.keepF ⟨kao, kcap, rfl, h7, h8⟩ (unhide HB)))
        have e3 := ((unhide HB).cell h1 id).trans h3
        have e4 := ((unhide HB).cell h1 id).trans h4
        have e5 := ((unhide HB).cell h1 id).trans h5
        have e6 := ((unhide HB).cell h1 id).trans h6
        have ewe : wellE (EL.cons xo xn xs xk .nil) = (rootB xo xn xs xk.len && wellE xk) := by simp [wellE]
        have el1 : (EL.cons xo xn xs xk .nil).len = 1 := rfl
        rw [ewe, el1, decide_eq_true rfl, Bool.true_and]
        simp only [el1] at HW c0 c1 c2 c3 c4 hxb HB e3 e4 e5 e6
        clear hX h2 h8 h9 h3 h4 h5 h6 hxa ewe
        cases hv : (rootB xo xn xs xk.len && wellE xk) with
        | false =>
          rw [hv] at HW
          rw [Bool.false_and]
          rcases hop with rfl | rfl | rfl | rfl
          all_goals
            go_enter Tryz.func86, Tryz.ntmps86
            go_wp2_with (first
              | (go_at_call 102; refine (unhide HN _).mono ?_; rintro e w1 ⟨rfl, rfl⟩)
              | (go_at_call 103; refine (unhide HW).mono ?_; rintro e w2 ⟨rfl, hk2⟩; have HK2 := hide hk2; clear hk2))
            go_ret
            exact ⟨rfl, (unhide HB).trans (unhide HK2)⟩
        | true =>
          rw [hv] at HW
          rw [Bool.true_and]
          rcases hop with rfl | rfl | rfl | rfl
          all_goals
            go_enter Tryz.func86, Tryz.ntmps86
            go_wp2_with (first
              | (go_at_call 102; refine (unhide HN _).mono ?_; rintro e w1 ⟨rfl, rfl⟩)
              | (go_at_call 103; refine (unhide HW).mono ?_; rintro e w2 ⟨rfl, hk2⟩; have HK2 := hide hk2; have r0 := (hk2.cell (o := 0) hxb id).trans c0; have r3 := (hk2.cell (o := 3) hxb id).trans c3; have r4 := (hk2.cell (o := 4) hxb id).trans c4; clear hk2))
            all_goals (go_ret; refine ⟨ret_bool ?_, (Keeps.alloc (Keeps.refl _ w) _).trans (unhide HK2)⟩; clear HB c0 c1 c2 c3 c4 HN hxb e3 e4 e5 e6 HW r0 r3 r4 HK2; first | (simp_all; done) | (simp_all; omega) | (simp_all; rw [Bool.eq_iff_iff]; simp; done) | (simp_all; rw [Bool.eq_iff_iff]; simp; omega))
    · rw [decide_eq_false hx1, Bool.false_and]
      have d1 : ((ex.len : Int) != 1) = true := by simp; omega
      clear hX hxx hxa
      rcases hop with rfl | rfl | rfl | rfl
      all_goals
        go_enter Tryz.func86, Tryz.ntmps86
        go_wp2_with (go_at_call 102; refine (unhide HN _).mono ?_; rintro e w1 ⟨rfl, rfl⟩)
        go_ret
        exact ⟨rfl, unhide HB⟩
end Go.Proofs.YtoempeobaknkcaaGreatDoor
namespace Go.Proofs.YtoempeobaknkcaaGreatDoor
open Go.RowKit Go.Maps

set_option maxRecDepth 100000 in
set_option maxHeartbeats 1600000 in
theorem wellStmt_5 (Z : Zone) (op : Int) (hop : op = 5) (f : Txt) (ex : EL) (th el : SL) (_hsz : ex.size ≤ 4294967294) (w : World) (up : Nat) (xv : Value) (tao eao : Option Addr) (tcap ecap : Nat) (hX : SlE Z w up xv ex) :
    Calls Tryz.prog 86 #[stV op f xv (.slice tao th.len tcap) (.slice eao el.len ecap)] w fun e w' => e = .returned (.bool (stmtB op f ex th el)) ∧ Keeps (fun _ => False) w w' := by
  subst hop
  rw [stmtB_5 f ex th el]
  obtain ⟨xao, xcap, xb, xoff, rfl, hxcap, hxa, hxx⟩ := hX.open
  obtain ⟨HB, hxb, hxc⟩ := boxedT w #[.int .i64 5, str f, .slice xao ex.len xcap, .slice tao th.len tcap, .slice eao el.len ecap] 53
  have c0 := hxc 0 (.int .i64 5) rfl
  have c1 := hxc 1 (str f) rfl
  have c2 := hxc 2 (.slice xao ex.len xcap) rfl
  have c3 := hxc 3 (.slice tao th.len tcap) rfl
  have c4 := hxc 4 (.slice eao el.len ecap) rfl
  clear hxc
  have HN := hide (isName_v f)
  clear hX hxx hxa
  cases hnm : nameB f with
  | false =>
    rw [hnm] at HN
    rw [Bool.false_and]
    go_enter Tryz.func86, Tryz.ntmps86
    go_wp2_with (go_at_call 102; refine (unhide HN _).mono ?_; rintro e w1 ⟨rfl, rfl⟩)
    go_ret
    exact ⟨rfl, unhide HB⟩
  | true =>
    rw [hnm] at HN
    rw [Bool.true_and]
    go_enter Tryz.func86, Tryz.ntmps86
    go_wp2_with (go_at_call 102; refine (unhide HN _).mono ?_; rintro e w1 ⟨rfl, rfl⟩)
    all_goals (go_ret; refine ⟨ret_bool ?_, (Keeps.alloc (Keeps.refl _ w) _)⟩; clear HN HB c0 c1 c2 c3 c4 hxb; first | (simp_all; done) | (simp_all; omega) | (simp_all; rw [Bool.eq_iff_iff]; simp; done) | (simp_all; rw [Bool.eq_iff_iff]; simp; omega))

set_option maxRecDepth 100000 in
set_option maxHeartbeats 1600000 in
theorem wellStmt_67 (Z : Zone) (op : Int) (hop : op = 6 ∨ op = 7) (f : Txt) (ex : EL) (th el : SL) (_hsz : ex.size ≤ 4294967294) (w : World) (up : Nat) (xv : Value) (tao eao : Option Addr) (tcap ecap : Nat) (hX : SlE Z w up xv ex) :
    Calls Tryz.prog 86 #[stV op f xv (.slice tao th.len tcap) (.slice eao el.len ecap)] w fun e w' => e = .returned (.bool (stmtB op f ex th el)) ∧ Keeps (fun _ => False) w w' := by
  rw [stmtB_67 op f ex th el hop]
  obtain ⟨xao, xcap, xb, xoff, rfl, hxcap, hxa, hxx⟩ := hX.open
  obtain ⟨HB, hxb, hxc⟩ := boxedT w #[.int .i64 op, str f, .slice xao ex.len xcap, .slice tao th.len tcap, .slice eao el.len ecap] 53
  have c0 := hxc 0 (.int .i64 op) rfl
  have c1 := hxc 1 (str f) rfl
  have c2 := hxc 2 (.slice xao ex.len xcap) rfl
  have c3 := hxc 3 (.slice tao th.len tcap) rfl
  have c4 := hxc 4 (.slice eao el.len ecap) rfl
  clear hxc
  clear hX hxx hxa
  cases f with
  | nil =>
    rw [decide_eq_true rfl, Bool.true_and]
    rcases hop with rfl | rfl
    all_goals
      go_enter Tryz.func86, Tryz.ntmps86
      go_wp2_with fail
      all_goals (go_ret; refine ⟨ret_bool ?_, (Keeps.alloc (Keeps.refl _ w) _)⟩; clear HB c0 c1 c2 c3 c4 hxb; first | (simp_all; done) | (simp_all; omega) | (simp_all; rw [Bool.eq_iff_iff]; simp; done) | (simp_all; rw [Bool.eq_iff_iff]; simp; omega))
  | cons fc fr =>
    rw [decide_eq_false (by simp), Bool.false_and]
    rcases hop with rfl | rfl
    all_goals
      go_enter Tryz.func86, Tryz.ntmps86
      go_wp2_with fail
      all_goals (go_ret; exact ⟨rfl, unhide HB⟩)

set_option maxRecDepth 100000 in
set_option maxHeartbeats 1600000 in
theorem wellStmt_no (Z : Zone) (op : Int) (hop : op < 1 ∨ 8 < op) (f : Txt) (ex : EL) (th el : SL) (_hsz : ex.size ≤ 4294967294) (w : World) (up : Nat) (xv : Value) (tao eao : Option Addr) (tcap ecap : Nat) (hX : SlE Z w up xv ex) :
    Calls Tryz.prog 86 #[stV op f xv (.slice tao th.len tcap) (.slice eao el.len ecap)] w fun e w' => e = .returned (.bool (stmtB op f ex th el)) ∧ Keeps (fun _ => False) w w' := by
  rw [stmtB_no op f ex th el hop]
  obtain ⟨xao, xcap, xb, xoff, rfl, hxcap, hxa, hxx⟩ := hX.open
  obtain ⟨HB, hxb, hxc⟩ := boxedT w #[.int .i64 op, str f, .slice xao ex.len xcap, .slice tao th.len tcap, .slice eao el.len ecap] 53
  have c0 := hxc 0 (.int .i64 op) rfl
  have c1 := hxc 1 (str f) rfl
  have c2 := hxc 2 (.slice xao ex.len xcap) rfl
  have c3 := hxc 3 (.slice tao th.len tcap) rfl
  have c4 := hxc 4 (.slice eao el.len ecap) rfl
  clear hxc
  clear hX hxx hxa
  have d1 : (op == 1) = false := by simp; omega
  have d2 : (op == 2) = false := by simp; omega
  have d3 : (op == 3) = false := by simp; omega
  have d4 : (op == 4) = false := by simp; omega
  have d5 : (op == 5) = false := by simp; omega
  have d6 : (op == 6) = false := by simp; omega
  have d7 : (op == 7) = false := by simp; omega
  have d8 : (op == 8) = false := by simp; omega
  go_enter Tryz.func86, Tryz.ntmps86
  go_wp2_with fail
  all_goals (go_ret; exact ⟨rfl, unhide HB⟩)
end Go.Proofs.YtoempeobaknkcaaGreatDoor
namespace Go.Proofs.YtoempeobaknkcaaGreatDoor
open Go.RowKit Go.Maps

set_option maxRecDepth 100000 in
set_option maxHeartbeats 1600000 in
theorem wellStmt_8 (Z : Zone) (f : Txt) (ex : EL) (th el : SL) (hsz : ex.size ≤ 4294967294) (w : World) (up : Nat) (xv : Value) (tao eao : Option Addr) (tcap ecap : Nat) (hX : SlE Z w up xv ex)
    (hT : ∀ w', Keeps (fun _ => False) w w' → Calls Tryz.prog 61 #[.slice tao th.len tcap] w' fun e w'' => e = .returned (.bool (wellS th)) ∧ Keeps (fun _ => False) w' w'')
    (hE : ∀ w', Keeps (fun _ => False) w w' → Calls Tryz.prog 61 #[.slice eao el.len ecap] w' fun e w'' => e = .returned (.bool (wellS el)) ∧ Keeps (fun _ => False) w' w'') :
    Calls Tryz.prog 86 #[stV 8 f xv (.slice tao th.len tcap) (.slice eao el.len ecap)] w fun e w' => e = .returned (.bool (stmtB 8 f ex th el)) ∧ Keeps (fun _ => False) w w' := by
  rw [stmtB_8 f ex th el]
  obtain ⟨xao, xcap, xb, xoff, rfl, hxcap, hxa, hxx⟩ := hX.open
  obtain ⟨HB, hxb, hxc⟩ := boxedT w #[.int .i64 8, str f, .slice xao ex.len xcap, .slice tao th.len tcap, .slice eao el.len ecap] 53
  have c0 := hxc 0 (.int .i64 8) rfl
  have c1 := hxc 1 (str f) rfl
  have c2 := hxc 2 (.slice xao ex.len xcap) rfl
  have c3 := hxc 3 (.slice tao th.len tcap) rfl
  have c4 := hxc 4 (.slice eao el.len ecap) rfl
  have HT := hide hT
  have HE := hide hE
  clear hxc hT hE
  cases f with
  | cons fc fr =>
    rw [decide_eq_false (by simp), Bool.false_and]
    clear hX hxx hxa
    go_enter Tryz.func86, Tryz.ntmps86
    go_wp2_with fail
    go_ret
    exact ⟨rfl, unhide HB⟩
  | nil =>
    rw [decide_eq_true rfl, Bool.true_and]
    by_cases hx1 : ex.len = 1
    · match ex, hx1 with
      | .cons xo xn xs xk .nil, _ =>
        obtain ⟨rfl, hp⟩ := hxa (by simp [EL.len])
        obtain ⟨h1, h2, h3, h4, h5, ⟨kao, kcap, h6, h7, h8⟩, h9⟩ := hxx
        have HW := hide (wellExpr_v Z (xk.size + 1) xk (by omega) (by simp [EL.size] at hsz; omega) xo xn xs (w.alloc (.cells #[.int .i64 8, str [], .slice (some ⟨xb, xoff, none⟩) (EL.cons xo xn xs xk .nil).len xcap, .slice tao th.len tcap, .slice eao el.len ecap] 53)) xb (.slice kao xk.len kcap) (SlE.keepF ⟨kao, kcap, rfl, h7, h8⟩ (unhide HB)))
        have e3 := ((unhide HB).cell h1 id).trans h3
        have e4 := ((unhide HB).cell h1 id).trans h4
        have e5 := ((unhide HB).cell h1 id).trans h5
        have e6 := ((unhide HB).cell h1 id).trans h6
        have ewe : wellE (EL.cons xo xn xs xk .nil) = (rootB xo xn xs xk.len && wellE xk) := by simp [wellE]
        have el1 : (EL.cons xo xn xs xk .nil).len = 1 := rfl
        rw [ewe, el1, decide_eq_true rfl, Bool.true_and]
        simp only [el1] at HW c0 c1 c2 c3 c4 hxb HB e3 e4 e5 e6
        clear hX h2 h8 h9 h3 h4 h5 h6 hxa ewe
        cases hv : (rootB xo xn xs xk.len && wellE xk) with
        | false =>
          rw [hv] at HW
          rw [Bool.false_and]
          go_enter Tryz.func86, Tryz.ntmps86
          go_wp2_with (go_at_call 103; refine (unhide HW).mono ?_; rintro e w2 ⟨rfl, hk2⟩; have HK2 := hide hk2; clear hk2)
          go_ret
          exact ⟨rfl, (unhide HB).trans (unhide HK2)⟩
        | true =>
          rw [hv] at HW
          rw [Bool.true_and]
          generalize wellS th = bt at HT ⊢
          generalize wellS el = be at HE ⊢
          cases bt with
          | false =>
            rw [Bool.false_and]
            go_enter Tryz.func86, Tryz.ntmps86
            go_wp2_with (first
              | (go_at_call 103; refine (unhide HW).mono ?_; rintro e w2 ⟨rfl, hk2⟩; have HK2 := hide hk2; have r0 := (hk2.cell (o := 0) hxb id).trans c0; have r3 := (hk2.cell (o := 3) hxb id).trans c3; have r4 := (hk2.cell (o := 4) hxb id).trans c4; clear hk2)
              | (go_at_call_of 61 (Value.slice tao th.len tcap); refine (unhide HT _ ((unhide HB).trans (unhide HK2))).mono ?_; rintro e w3 ⟨rfl, hk3⟩; have HK3 := hide ((unhide HK2).trans hk3); clear hk3))
            go_ret
            exact ⟨rfl, (unhide HB).trans (unhide HK3)⟩
          | true =>
            rw [Bool.true_and]
            go_enter Tryz.func86, Tryz.ntmps86
            go_wp2_with (first
              | (go_at_call 103; refine (unhide HW).mono ?_; rintro e w2 ⟨rfl, hk2⟩; have HJ2 := hide hk2; have HK2 := hide hk2; have r0 := (hk2.cell (o := 0) hxb id).trans c0; have r3 := (hk2.cell (o := 3) hxb id).trans c3; clear hk2)
              | (go_at_call_of 61 (Value.slice tao th.len tcap); refine (unhide HT _ ((unhide HB).trans (unhide HK2))).mono ?_; rintro e w3 ⟨rfl, hk3⟩; have HK3 := hide ((unhide HK2).trans hk3); have r4 := ((unhide HK3).cell (o := 4) hxb id).trans c4; clear hk3)
              | (go_at_call_of 61 (Value.slice eao el.len ecap); refine (unhide HE _ ((unhide HB).trans (unhide HK3))).mono ?_; rintro e w4 ⟨rfl, hk4⟩; have HK4 := hide ((unhide HK3).trans hk4); clear hk4))
            go_ret
            exact ⟨rfl, (unhide HB).trans (unhide HK4)⟩
    · rw [decide_eq_false hx1, Bool.false_and]
      have d1 : ((ex.len : Int) != 1) = true := by simp; omega
      clear hX hxx hxa
      go_enter Tryz.func86, Tryz.ntmps86
      go_wp2_with fail
      go_ret
      exact ⟨rfl, unhide HB⟩

set_option maxRecDepth 100000 in
set_option maxHeartbeats 1600000 in
theorem rWell_v (Z : Zone) (N : Nat) : ∀ (l : SL), l.size < N → l.size ≤ 4294967294 → ∀ (w : World) (up : Nat) (v : Value), SlS Z w up v l →
    Calls Tryz.prog 61 #[v] w fun e w' => e = .returned (.bool (wellS l)) ∧ Keeps (fun _ => False) w w' := by
  induction N with
  | zero => intro l h; omega
  | succ N ih =>
    intro l hsz hlen' w up v hS
    have hlen : l.len ≤ 4294967294 := by have := SL.len_le l; omega
    obtain ⟨ao, cap, b, off, rfl, hcap, ha, hx⟩ := hS.open
    have IH := hide ih
    have HX := hide hx
    have HA := hide ha
    clear hS ih hx ha
    go_enter Tryz.func61, Tryz.ntmps61
    go_wp2_with fail
    go_loopw [3] (fun i wr => ∃ (rest : SL) (k : Nat), i = .int .i64 k ∧ k + rest.len = l.len ∧ rest.size ≤ l.size ∧ wellS rest = wellS l ∧ Keeps (fun _ => False) w wr ∧ StIn Z wr rest b (off + k * 5)) (fun i _ => l.len - (intOf i).toNat)
    case atStart => exact ⟨l, 0, rfl, by omega, Nat.le_refl _, rfl, Keeps.refl _ _, by simpa using unhide HX⟩
    case round =>
      obtain ⟨rest, k, rfl, hkl, hrs, hwe, hkeep, hr⟩ := hrel
      have HK := hide hkeep
      clear hkeep
      cases rest with
      | nil =>
        simp only [SL.len, SL.size, wellS] at hkl hrs hwe
        have HWE := hide hwe
        clear hr hwe
        have i1 : ¬ (k : Int) < (l.len : Int) := by omega
        go_wp2_with fail
        go_ret
        exact ⟨ret_bool (by first | exact unhide HWE | exact (unhide HWE).symm), unhide HK⟩
      | cons op f ex th el rest =>
        obtain ⟨h1, h2, h3, h4, ⟨xv, h5, hxs⟩, ⟨tao, tcap, h6, h7, h8⟩, ⟨eao, ecap, g6, g7, g8⟩, h9⟩ := hr
        rw [wellS_cons] at hwe
        simp only [SL.len, SL.size] at hkl hrs
        obtain ⟨rfl, hp⟩ := (unhide HA) (by omega)
        have HTH : Hid (SlS Z wr b (.slice tao th.len tcap) th) := ⟨tao, tcap, rfl, h7, h8⟩
        have HEL : Hid (SlS Z wr b (.slice eao el.len ecap) el) := ⟨eao, ecap, rfl, g7, g8⟩
        have HEX := hide hxs
        obtain ⟨xao, xcap, rfl, hxl⟩ := hxs.head
        have HR := hide h9
        have HWE := hide hwe
        have i1 : (k : Int) < (l.len : Int) := by omega
        have i0 : (0 : Int) ≤ (k : Int) := by omega
        have hst : Calls Tryz.prog 86 #[stV op f (.slice xao ex.len xcap) (.slice tao th.len tcap) (.slice eao el.len ecap)] wr fun e w' => e = .returned (.bool (stmtB op f ex th el)) ∧ Keeps (fun _ => False) wr w' := by
          by_cases q1 : op = 1 ∨ op = 2 ∨ op = 3 ∨ op = 4
          · exact wellStmt_14 Z op q1 f ex th el (by omega) wr b _ tao eao tcap ecap (unhide HEX)
          by_cases q5 : op = 5
          · exact wellStmt_5 Z op q5 f ex th el (by omega) wr b _ tao eao tcap ecap (unhide HEX)
          by_cases q6 : op = 6 ∨ op = 7
          · exact wellStmt_67 Z op q6 f ex th el (by omega) wr b _ tao eao tcap ecap (unhide HEX)
          by_cases q8 : op = 8
          · subst q8
            exact wellStmt_8 Z f ex th el (by omega) wr b _ tao eao tcap ecap (unhide HEX) (fun w' hk => unhide IH th (by omega) (by omega) w' b _ ((unhide HTH).keepF hk)) (fun w' hk => unhide IH el (by omega) (by omega) w' b _ ((unhide HEL).keepF hk))
          · exact wellStmt_no Z op (by omega) f ex th el (by omega) wr b _ tao eao tcap ecap (unhide HEX)
        have HST := hide hst
        clear h2 h8 h9 hwe hxs g8 hst
        generalize stmtB op f ex th el = bs at HST HWE
        cases bs with
        | false =>
          go_wp2_with (go_at_call 86; refine (unhide HST).mono ?_; rintro e w1 ⟨rfl, hk1⟩)
          go_ret
          exact ⟨ret_bool (by have := unhide HWE; simpa using this), (unhide HK).trans hk1⟩
        | true =>
          go_wp2_with (go_at_call 86; refine (unhide HST).mono ?_; rintro e w1 ⟨rfl, hk1⟩; have HK1 := hide hk1; clear hk1)
          go_roundw
          case rel =>
            refine ⟨rest, k + 1, by go_num, by omega, by omega, by have := unhide HWE; simpa using this, (unhide HK).trans (unhide HK1), ?_⟩
            rw [show off + (k + 1) * 5 = off + k * 5 + 5 by omega]
            exact (unhide HR).keepF (unhide HK1)
          case measure => simp [intOf]; omega
end Go.Proofs.YtoempeobaknkcaaGreatDoor
