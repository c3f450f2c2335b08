import Derived.Test.YtlnkleicnkfkpaaDoorEc
namespace Go.Proofs.YtlnkleicnkfkpaaDoor
open Go.RowKit Go.Maps

set_option maxRecDepth 100000 in
set_option maxHeartbeats 1600000 in
theorem parts_stmts (B c : Nat) (hBc : B ≤ c) (N : Nat) : ∀ (l : SL), l.size < N → ∀ (w : World) (up : Nat) (v : Value) (n left : Int), SlS (argZ B) w up v l → w.heap[c]? = some (.cells #[.int .i64 n] 47 (0, 0)) → 0 ≤ n → n ≤ 2147483647 → 0 ≤ left → left ≤ 65536 →
    Calls Tryd.prog 20 #[.pointer (some ⟨c, 0, none⟩), v, .int .i64 left] w (PPost c n l.size w) := by
  induction N with
  | zero => intro l h; omega
  | succ N ih =>
    intro l hsz w up v n left hS hb hn0 hn1 hl0 hl1
    obtain ⟨ao, cap, b, off, rfl, hcap, ha, hx⟩ := hS.open
    have IH := hide ih
    have HX := hide hx
    have HA := hide ha
    have HB := hide hb
    clear hS ih hx ha hb
    go_enter Tryd.func20, Tryd.ntmps20
    go_wp2_with fail
    go_loopw [7] (fun i wr => ∃ (rest : SL) (k : Nat) (m : Int), i = .int .i64 k ∧ k + rest.len = l.len ∧ rest.size ≤ l.size ∧ m + rest.size = n + l.size ∧ n + k ≤ m ∧ m ≤ 2147483647 ∧ wr.heap[c]? = some (.cells #[.int .i64 m] 47 (0, 0)) ∧ Keeps (fun k => k = c) w wr ∧ StIn (argZ B) wr rest b (off + k * 5)) (fun i _ => l.len - (intOf i).toNat)
    case atStart => exact ⟨l, 0, n, rfl, by omega, Nat.le_refl _, rfl, by omega, hn1, unhide HB, Keeps.refl _ _, by simpa using unhide HX⟩
    case round =>
      obtain ⟨rest, k, m, rfl, hkl, hrs, hm, hnk, hm1, hc, hkeep, hr⟩ := hrel
      cases rest with
      | nil =>
        simp only [SL.len, SL.size] at hkl hm hrs
        have HC := hide hc
        have HK := hide hkeep
        clear hc hkeep hr
        have i1 : ¬ (k : Int) < (l.len : Int) := by omega
        go_wp2_with fail
        go_ret
        exact ⟨_, _, rfl, unhide HC, unhide HK, by omega, fun _ => ⟨by omega, hm1⟩⟩
      | cons op f ex th el rest =>
        obtain ⟨h1, h2, h3, h4, ⟨xv, h5, hxs⟩, ⟨tao, tcap, h6, h7, h8⟩, ⟨eao, ecap, g6, g7, g8⟩, h9⟩ := hr
        simp only [SL.len, SL.size] at hkl hm hrs
        obtain ⟨rfl, hp⟩ := (unhide HA) (by omega)
        have HEX := hide hxs
        have HTH : Hid (SlS (argZ B) wr b (.slice tao th.len tcap) th) := ⟨tao, tcap, rfl, h7, h8⟩
        have HEL : Hid (SlS (argZ B) wr b (.slice eao el.len ecap) el) := ⟨eao, ecap, rfl, g7, g8⟩
        have HR := hide h9
        have HK := hide hkeep
        have HC := hide hc
        have hcc := cell_of_blk hc 0
        have hfz := frozen_of_blk hc 0
        simp at hcc
        have i1 : (k : Int) < (l.len : Int) := by omega
        have i0 : (0 : Int) ≤ (k : Int) := by omega
        have hbc : b ≠ c := by have : b < B := h2; omega
        have hcb : c ≠ b := fun e => hbc e.symm
        have HC1 : Hid ((wr.setCell ⟨c, 0, none⟩ (.int .i64 (m + 1))).heap[c]? = some (.cells #[.int .i64 (m + 1)] 47 (0, 0))) := by
          have := heap_setCell_at (unhide HC) (o := 0) (.int .i64 (m + 1))
          exact hide (by simpa using this)
        have HK1 : Hid (Keeps (fun k => k = c) w (wr.setCell ⟨c, 0, none⟩ (.int .i64 (m + 1)))) := (unhide HK).setCell (fun _ => rfl) _
        have HKS : Hid (Keeps (fun k => k = c) wr (wr.setCell ⟨c, 0, none⟩ (.int .i64 (m + 1)))) := (Keeps.refl (fun k => k = c) wr).setCell (fun _ => rfl) _
        clear hc hkeep h2 h3 h4 h8 g8 h9 hxs
        by_cases hq : left = 0
        · subst hq
          go_wp2_with fail
          go_ret
          exact ⟨true, _, rfl, unhide HC1, unhide HK1, by omega, fun h => by cases h⟩
        · have hq' : (left == 0) = false := by simpa using hq
          by_cases hm2 : m = 2147483647
          · subst hm2
            go_wp2_with fail
            go_ret
            exact ⟨true, _, rfl, unhide HC1, unhide HK1, by omega, fun h => by cases h⟩
          · have hm3 : ¬ (2147483647 : Int) < m + 1 := by omega
            obtain ⟨xao, xcap, rfl, hxl⟩ := (unhide HEX).head
            have HCALL := hide (parts_exprs B c hBc (ex.size + 1) ex (by omega) _ b (.slice xao ex.len xcap) (m + 1) (left - 1) ((unhide HEX).argKeep (unhide HKS) (fun k e => by omega)) (unhide HC1) (by omega) (by omega) (by omega) (by omega))
            go_wp2_with (first
              | (go_at_call 21; refine (unhide HCALL).mono ?_; rintro e w1 ⟨r, n1, rfl, hc1, hk1, hn1, hr1⟩; have HC2 := hide hc1; have HN1 := hide hn1; have HR1 := hide hr1; have HKW := hide ((unhide HKS).trans hk1); have HKT := hide ((unhide HK1).trans hk1); have q6 := ((unhide HKW).cell h1 hbc).trans h6; have q7 := ((unhide HKW).cell h1 hbc).trans g6; clear hc1 hk1 hn1 hr1)
              | (go_at_call_of 20 (Value.slice tao th.len tcap); have HE1 := hide ((unhide HR1) (by assumption)); refine (unhide IH th (by omega) _ b _ n1 (left - 1) ((unhide HTH).argKeep (unhide HKW) (fun k e => by omega)) (unhide HC2) (unhide HN1) (unhide HE1).2 (by omega) (by omega)).mono ?_; rintro e w2 ⟨r2, n2, rfl, hc1, hk1, hn1, hr1⟩; have HC3 := hide hc1; have HN2 := hide hn1; have HR2 := hide hr1; have HKW2 := hide ((unhide HKW).trans hk1); have HKT2 := hide ((unhide HKT).trans hk1); have q8 := ((unhide HKW2).cell h1 hbc).trans g6; clear hc1 hk1 hn1 hr1)
              | (go_at_call_of 20 (Value.slice eao el.len ecap); have HE2 := hide ((unhide HR2) (by assumption)); refine (unhide IH el (by omega) _ b _ n2 (left - 1) ((unhide HEL).argKeep (unhide HKW2) (fun k e => by omega)) (unhide HC3) (unhide HN2) (unhide HE2).2 (by omega) (by omega)).mono ?_; rintro e w3 ⟨r3, n3, rfl, hc1, hk1, hn1, hr1⟩; have HC4 := hide hc1; have HN3 := hide hn1; have HR3 := hide hr1; have HKW3 := hide ((unhide HKW2).trans hk1); have HKT3 := hide ((unhide HKT2).trans hk1); clear hc1 hk1 hn1 hr1))
            · go_ret
              exact ⟨true, _, rfl, unhide HC2, unhide HKT, unhide HN1, fun h => by cases h⟩
            · go_ret
              exact ⟨true, _, rfl, unhide HC3, unhide HKT2, unhide HN2, fun h => by cases h⟩
            · go_ret
              exact ⟨true, _, rfl, unhide HC4, unhide HKT3, unhide HN3, fun h => by cases h⟩
            · obtain ⟨e1, e2⟩ := (unhide HR1) (by assumption)
              obtain ⟨e3, e4⟩ := (unhide HR2) (by assumption)
              obtain ⟨e5, e6⟩ := (unhide HR3) (by assumption)
              go_roundw
              case rel =>
                refine ⟨rest, k + 1, n3, by go_num, by omega, by omega, by omega, by omega, e6, unhide HC4, unhide HKT3, ?_⟩
                rw [show off + (k + 1) * 5 = off + k * 5 + 5 by omega]
                exact (unhide HR).argKeep (unhide HKW3) (fun k e => by omega)
              case measure => simp [intOf]; omega
end Go.Proofs.YtlnkleicnkfkpaaDoor
