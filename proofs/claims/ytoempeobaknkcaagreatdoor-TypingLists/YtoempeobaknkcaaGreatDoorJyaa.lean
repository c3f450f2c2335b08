import Derived.Test.YtoempeobaknkcaaGreatDoorJyba
namespace Go.Proofs.YtoempeobaknkcaaGreatDoor
open Go.RowKit Go.Maps

theorem wrap64_id {n : Int} (h : -9223372036854775808 ≤ n ∧ n ≤ 9223372036854775807) : wrap64 n = n := by unfold wrap64; omega

set_option maxRecDepth 100000 in
set_option maxHeartbeats 800000 in
theorem count_v (Z : Zone) (N : Nat) : ∀ (l : SL), l.size < N → l.size ≤ 4294967294 → ∀ (w : World) (up : Nat) (v : Value), SlS Z w up v l →
    Calls Tryz.prog 51 #[v] w fun e w' => e = .returned (.int .i64 (countS l)) ∧ Keeps (fun _ => False) w w' := by
  induction N with
  | zero => intro l h; omega
  | succ N ih =>
    intro l hsz hlen' w up v hS
    have hlen : l.len ≤ 4294967294 := by have := SL.len_le l; omega
    obtain ⟨ao, cap, b, off, rfl, hcap, ha, hx⟩ := hS.open
    have IH := hide ih
    have HX := hide hx
    have HA := hide ha
    have hcl := countS_le l
    clear hS ih hx ha
    go_enter Tryz.func51, Tryz.ntmps51
    go_wp2_with fail
    go_loopw [3, 10] (fun d i wr => ∃ (rest : SL) (k m : Nat), d = .int .i64 m ∧ i = .int .i64 k ∧ k + rest.len = l.len ∧ rest.size ≤ l.size ∧ m + countS rest = countS l + rest.len ∧ Keeps (fun _ => False) w wr ∧ StIn Z wr rest b (off + k * 5)) (fun _ i _ => l.len - (intOf i).toNat)
    case atStart => exact ⟨l, 0, l.len, rfl, rfl, by omega, Nat.le_refl _, by omega, Keeps.refl _ _, by simpa using unhide HX⟩
    case round =>
      obtain ⟨rest, k, m, rfl, rfl, hkl, hrs, hwe, hkeep, hr⟩ := hrel
      cases rest with
      | nil =>
        simp only [SL.len, SL.size, countS] at hkl hrs hwe
        have HK := hide hkeep
        have HWE := hide hwe
        clear hkeep hr hwe
        have i1 : ¬ (k : Int) < (l.len : Int) := by omega
        go_wp2_with fail
        go_ret
        exact ⟨ret_int (by have := unhide HWE; omega), unhide HK⟩
      | cons op f ex th el rest =>
        obtain ⟨h1, h2, h3, h4, ⟨xv, h5, hxs⟩, ⟨tao, tcap, h6, h7, h8⟩, ⟨eao, ecap, g6, g7, g8⟩, h9⟩ := hr
        simp only [SL.len, SL.size, countS] at hkl hrs hwe
        obtain ⟨rfl, hp⟩ := (unhide HA) (by omega)
        have HTH : Hid (SlS Z wr b (.slice tao th.len tcap) th) := ⟨tao, tcap, rfl, h7, h8⟩
        have HEL : Hid (SlS Z wr b (.slice eao el.len ecap) el) := ⟨eao, ecap, rfl, g7, g8⟩
        obtain ⟨xao, xcap, rfl, hxl⟩ := hxs.head
        have HR := hide h9
        have HK := hide hkeep
        have HWE := hide hwe
        have i1 : (k : Int) < (l.len : Int) := by omega
        have i0 : (0 : Int) ≤ (k : Int) := by omega
        obtain ⟨HB, hxb, hxc⟩ := boxedT wr #[.int .i64 op, str f, .slice xao ex.len xcap, .slice tao th.len tcap, .slice eao el.len ecap] 53
        have f3 : ∀ m : KW (wr.alloc (.cells #[.int .i64 op, str f, .slice xao ex.len xcap, .slice tao th.len tcap, .slice eao el.len ecap] 53)), m.wd.cell? ⟨wr.heap.size, 3, none⟩ = some (.slice tao th.len tcap) := fun m => (m.kept.cell (o := 3) hxb id).trans (hxc 3 (.slice tao th.len tcap) rfl)
        have f4 : ∀ m : KW (wr.alloc (.cells #[.int .i64 op, str f, .slice xao ex.len xcap, .slice tao th.len tcap, .slice eao el.len ecap] 53)), m.wd.cell? ⟨wr.heap.size, 4, none⟩ = some (.slice eao el.len ecap) := fun m => (m.kept.cell (o := 4) hxb id).trans (hxc 4 (.slice eao el.len ecap) rfl)
        have HKT := fun (w' : World) (hk : Keeps (fun _ => False) wr w') => hide (unhide IH th (by omega) (by omega) w' b (.slice tao th.len tcap) ((unhide HTH).keepF hk))
        have HKE := fun (w' : World) (hk : Keeps (fun _ => False) wr w') => hide (unhide IH el (by omega) (by omega) w' b (.slice eao el.len ecap) ((unhide HEL).keepF hk))
        have HQT := hide (fun (m : KW (wr.alloc (.cells #[.int .i64 op, str f, .slice xao ex.len xcap, .slice tao th.len tcap, .slice eao el.len ecap] 53))) => kw_of m (unhide (HKT m.wd ((unhide HB).trans m.kept))))
        have HQE := hide (fun (m : KW (wr.alloc (.cells #[.int .i64 op, str f, .slice xao ex.len xcap, .slice tao th.len tcap, .slice eao el.len ecap] 53))) => kw_of m (unhide (HKE m.wd ((unhide HB).trans m.kept))))
        have hdk := countS_le th
        have hde := countS_le el
        clear hkeep h2 h8 h9 hwe hxc hxs g8
        clear HKT HKE
        go_wp2_with fail
        refine region_kept (by kernel_rfl) (by kernel_rfl) ?_
        repeat (go_big_quiet_step ((first | (go_at_call_of 51 (Value.slice tao th.len tcap); exact unhide HQT _) | (go_at_call_of 51 (Value.slice eao el.len ecap); exact unhide HQE _))))
        refine wpQuiet_nil ?_
        rintro _ ⟨nq, rfl⟩
        go_wp2_with fail
        have hwe := unhide HWE
        have hlr := SL.len_le rest
        go_roundw
        case rel =>
          refine ⟨rest, k + 1, m + (countS th + countS el), by rw [wrap64_id (by omega)]; rfl, by go_num, by omega, by omega, by omega, (unhide HK).trans ((unhide HB).trans nq.kept), ?_⟩
          rw [show off + (k + 1) * 5 = off + k * 5 + 5 by omega]
          exact (unhide HR).keepF ((unhide HB).trans nq.kept)
        case measure => simp [intOf]; omega
end Go.Proofs.YtoempeobaknkcaaGreatDoor
namespace Go.Proofs.YtoempeobaknkcaaGreatDoor
open Go.RowKit Go.Maps

set_option maxRecDepth 100000 in
set_option maxHeartbeats 800000 in
theorem depth_v (Z : Zone) (N : Nat) : ∀ (l : SL), l.size < N → l.size ≤ 4294967294 → ∀ (w : World) (up : Nat) (v : Value), SlS Z w up v l →
    Calls Tryz.prog 52 #[v] w fun e w' => e = .returned (.int .i64 (depthS l)) ∧ Keeps (fun _ => False) w w' := by
  induction N with
  | zero => intro l h; omega
  | succ N ih =>
    intro l hsz hlen' w up v hS
    have hlen : l.len ≤ 4294967294 := by have := SL.len_le l; omega
    obtain ⟨ao, cap, b, off, rfl, hcap, ha, hx⟩ := hS.open
    have IH := hide ih
    have HX := hide hx
    have HA := hide ha
    have hcl := depthS_le l
    clear hS ih hx ha
    go_enter Tryz.func52, Tryz.ntmps52
    go_wp2_with fail
    go_loopw [3, 8] (fun d i wr => ∃ (rest : SL) (k m : Nat), d = .int .i64 m ∧ i = .int .i64 k ∧ k + rest.len = l.len ∧ rest.size ≤ l.size ∧ max m (depthS rest) = depthS l ∧ Keeps (fun _ => False) w wr ∧ StIn Z wr rest b (off + k * 5)) (fun _ i _ => l.len - (intOf i).toNat)
    case atStart => exact ⟨l, 0, 0, rfl, rfl, by omega, Nat.le_refl _, by omega, Keeps.refl _ _, by simpa using unhide HX⟩
    case round =>
      obtain ⟨rest, k, m, rfl, rfl, hkl, hrs, hwe, hkeep, hr⟩ := hrel
      cases rest with
      | nil =>
        simp only [SL.len, SL.size, depthS] at hkl hrs hwe
        have HK := hide hkeep
        have HWE := hide hwe
        clear hkeep hr hwe
        have i1 : ¬ (k : Int) < (l.len : Int) := by omega
        go_wp2_with fail
        go_ret
        exact ⟨ret_int (by have := unhide HWE; omega), unhide HK⟩
      | cons op f ex th el rest =>
        obtain ⟨h1, h2, h3, h4, ⟨xv, h5, hxs⟩, ⟨tao, tcap, h6, h7, h8⟩, ⟨eao, ecap, g6, g7, g8⟩, h9⟩ := hr
        simp only [SL.len, SL.size, depthS] at hkl hrs hwe
        obtain ⟨rfl, hp⟩ := (unhide HA) (by omega)
        have HTH : Hid (SlS Z wr b (.slice tao th.len tcap) th) := ⟨tao, tcap, rfl, h7, h8⟩
        have HEL : Hid (SlS Z wr b (.slice eao el.len ecap) el) := ⟨eao, ecap, rfl, g7, g8⟩
        have HEX := hide hxs
        obtain ⟨xao, xcap, rfl, hxl⟩ := hxs.head
        have HR := hide h9
        have HK := hide hkeep
        have HWE := hide hwe
        have i1 : (k : Int) < (l.len : Int) := by omega
        have i0 : (0 : Int) ≤ (k : Int) := by omega
        obtain ⟨HB, hxb, hxc⟩ := boxedT wr #[.int .i64 op, str f, .slice xao ex.len xcap, .slice tao th.len tcap, .slice eao el.len ecap] 53
        have f2 : ∀ m : KW (wr.alloc (.cells #[.int .i64 op, str f, .slice xao ex.len xcap, .slice tao th.len tcap, .slice eao el.len ecap] 53)), m.wd.cell? ⟨wr.heap.size, 2, none⟩ = some (.slice xao ex.len xcap) := fun m => (m.kept.cell (o := 2) hxb id).trans (hxc 2 (.slice xao ex.len xcap) rfl)
        have f3 : ∀ m : KW (wr.alloc (.cells #[.int .i64 op, str f, .slice xao ex.len xcap, .slice tao th.len tcap, .slice eao el.len ecap] 53)), m.wd.cell? ⟨wr.heap.size, 3, none⟩ = some (.slice tao th.len tcap) := fun m => (m.kept.cell (o := 3) hxb id).trans (hxc 3 (.slice tao th.len tcap) rfl)
        have f4 : ∀ m : KW (wr.alloc (.cells #[.int .i64 op, str f, .slice xao ex.len xcap, .slice tao th.len tcap, .slice eao el.len ecap] 53)), m.wd.cell? ⟨wr.heap.size, 4, none⟩ = some (.slice eao el.len ecap) := fun m => (m.kept.cell (o := 4) hxb id).trans (hxc 4 (.slice eao el.len ecap) rfl)
        have HKT := fun (w' : World) (hk : Keeps (fun _ => False) wr w') => hide (unhide IH th (by omega) (by omega) w' b (.slice tao th.len tcap) ((unhide HTH).keepF hk))
        have HKE := fun (w' : World) (hk : Keeps (fun _ => False) wr w') => hide (unhide IH el (by omega) (by omega) w' b (.slice eao el.len ecap) ((unhide HEL).keepF hk))
        have HQX := hide (fun (m : KW (wr.alloc (.cells #[.int .i64 op, str f, .slice xao ex.len xcap, .slice tao th.len tcap, .slice eao el.len ecap] 53))) => kw_of m (exprsDepth_v Z (ex.size + 1) ex (by omega) (by omega) m.wd b (.slice xao ex.len xcap) ((unhide HEX).keepF ((unhide HB).trans m.kept))))
        have HQT := hide (fun (m : KW (wr.alloc (.cells #[.int .i64 op, str f, .slice xao ex.len xcap, .slice tao th.len tcap, .slice eao el.len ecap] 53))) => kw_of m (unhide (HKT m.wd ((unhide HB).trans m.kept))))
        have HQE := hide (fun (m : KW (wr.alloc (.cells #[.int .i64 op, str f, .slice xao ex.len xcap, .slice tao th.len tcap, .slice eao el.len ecap] 53))) => kw_of m (unhide (HKE m.wd ((unhide HB).trans m.kept))))
        have hdk := depthS_le th
        have hdx := depthE_le ex
        have hde := depthS_le el
        clear hkeep h2 h8 h9 hwe hxc hxs g8
        clear HKT HKE
        go_wp2_with fail
        refine region_kept (by kernel_rfl) (by kernel_rfl) ?_
        repeat (go_big_quiet_step ((first | (go_at_call 56; exact unhide HQX _) | (go_at_call_of 52 (Value.slice tao th.len tcap); exact unhide HQT _) | (go_at_call_of 52 (Value.slice eao el.len ecap); exact unhide HQE _))))
        refine wpQuiet_nil ?_
        rintro _ ⟨nq, rfl⟩
        go_wp2_with fail
        have hwe := unhide HWE
        go_roundw
        case rel =>
          refine ⟨rest, k + 1, max m (1 + max (depthE ex) (max (depthS th) (depthS el))), congrArg (Value.int .i64) (by (repeat' split) <;> omega), by go_num, by omega, by omega, by omega, (unhide HK).trans ((unhide HB).trans nq.kept), ?_⟩
          rw [show off + (k + 1) * 5 = off + k * 5 + 5 by omega]
          exact (unhide HR).keepF ((unhide HB).trans nq.kept)
        case measure => simp [intOf]; omega
end Go.Proofs.YtoempeobaknkcaaGreatDoor
