import Derived.Test.YtoempeobaknkcaaGreatDoorJzac
namespace Go.Proofs.YtoempeobaknkcaaGreatDoor
open Go.RowKit Go.Maps

set_option maxRecDepth 100000 in
set_option maxHeartbeats 800000 in
theorem depth_v (Z : Zone) (N : Nat) : ∀ (l : SL), l.size < N → l.size ≤ 4294967294 → ∀ (w : World) (up : Nat) (v : Value), SlS Z w up v l →
    Calls Tryz.prog 52 #[v] w fun e w' => e = .returned (.int .i64 (depthS l)) ∧ Keeps (fun _ => False) w w' := by
  induction N with
  | zero => intro l h; omega
  | succ N ih =>
    intro l hsz hlen' w up v hS
    have hlen : l.len ≤ 4294967294 := by have := SL.len_le l; omega
    obtain ⟨ao, cap, b, off, rfl, hcap, ha, hx⟩ := hS.open
    have IH := hide ih
    have HX := hide hx
    have HA := hide ha
    have hcl := depthS_le l
    clear hS ih hx ha
    go_enter Tryz.func52, Tryz.ntmps52
    go_wp2_with fail
    go_loopw [3, 8] (fun d i wr => ∃ (rest : SL) (k m : Nat), d = .int .i64 m ∧ i = .int .i64 k ∧ k + rest.len = l.len ∧ rest.size ≤ l.size ∧ max m (depthS rest) = depthS l ∧ Keeps (fun _ => False) w wr ∧ StIn Z wr rest b (off + k * 5)) (fun _ i _ => l.len - (intOf i).toNat)
    case atStart => exact ⟨l, 0, 0, rfl, rfl, by omega, Nat.le_refl _, by omega, Keeps.refl _ _, by simpa using unhide HX⟩
    case round =>
      obtain ⟨rest, k, m, rfl, rfl, hkl, hrs, hwe, hkeep, hr⟩ := hrel
      cases rest with
      | nil =>
        simp only [SL.len, SL.size, depthS] at hkl hrs hwe
        have HK := hide hkeep
        have HWE := hide hwe
        clear hkeep hr hwe
        have i1 : ¬ (k : Int) < (l.len : Int) := by omega
        go_wp2_with fail
        go_ret
        exact ⟨ret_int (by have := unhide HWE; omega), unhide HK⟩
      | cons op f ex th el rest =>
        obtain ⟨h1, h2, h3, h4, ⟨xv, h5, hxs⟩, ⟨tao, tcap, h6, h7, h8⟩, ⟨eao, ecap, g6, g7, g8⟩, h9⟩ := hr
        simp only [SL.len, SL.size, depthS] at hkl hrs hwe
        obtain ⟨rfl, hp⟩ := (unhide HA) (by omega)
        have HTH : Hid (SlS Z wr b (.slice tao th.len tcap) th) := ⟨tao, tcap, rfl, h7, h8⟩
        have HEL : Hid (SlS Z wr b (.slice eao el.len ecap) el) := ⟨eao, ecap, rfl, g7, g8⟩
        have HEX := hide hxs
        obtain ⟨xao, xcap, rfl, hxl⟩ := hxs.head
        have HR := hide h9
        have HK := hide hkeep
        have HWE := hide hwe
        have i1 : (k : Int) < (l.len : Int) := by omega
        have i0 : (0 : Int) ≤ (k : Int) := by omega
        obtain ⟨HB, hxb, hxc⟩ := boxedT wr #[.int .i64 op, str f, .slice xao ex.len xcap, .slice tao th.len tcap, .slice eao el.len ecap] 53
        have f2 : ∀ m : KW (wr.alloc (.cells #[.int .i64 op, str f, .slice xao ex.len xcap, .slice tao th.len tcap, .slice eao el.len ecap] 53)), m.wd.cell? ⟨wr.heap.size, 2, none⟩ = some (.slice xao ex.len xcap) := fun m => (m.kept.cell (o := 2) hxb id).trans (hxc 2 (.slice xao ex.len xcap) rfl)
        have f3 : ∀ m : KW (wr.alloc (.cells #[.int .i64 op, str f, .slice xao ex.len xcap, .slice tao th.len tcap, .slice eao el.len ecap] 53)), m.wd.cell? ⟨wr.heap.size, 3, none⟩ = some (.slice tao th.len tcap) := fun m => (m.kept.cell (o := 3) hxb id).trans (hxc 3 (.slice tao th.len tcap) rfl)
        have f4 : ∀ m : KW (wr.alloc (.cells #[.int .i64 op, str f, .slice xao ex.len xcap, .slice tao th.len tcap, .slice eao el.len ecap] 53)), m.wd.cell? ⟨wr.heap.size, 4, none⟩ = some (.slice eao el.len ecap) := fun m => (m.kept.cell (o := 4) hxb id).trans (hxc 4 (.slice eao el.len ecap) rfl)
        have HKT := fun (w' : World) (hk : Keeps (fun _ => False) wr w') => hide (unhide IH th (by omega) (by omega) w' b (.slice tao th.len tcap) ((unhide HTH).keepF hk))
        have HKE := fun (w' : World) (hk : Keeps (fun _ => False) wr w') => hide (unhide IH el (by omega) (by omega) w' b (.slice eao el.len ecap) ((unhide HEL).keepF hk))
        have HQX := hide (fun (m : KW (wr.alloc (.cells #[.int .i64 op, str f, .slice xao ex.len xcap, .slice tao th.len tcap, .slice eao el.len ecap] 53))) => kw_of m (exprsDepth_v Z (ex.size + 1) ex (by omega) (by omega) m.wd b (.slice xao ex.len xcap) ((unhide HEX).keepF ((unhide HB).trans m.kept))))
        have HQT := hide (fun (m : KW (wr.alloc (.cells #[.int .i64 op, str f, .slice xao ex.len xcap, .slice tao th.len tcap, .slice eao el.len ecap] 53))) => kw_of m (unhide (HKT m.wd ((unhide HB).trans m.kept))))
        have HQE := hide (fun (m : KW (wr.alloc (.cells #[.int .i64 op, str f, .slice xao ex.len xcap, .slice tao th.len tcap, .slice eao el.len ecap] 53))) => kw_of m (unhide (HKE m.wd ((unhide HB).trans m.kept))))
        have hdk := depthS_le th
        have hdx := depthE_le ex
        have hde := depthS_le el
        clear hkeep h2 h8 h9 hwe hxc hxs g8
        clear HKT HKE
        go_wp2_with fail
        refine region_kept (by kernel_rfl) (by kernel_rfl) ?_
        repeat (go_big_quiet_step ((first | (go_at_call 56; exact unhide HQX _) | (go_at_call_of 52 (Value.slice tao th.len tcap); exact unhide HQT _) | (go_at_call_of 52 (Value.slice eao el.len ecap); exact unhide HQE _))))
        refine wpQuiet_nil ?_
        rintro _ ⟨nq, rfl⟩
        go_wp2_with fail
        have hwe := unhide HWE
        go_roundw
        case rel =>
          refine ⟨rest, k + 1, max m (1 + max (depthE ex) (max (depthS th) (depthS el))), congrArg (Value.int .i64) (by (repeat' split) <;> omega), by go_num, by omega, by omega, by omega, (unhide HK).trans ((unhide HB).trans nq.kept), ?_⟩
          rw [show off + (k + 1) * 5 = off + k * 5 + 5 by omega]
          exact (unhide HR).keepF ((unhide HB).trans nq.kept)
        case measure => simp [intOf]; omega
end Go.Proofs.YtoempeobaknkcaaGreatDoor
namespace Go.Proofs.YtoempeobaknkcaaGreatDoor
open Go.RowKit Go.Maps

set_option maxRecDepth 100000 in
set_option maxHeartbeats 1600000 in
theorem headFits_v (op : Int) (f : Txt) (xo to eo : Option Addr) (x t e xc tc ec : Nat) (w : World) :
    Calls Tryz.prog 70 #[stV op f (.slice xo x xc) (.slice to t tc) (.slice eo e ec)] w fun en w' => en = .returned (.bool (headS op f x t e)) ∧ Keeps (fun _ => False) w w' := by
  obtain ⟨HX, hxb, hxc⟩ := boxedT w #[.int .i64 op, str f, .slice xo x xc, .slice to t tc, .slice eo e ec] 53
  have c0 := hxc 0 (.int .i64 op) rfl
  have c1 := hxc 1 (str f) rfl
  have c2 := hxc 2 (.slice xo x xc) rfl
  have c3 := hxc 3 (.slice to t tc) rfl
  have c4 := hxc 4 (.slice eo e ec) rfl
  have HN := hide (name_v f)
  clear hxc
  unfold headS
  by_cases h1 : op = 1
  · subst h1
    rw [if_pos (by omega)]
    go_enter Tryz.func70, Tryz.ntmps70
    go_wp2_with (go_at_call 46; refine (unhide HN _).mono ?_; rintro e w1 ⟨rfl, rfl⟩)
    all_goals (go_ret; refine ⟨ret_bool ?_, (Keeps.refl _ w).alloc _⟩; clear HX c0 c1 c2 c3 c4 HN hxb; first | (cases f <;> simp_all; done) | (simp_all; done) | (simp_all; omega) | (simp_all; rw [Bool.eq_iff_iff]; simp; done) | (simp_all; rw [Bool.eq_iff_iff]; simp; omega) | (cases f <;> simp_all <;> first | omega | (rw [Bool.eq_iff_iff]; simp; done) | (rw [Bool.eq_iff_iff]; simp; omega)))
  by_cases h2 : op = 2
  · subst h2
    rw [if_pos (by omega)]
    go_enter Tryz.func70, Tryz.ntmps70
    go_wp2_with (go_at_call 46; refine (unhide HN _).mono ?_; rintro e w1 ⟨rfl, rfl⟩)
    all_goals (go_ret; refine ⟨ret_bool ?_, (Keeps.refl _ w).alloc _⟩; clear HX c0 c1 c2 c3 c4 HN hxb; first | (cases f <;> simp_all; done) | (simp_all; done) | (simp_all; omega) | (simp_all; rw [Bool.eq_iff_iff]; simp; done) | (simp_all; rw [Bool.eq_iff_iff]; simp; omega) | (cases f <;> simp_all <;> first | omega | (rw [Bool.eq_iff_iff]; simp; done) | (rw [Bool.eq_iff_iff]; simp; omega)))
  by_cases h3 : op = 3
  · subst h3
    rw [if_pos (by omega)]
    go_enter Tryz.func70, Tryz.ntmps70
    go_wp2_with (go_at_call 46; refine (unhide HN _).mono ?_; rintro e w1 ⟨rfl, rfl⟩)
    all_goals (go_ret; refine ⟨ret_bool ?_, (Keeps.refl _ w).alloc _⟩; clear HX c0 c1 c2 c3 c4 HN hxb; first | (cases f <;> simp_all; done) | (simp_all; done) | (simp_all; omega) | (simp_all; rw [Bool.eq_iff_iff]; simp; done) | (simp_all; rw [Bool.eq_iff_iff]; simp; omega) | (cases f <;> simp_all <;> first | omega | (rw [Bool.eq_iff_iff]; simp; done) | (rw [Bool.eq_iff_iff]; simp; omega)))
  by_cases h4 : op = 4
  · subst h4
    rw [if_pos (by omega)]
    go_enter Tryz.func70, Tryz.ntmps70
    go_wp2_with (go_at_call 46; refine (unhide HN _).mono ?_; rintro e w1 ⟨rfl, rfl⟩)
    all_goals (go_ret; refine ⟨ret_bool ?_, (Keeps.refl _ w).alloc _⟩; clear HX c0 c1 c2 c3 c4 HN hxb; first | (cases f <;> simp_all; done) | (simp_all; done) | (simp_all; omega) | (simp_all; rw [Bool.eq_iff_iff]; simp; done) | (simp_all; rw [Bool.eq_iff_iff]; simp; omega) | (cases f <;> simp_all <;> first | omega | (rw [Bool.eq_iff_iff]; simp; done) | (rw [Bool.eq_iff_iff]; simp; omega)))
  by_cases h5 : op = 5
  · subst h5
    rw [if_neg (by omega)]
    rw [if_pos (by omega)]
    go_enter Tryz.func70, Tryz.ntmps70
    go_wp2_with (go_at_call 46; refine (unhide HN _).mono ?_; rintro e w1 ⟨rfl, rfl⟩)
    all_goals (go_ret; refine ⟨ret_bool ?_, (Keeps.refl _ w).alloc _⟩; clear HX c0 c1 c2 c3 c4 HN hxb; first | (cases f <;> simp_all; done) | (simp_all; done) | (simp_all; omega) | (simp_all; rw [Bool.eq_iff_iff]; simp; done) | (simp_all; rw [Bool.eq_iff_iff]; simp; omega) | (cases f <;> simp_all <;> first | omega | (rw [Bool.eq_iff_iff]; simp; done) | (rw [Bool.eq_iff_iff]; simp; omega)))
  by_cases h6 : op = 6
  · subst h6
    rw [if_neg (by omega)]
    rw [if_neg (by omega)]
    rw [if_pos (by omega)]
    go_enter Tryz.func70, Tryz.ntmps70
    go_wp2_with (go_at_call 46; refine (unhide HN _).mono ?_; rintro e w1 ⟨rfl, rfl⟩)
    all_goals (go_ret; refine ⟨ret_bool ?_, (Keeps.refl _ w).alloc _⟩; clear HX c0 c1 c2 c3 c4 HN hxb; first | (cases f <;> simp_all; done) | (simp_all; done) | (simp_all; omega) | (simp_all; rw [Bool.eq_iff_iff]; simp; done) | (simp_all; rw [Bool.eq_iff_iff]; simp; omega) | (cases f <;> simp_all <;> first | omega | (rw [Bool.eq_iff_iff]; simp; done) | (rw [Bool.eq_iff_iff]; simp; omega)))
  by_cases h7 : op = 7
  · subst h7
    rw [if_neg (by omega)]
    rw [if_neg (by omega)]
    rw [if_pos (by omega)]
    go_enter Tryz.func70, Tryz.ntmps70
    go_wp2_with (go_at_call 46; refine (unhide HN _).mono ?_; rintro e w1 ⟨rfl, rfl⟩)
    all_goals (go_ret; refine ⟨ret_bool ?_, (Keeps.refl _ w).alloc _⟩; clear HX c0 c1 c2 c3 c4 HN hxb; first | (cases f <;> simp_all; done) | (simp_all; done) | (simp_all; omega) | (simp_all; rw [Bool.eq_iff_iff]; simp; done) | (simp_all; rw [Bool.eq_iff_iff]; simp; omega) | (cases f <;> simp_all <;> first | omega | (rw [Bool.eq_iff_iff]; simp; done) | (rw [Bool.eq_iff_iff]; simp; omega)))
  by_cases h8 : op = 8
  · subst h8
    rw [if_neg (by omega)]
    rw [if_neg (by omega)]
    rw [if_neg (by omega)]
    rw [if_pos (by omega)]
    go_enter Tryz.func70, Tryz.ntmps70
    go_wp2_with (go_at_call 46; refine (unhide HN _).mono ?_; rintro e w1 ⟨rfl, rfl⟩)
    all_goals (go_ret; refine ⟨ret_bool ?_, (Keeps.refl _ w).alloc _⟩; clear HX c0 c1 c2 c3 c4 HN hxb; first | (cases f <;> simp_all; done) | (simp_all; done) | (simp_all; omega) | (simp_all; rw [Bool.eq_iff_iff]; simp; done) | (simp_all; rw [Bool.eq_iff_iff]; simp; omega) | (cases f <;> simp_all <;> first | omega | (rw [Bool.eq_iff_iff]; simp; done) | (rw [Bool.eq_iff_iff]; simp; omega)))
  rw [if_neg (by omega), if_neg (by omega), if_neg (by omega), if_neg (by omega)]
  have d1 : (op == 1) = false := by simpa using h1
  have d2 : (op == 2) = false := by simpa using h2
  have d3 : (op == 3) = false := by simpa using h3
  have d4 : (op == 4) = false := by simpa using h4
  have d5 : (op == 5) = false := by simpa using h5
  have d6 : (op == 6) = false := by simpa using h6
  have d7 : (op == 7) = false := by simpa using h7
  have d8 : (op == 8) = false := by simpa using h8
  clear h1 h2 h3 h4 h5 h6 h7 h8
  go_enter Tryz.func70, Tryz.ntmps70
  go_wp2_with (go_at_call 46; refine (unhide HN _).mono ?_; rintro e w1 ⟨rfl, rfl⟩)
  all_goals (go_ret; exact ⟨rfl, (Keeps.refl _ w).alloc _⟩)
end Go.Proofs.YtoempeobaknkcaaGreatDoor
namespace Go.Proofs.YtoempeobaknkcaaGreatDoor
open Go.RowKit Go.Maps

set_option maxRecDepth 100000 in
set_option maxHeartbeats 1600000 in
theorem wellMade_v (Z : Zone) (N : Nat) : ∀ (l : SL), l.size < N → l.size ≤ 4294967294 → ∀ (w : World) (up : Nat) (v : Value), Forms w → SlS Z w up v l →
    Calls Tryz.prog 50 #[v] w fun e w' => e = .returned (.bool (wellS l)) ∧ Keeps (fun _ => False) w w' := by
  induction N with
  | zero => intro l h; omega
  | succ N ih =>
    intro l hsz hlen' w up v hF hS
    have hlen : l.len ≤ 4294967294 := by have := SL.len_le l; omega
    obtain ⟨ao, cap, b, off, rfl, hcap, ha, hx⟩ := hS.open
    have IH := hide ih
    have HX := hide hx
    have HA := hide ha
    have HF := hide hF
    clear hS ih hx ha hF
    go_enter Tryz.func50, Tryz.ntmps50
    go_wp2_with fail
    go_loopw [7] (fun i wr => ∃ (rest : SL) (k : Nat), i = .int .i64 k ∧ k + rest.len = l.len ∧ rest.size ≤ l.size ∧ wellS rest = wellS l ∧ Keeps (fun _ => False) w wr ∧ StIn Z wr rest b (off + k * 5)) (fun i _ => l.len - (intOf i).toNat)
    case atStart => exact ⟨l, 0, rfl, by omega, Nat.le_refl _, rfl, Keeps.refl _ _, by simpa using unhide HX⟩
    case round =>
      obtain ⟨rest, k, rfl, hkl, hrs, hwe, hkeep, hr⟩ := hrel
      cases rest with
      | nil =>
        simp only [SL.len, SL.size, wellS] at hkl hrs hwe
        have HK := hide hkeep
        have HWE := hide hwe
        clear hkeep hr hwe
        have i1 : ¬ (k : Int) < (l.len : Int) := by omega
        go_wp2_with fail
        go_ret
        exact ⟨ret_bool (by first | exact unhide HWE | exact (unhide HWE).symm), unhide HK⟩
      | cons op f ex th el rest =>
        obtain ⟨h1, h2, h3, h4, ⟨xv, h5, hxs⟩, ⟨tao, tcap, h6, h7, h8⟩, ⟨eao, ecap, g6, g7, g8⟩, h9⟩ := hr
        simp only [SL.len, SL.size, wellS] at hkl hrs hwe
        obtain ⟨rfl, hp⟩ := (unhide HA) (by omega)
        have HTH : Hid (SlS Z wr b (.slice tao th.len tcap) th) := ⟨tao, tcap, rfl, h7, h8⟩
        have HEL : Hid (SlS Z wr b (.slice eao el.len ecap) el) := ⟨eao, ecap, rfl, g7, g8⟩
        have HEX := hide hxs
        obtain ⟨xao, xcap, rfl, hxl⟩ := hxs.head
        have HR := hide h9
        have HK := hide hkeep
        have HWE := hide hwe
        have i1 : (k : Int) < (l.len : Int) := by omega
        have i0 : (0 : Int) ≤ (k : Int) := by omega
        obtain ⟨HB, hxb, hxc⟩ := boxedT wr #[.int .i64 op, str f, .slice xao ex.len xcap, .slice tao th.len tcap, .slice eao el.len ecap] 53
        have q2 := hxc 2 (.slice xao ex.len xcap) rfl
        have q3 := hxc 3 (.slice tao th.len tcap) rfl
        have q4 := hxc 4 (.slice eao el.len ecap) rfl
        have HFW := hide ((unhide HF).keepF (unhide HK))
        have HHD := hide (headFits_v op f xao tao eao ex.len th.len el.len xcap tcap ecap (wr.alloc (.cells #[.int .i64 op, str f, .slice xao ex.len xcap, .slice tao th.len tcap, .slice eao el.len ecap] 53)))
        have HQX := fun (w' : World) (hk : Keeps (fun _ => False) wr w') => hide (exprsWellMade_v Z (ex.size + 1) ex (by omega) (by omega) w' b (.slice xao ex.len xcap) ((unhide HFW).keepF hk) ((unhide HEX).keepF hk))
        have HQT := fun (w' : World) (hk : Keeps (fun _ => False) wr w') => hide (unhide IH th (by omega) (by omega) w' b (.slice tao th.len tcap) ((unhide HFW).keepF hk) ((unhide HTH).keepF hk))
        have HQE := fun (w' : World) (hk : Keeps (fun _ => False) wr w') => hide (unhide IH el (by omega) (by omega) w' b (.slice eao el.len ecap) ((unhide HFW).keepF hk) ((unhide HEL).keepF hk))
        clear hkeep h2 h8 h9 hwe hxc hxs g8
        generalize headS op f ex.len th.len el.len = b1 at HHD HWE
        generalize wellE ex = b2 at HQX HWE
        generalize wellS th = b3 at HQT HWE
        generalize wellS el = b4 at HQE HWE
        cases b1 with
        | false =>
          go_wp2_with (first
            | (go_at_call 70; refine (unhide HHD).mono ?_; rintro e w1 ⟨rfl, hk1⟩; have HJ1 := hide hk1; have HK1 := hide ((unhide HB).trans hk1); have r2 := (hk1.cell (o := 2) hxb id).trans q2; clear hk1)
            | (go_at_call 55; refine (unhide (HQX _ (unhide HK1))).mono ?_; rintro e w2 ⟨rfl, hk2⟩; have HJ2 := hide ((unhide HJ1).trans hk2); have HK2 := hide ((unhide HK1).trans hk2); have r3 := ((unhide HJ2).cell (o := 3) hxb id).trans q3; clear hk2)
            | (go_at_call_of 50 (Value.slice tao th.len tcap); refine (unhide (HQT _ (unhide HK2))).mono ?_; rintro e w3 ⟨rfl, hk3⟩; have HJ3 := hide ((unhide HJ2).trans hk3); have HK3 := hide ((unhide HK2).trans hk3); have r4 := ((unhide HJ3).cell (o := 4) hxb id).trans q4; clear hk3)
            | (go_at_call_of 50 (Value.slice eao el.len ecap); refine (unhide (HQE _ (unhide HK3))).mono ?_; rintro e w4 ⟨rfl, hk4⟩; have HK4 := hide ((unhide HK3).trans hk4); clear hk4))
          go_ret
          exact ⟨ret_bool (by have := unhide HWE; simpa using this), (unhide HK).trans (unhide HK1)⟩
        | true =>
          cases b2 with
          | false =>
            go_wp2_with (first
              | (go_at_call 70; refine (unhide HHD).mono ?_; rintro e w1 ⟨rfl, hk1⟩; have HJ1 := hide hk1; have HK1 := hide ((unhide HB).trans hk1); have r2 := (hk1.cell (o := 2) hxb id).trans q2; clear hk1)
              | (go_at_call 55; refine (unhide (HQX _ (unhide HK1))).mono ?_; rintro e w2 ⟨rfl, hk2⟩; have HJ2 := hide ((unhide HJ1).trans hk2); have HK2 := hide ((unhide HK1).trans hk2); have r3 := ((unhide HJ2).cell (o := 3) hxb id).trans q3; clear hk2)
              | (go_at_call_of 50 (Value.slice tao th.len tcap); refine (unhide (HQT _ (unhide HK2))).mono ?_; rintro e w3 ⟨rfl, hk3⟩; have HJ3 := hide ((unhide HJ2).trans hk3); have HK3 := hide ((unhide HK2).trans hk3); have r4 := ((unhide HJ3).cell (o := 4) hxb id).trans q4; clear hk3)
              | (go_at_call_of 50 (Value.slice eao el.len ecap); refine (unhide (HQE _ (unhide HK3))).mono ?_; rintro e w4 ⟨rfl, hk4⟩; have HK4 := hide ((unhide HK3).trans hk4); clear hk4))
            go_ret
            exact ⟨ret_bool (by have := unhide HWE; simpa using this), (unhide HK).trans (unhide HK2)⟩
          | true =>
            cases b3 with
            | false =>
              go_wp2_with (first
                | (go_at_call 70; refine (unhide HHD).mono ?_; rintro e w1 ⟨rfl, hk1⟩; have HJ1 := hide hk1; have HK1 := hide ((unhide HB).trans hk1); have r2 := (hk1.cell (o := 2) hxb id).trans q2; clear hk1)
                | (go_at_call 55; refine (unhide (HQX _ (unhide HK1))).mono ?_; rintro e w2 ⟨rfl, hk2⟩; have HJ2 := hide ((unhide HJ1).trans hk2); have HK2 := hide ((unhide HK1).trans hk2); have r3 := ((unhide HJ2).cell (o := 3) hxb id).trans q3; clear hk2)
                | (go_at_call_of 50 (Value.slice tao th.len tcap); refine (unhide (HQT _ (unhide HK2))).mono ?_; rintro e w3 ⟨rfl, hk3⟩; have HJ3 := hide ((unhide HJ2).trans hk3); have HK3 := hide ((unhide HK2).trans hk3); have r4 := ((unhide HJ3).cell (o := 4) hxb id).trans q4; clear hk3)
                | (go_at_call_of 50 (Value.slice eao el.len ecap); refine (unhide (HQE _ (unhide HK3))).mono ?_; rintro e w4 ⟨rfl, hk4⟩; have HK4 := hide ((unhide HK3).trans hk4); clear hk4))
              go_ret
              exact ⟨ret_bool (by have := unhide HWE; simpa using this), (unhide HK).trans (unhide HK3)⟩
            | true =>
              cases b4 with
              | false =>
                go_wp2_with (first
                  | (go_at_call 70; refine (unhide HHD).mono ?_; rintro e w1 ⟨rfl, hk1⟩; have HJ1 := hide hk1; have HK1 := hide ((unhide HB).trans hk1); have r2 := (hk1.cell (o := 2) hxb id).trans q2; clear hk1)
                  | (go_at_call 55; refine (unhide (HQX _ (unhide HK1))).mono ?_; rintro e w2 ⟨rfl, hk2⟩; have HJ2 := hide ((unhide HJ1).trans hk2); have HK2 := hide ((unhide HK1).trans hk2); have r3 := ((unhide HJ2).cell (o := 3) hxb id).trans q3; clear hk2)
                  | (go_at_call_of 50 (Value.slice tao th.len tcap); refine (unhide (HQT _ (unhide HK2))).mono ?_; rintro e w3 ⟨rfl, hk3⟩; have HJ3 := hide ((unhide HJ2).trans hk3); have HK3 := hide ((unhide HK2).trans hk3); have r4 := ((unhide HJ3).cell (o := 4) hxb id).trans q4; clear hk3)
                  | (go_at_call_of 50 (Value.slice eao el.len ecap); refine (unhide (HQE _ (unhide HK3))).mono ?_; rintro e w4 ⟨rfl, hk4⟩; have HK4 := hide ((unhide HK3).trans hk4); clear hk4))
                go_ret
                exact ⟨ret_bool (by have := unhide HWE; simpa using this), (unhide HK).trans (unhide HK4)⟩
              | true =>
                go_wp2_with (first
                  | (go_at_call 70; refine (unhide HHD).mono ?_; rintro e w1 ⟨rfl, hk1⟩; have HJ1 := hide hk1; have HK1 := hide ((unhide HB).trans hk1); have r2 := (hk1.cell (o := 2) hxb id).trans q2; clear hk1)
                  | (go_at_call 55; refine (unhide (HQX _ (unhide HK1))).mono ?_; rintro e w2 ⟨rfl, hk2⟩; have HJ2 := hide ((unhide HJ1).trans hk2); have HK2 := hide ((unhide HK1).trans hk2); have r3 := ((unhide HJ2).cell (o := 3) hxb id).trans q3; clear hk2)
                  | (go_at_call_of 50 (Value.slice tao th.len tcap); refine (unhide (HQT _ (unhide HK2))).mono ?_; rintro e w3 ⟨rfl, hk3⟩; have HJ3 := hide ((unhide HJ2).trans hk3); have HK3 := hide ((unhide HK2).trans hk3); have r4 := ((unhide HJ3).cell (o := 4) hxb id).trans q4; clear hk3)
                  | (go_at_call_of 50 (Value.slice eao el.len ecap); refine (unhide (HQE _ (unhide HK3))).mono ?_; rintro e w4 ⟨rfl, hk4⟩; have HK4 := hide ((unhide HK3).trans hk4); clear hk4))
                go_roundw
                case rel =>
                  refine ⟨rest, k + 1, by go_num, by omega, by omega, by have := unhide HWE; simpa using this, (unhide HK).trans (unhide HK4), ?_⟩
                  rw [show off + (k + 1) * 5 = off + k * 5 + 5 by omega]
                  exact (unhide HR).keepF (unhide HK4)
                case measure => simp [intOf]; omega
end Go.Proofs.YtoempeobaknkcaaGreatDoor
namespace Go.Proofs.YtoempeobaknkcaaGreatDoor
open Go.RowKit Go.Maps

/-- Anywhere. -/
def anyZ : Zone := ⟨fun _ _ _ => True, fun _ _ => True, fun _ _ h => h⟩
theorem ExIn.any {Z : Zone} {w : World} : ∀ {l : EL} {b o : Nat}, ExIn Z w l b o → ExIn anyZ w l b o
  | .nil, _, _, _ => trivial
  | .cons op n s kids rest, b, o, ⟨h1, _, h3, h4, h5, ⟨ao, cap, h6, h7, h8⟩, h9⟩ =>
    ⟨h1, trivial, h3, h4, h5, ⟨ao, cap, h6, h7, fun h0 => by
      obtain ⟨b', o', e, _, hr⟩ := h8 h0
      exact ⟨b', o', e, trivial, hr.any⟩⟩, h9.any⟩
theorem SlE.any {Z : Zone} {w : World} {up : Nat} {v : Value} {l : EL} (h : SlE Z w up v l) (up' : Nat) : SlE anyZ w up' v l := by
  obtain ⟨ao, cap, e, hc, hr⟩ := h
  refine ⟨ao, cap, e, hc, fun h0 => ?_⟩
  obtain ⟨b, o, e1, _, hx⟩ := hr h0
  exact ⟨b, o, e1, trivial, hx.any⟩

set_option maxRecDepth 100000 in
set_option maxHeartbeats 800000 in
theorem check_v (Z : Zone) (l : SL) (hsz : l.size ≤ 4294967294) (w : World) (up : Nat) (v : Value) (hF : Forms w) (hS : SlS Z w up v l) :
    Calls Tryz.prog 30 #[v] w fun e w' => e = .returned (.int .i64 (checkS l)) ∧ Keeps (fun _ => False) w w' := by
  have HW := hide (wellMade_v Z (l.size + 1) l (by omega) hsz w up v hF hS)
  have HC := fun (w' : World) (hk : Keeps (fun _ => False) w w') => hide (count_v Z (l.size + 1) l (by omega) hsz w' up v (hS.keepF hk))
  have HD := fun (w' : World) (hk : Keeps (fun _ => False) w w') => hide (depth_v Z (l.size + 1) l (by omega) hsz w' up v (hS.keepF hk))
  obtain ⟨ao, cap, rfl, hc⟩ := hS.head
  unfold checkS
  clear hF hS
  generalize wellS l = bw at HW ⊢
  generalize countS l = nc at HC ⊢
  generalize depthS l = nd at HD ⊢
  cases bw with
  | false =>
    rw [if_pos rfl]
    go_enter Tryz.func30, Tryz.ntmps30
    go_wp2_with (go_at_call 50; refine (unhide HW).mono ?_; rintro e w1 ⟨rfl, hk1⟩)
    go_ret
    exact ⟨rfl, hk1⟩
  | true =>
    rw [if_neg (by simp)]
    by_cases h32 : 32 < nc
    · rw [if_pos h32]
      have g32 : (32 : Int) < (nc : Int) := by omega
      go_enter Tryz.func30, Tryz.ntmps30
      go_wp2_with (first
        | (go_at_call 50; refine (unhide HW).mono ?_; rintro e w1 ⟨rfl, hk1⟩; have HK1 := hide hk1; clear hk1)
        | (go_at_call 51; refine (unhide (HC _ (unhide HK1))).mono ?_; rintro e w2 ⟨rfl, hk2⟩; have HK2 := hide ((unhide HK1).trans hk2); clear hk2))
      go_ret
      exact ⟨rfl, unhide HK2⟩
    · rw [if_neg h32]
      have g32 : ¬ (32 : Int) < (nc : Int) := by omega
      by_cases h12 : 12 < nd
      · rw [if_pos h12]
        have g12 : (12 : Int) < (nd : Int) := by omega
        go_enter Tryz.func30, Tryz.ntmps30
        go_wp2_with (first
          | (go_at_call 50; refine (unhide HW).mono ?_; rintro e w1 ⟨rfl, hk1⟩; have HK1 := hide hk1; clear hk1)
          | (go_at_call 51; refine (unhide (HC _ (unhide HK1))).mono ?_; rintro e w2 ⟨rfl, hk2⟩; have HK2 := hide ((unhide HK1).trans hk2); clear hk2)
          | (go_at_call 52; refine (unhide (HD _ (unhide HK2))).mono ?_; rintro e w3 ⟨rfl, hk3⟩; have HK3 := hide ((unhide HK2).trans hk3); clear hk3))
        go_ret
        exact ⟨rfl, unhide HK3⟩
      · rw [if_neg h12]
        have g12 : ¬ (12 : Int) < (nd : Int) := by omega
        go_enter Tryz.func30, Tryz.ntmps30
        go_wp2_with (first
          | (go_at_call 50; refine (unhide HW).mono ?_; rintro e w1 ⟨rfl, hk1⟩; have HK1 := hide hk1; clear hk1)
          | (go_at_call 51; refine (unhide (HC _ (unhide HK1))).mono ?_; rintro e w2 ⟨rfl, hk2⟩; have HK2 := hide ((unhide HK1).trans hk2); clear hk2)
          | (go_at_call 52; refine (unhide (HD _ (unhide HK2))).mono ?_; rintro e w3 ⟨rfl, hk3⟩; have HK3 := hide ((unhide HK2).trans hk3); clear hk3))
        go_ret
        exact ⟨rfl, unhide HK3⟩

/-- A list of one expression. -/
theorem one_at {Z : Zone} {w : World} {g : Nat} {op n : Int} {s : Txt} {v : Value} {t : TypeId} {fr : Nat × Nat} {kids : EL} {up c : Nat} (hb : w.heap[g]? = some (.cells #[.int .i64 op, .int .i64 n, str s, v] t fr)) (hS : SlE Z w up v kids) (hc : 1 ≤ c) (up' : Nat) :
    SlE anyZ w up' (.slice (some ⟨g, 0, none⟩) 1 c) (.cons op n s kids .nil) := by
  obtain ⟨ao, cap, rfl, hl, hr⟩ := hS.any g
  refine ⟨_, c, rfl, hc, fun _ => ⟨g, 0, rfl, trivial, lt_of_block hb, trivial, ?_, ?_, ?_, ⟨ao, cap, ?_, hl, hr⟩, trivial⟩⟩
  all_goals (rw [cell_of_blk hb]; rfl)

end Go.Proofs.YtoempeobaknkcaaGreatDoor
namespace Go.Proofs.YtoempeobaknkcaaGreatDoor
open Go.RowKit Go.Maps

def letB (c : Int) : Bool := decide (97 ≤ c) && decide (c ≤ 122) || decide (65 ≤ c) && decide (c ≤ 90) || decide (c = 95)
/-- May this byte stand at this place of a name? -/
def okc (k : Nat) (n : Int) : Bool := letB n || (decide (k ≠ 0) && digitB n)
def okB : Nat → Txt → Bool
  | _, [] => true
  | k, c :: r => okc k (num c) && okB (k + 1) r
theorem okB_all : ∀ (r : Txt) (k : Nat), okB (k + 1) r = r.all (fun c => partB (num c))
  | [], _ => rfl
  | c :: r, k => by
    rw [okB, okB_all r (k + 1), List.all_cons]
    congr 1
    apply Bool.eq_iff_iff.2
    simp [okc, letB, digitB, partB]
    omega
theorem nameB_ok (x : Txt) (h1 : 1 ≤ x.length) (h8 : x.length ≤ 8) (hk : x ∉ kws) : nameB x = okB 0 x := by
  cases x with
  | nil => simp at h1
  | cons c r =>
    rw [nameB_form (c :: r) c rfl h8, okB, okB_all, List.all_cons, decide_eq_false hk, Bool.not_false, Bool.and_true, ← Bool.and_assoc]
    congr 1
    apply Bool.eq_iff_iff.2
    simp [okc, letB, digitB, partB]
    omega
theorem nameB_no (x : Txt) (h : x.length < 1 ∨ 8 < x.length ∨ x ∈ kws) : nameB x = false := by
  unfold nameB
  rcases h with h | h | h
  · cases x with
    | nil => rfl
    | cons c r => simp at h
  · have : decide (x.length ≤ 8) = false := by simp; omega
    rw [this]
    simp
  · rw [decide_eq_true h]
    simp

set_option maxRecDepth 100000 in
set_option maxHeartbeats 1600000 in
theorem isName_v (x : Txt) (w : World) : Calls Tryz.prog 102 #[str x] w fun e w' => e = .returned (.bool (nameB x)) ∧ w' = w := by
  by_cases h1 : x.length < 1
  · rw [nameB_no x (Or.inl h1)]
    have g1 : (x.length : Int) < 1 := by omega
    go_enter Tryz.func102, Tryz.ntmps102
    go_wp2_with fail
    go_ret
    exact ⟨rfl, rfl⟩
  by_cases h8 : 8 < x.length
  · rw [nameB_no x (Or.inr (Or.inl h8))]
    have g1 : ¬ (x.length : Int) < 1 := by omega
    have g8 : (8 : Int) < (x.length : Int) := by omega
    go_enter Tryz.func102, Tryz.ntmps102
    go_wp2_with fail
    go_ret
    exact ⟨rfl, rfl⟩
  have HQ := hide (refKeyword_v x (by omega))
  have g1 : ¬ (x.length : Int) < 1 := by omega
  have g8 : ¬ (8 : Int) < (x.length : Int) := by omega
  by_cases hk : x ∈ kws
  · rw [nameB_no x (Or.inr (Or.inr hk))]
    rw [decide_eq_true hk] at HQ
    go_enter Tryz.func102, Tryz.ntmps102
    go_wp2_with (go_at_call 105; refine (unhide HQ _).mono ?_; rintro e w' ⟨rfl, rfl⟩)
    go_ret
    exact ⟨rfl, rfl⟩
  rw [nameB_ok x (by omega) (by omega) hk]
  rw [decide_eq_false hk] at HQ
  go_enter Tryz.func102, Tryz.ntmps102
  go_wp2_with (go_at_call 105; refine (unhide HQ _).mono ?_; rintro e w' ⟨rfl, rfl⟩)
  go_loopw [3] (fun i wr => ∃ k : Nat, k ≤ x.length ∧ i = .int .i64 k ∧ okB k (x.drop k) = okB 0 x ∧ wr = w') (fun i _ => x.length - (intOf i).toNat)
  case atStart => exact ⟨0, Nat.zero_le _, rfl, rfl, rfl⟩
  case round =>
    obtain ⟨k, hkl, rfl, hok, rfl⟩ := hrel
    have HOK := hide hok
    clear hok
    cases hc : x[k]? with
    | none =>
      have := get_ge hc
      have i1 : ¬ (k : Int) < (x.length : Int) := by omega
      have HZ : Hid (okB 0 x = true) := by
        have h := unhide HOK
        rw [List.drop_eq_nil_of_le this] at h
        exact h.symm
      go_wp2_with fail
      go_ret
      exact ⟨ret_bool (unhide HZ).symm, rfl⟩
    | some c =>
      have hlt := get_lt hc
      have hs := str_at hc
      have i1 : (k : Int) < (x.length : Int) := by omega
      have i0 : (0 : Int) ≤ (k : Int) := by omega
      have HO : Hid ((okc k (num c) && okB (k + 1) (x.drop (k + 1))) = okB 0 x) := by
        have h := unhide HOK
        rw [drop_at hc, okB] at h
        exact h
      obtain ⟨n, hn⟩ : ∃ n, n = num c := ⟨_, rfl⟩
      clear HOK
      go_wp2_with fail
      all_goals first
        | (go_ret; refine ⟨ret_bool ?_, rfl⟩; rw [← unhide HO]; (suffices h : okc k (num c) = false by rw [h]; rfl); clear HO HQ hs hc; apply Bool.eq_false_iff.2; have hn2 : n = (c.toNat : Int) := hn; rw [← hn]; simp only [okc, letB, digitB, Bool.or_eq_true, Bool.and_eq_true, decide_eq_true_eq, ne_eq]; omega)
        | (go_ret; refine ⟨ret_bool ?_, rfl⟩; rw [← unhide HO]; (suffices h : okc k (num c) = false by rw [h]; rfl); clear HO HQ hs hc; apply Bool.eq_false_iff.2; have h57 : ¬ (c.toNat : Int) ≤ 57 := (by rcases (by assumption : (!((c.toNat : Int) == 95)) = true ∧ (((k : Int) == 0) = true ∨ (!decide ((c.toNat : Int) ≤ 57)) = true)) with ⟨_, h | h⟩ <;> simp at h <;> omega); have hn2 : n = (c.toNat : Int) := hn; rw [← hn]; simp only [okc, letB, digitB, Bool.or_eq_true, Bool.and_eq_true, decide_eq_true_eq, ne_eq]; omega)
        | (go_roundw
           case rel =>
             refine ⟨k + 1, by omega, by go_num, ?_, trivial⟩
             rw [← unhide HO]
             (suffices h : okc k (num c) = true by rw [h]; rfl)
             clear HO HQ hs hc
             first
               | (have hn2 : n = (c.toNat : Int) := hn; rw [← hn]; simp only [okc, letB, digitB, Bool.or_eq_true, Bool.and_eq_true, decide_eq_true_eq, ne_eq]; omega)
               | (exfalso; simp at *; omega)
               | (simp at *; have hn2 : n = (c.toNat : Int) := hn; rw [← hn]; simp only [okc, letB, digitB, Bool.or_eq_true, Bool.and_eq_true, decide_eq_true_eq, ne_eq]; omega)
           case measure => (simp [intOf]; omega))
end Go.Proofs.YtoempeobaknkcaaGreatDoor
namespace Go.Proofs.YtoempeobaknkcaaGreatDoor
open Go.RowKit Go.Maps

set_option maxRecDepth 100000 in
set_option maxHeartbeats 800000 in
theorem kids_v (op : Int) (w : World) : Calls Tryz.prog 106 #[.int .i64 op] w fun e w' => e = .returned (.int .i64 (kidsB op)) ∧ w' = w := by
  go_enter Tryz.func106, Tryz.ntmps106
  go_wp2_with fail
  all_goals (go_ret; refine ⟨ret_int ?_, rfl⟩; unfold kidsB; (repeat' split) <;> first | rfl | (exfalso; simp_all; done) | (exfalso; simp_all; omega) | (exfalso; omega))

set_option maxRecDepth 100000 in
set_option maxHeartbeats 1600000 in
theorem leaf_v (op n : Int) (s : Txt) (kv : Value) (w : World) (hkv : ∃ ao k cap, kv = .slice ao k cap) :
    Calls Tryz.prog 107 #[exV op n s kv] w fun e w' => e = .returned (.bool (leafB op n s)) ∧ Keeps (fun _ => False) w w' := by
  obtain ⟨ao, k, cap, rfl⟩ := hkv
  obtain ⟨HX, hxb, hxc⟩ := boxedT w #[.int .i64 op, .int .i64 n, str s, .slice ao k cap] 57
  have c0 := hxc 0 (.int .i64 op) rfl
  have c1 := hxc 1 (.int .i64 n) rfl
  have c2 := hxc 2 (str s) rfl
  have HN := hide (isName_v s)
  clear hxc
  unfold leafB
  by_cases h1 : op = 1
  · subst h1
    rw [if_pos rfl]
    go_enter Tryz.func107, Tryz.ntmps107
    go_wp2_with fail
    all_goals (go_ret; refine ⟨ret_bool ?_, (Keeps.refl _ w).alloc _⟩; clear HX c0 c1 c2 HN hxb; cases s <;> simp)
  rw [if_neg h1]
  by_cases h2 : op = 2
  · subst h2
    rw [if_pos rfl]
    go_enter Tryz.func107, Tryz.ntmps107
    go_wp2_with fail
    all_goals (go_ret; refine ⟨ret_bool ?_, (Keeps.refl _ w).alloc _⟩; clear HX c0 c1 c2 HN hxb; first | (cases s <;> simp_all; done) | (cases s <;> simp_all <;> (apply Bool.eq_iff_iff.2; simp; omega)))
  rw [if_neg h2]
  by_cases h3 : op = 3
  · subst h3
    rw [if_pos rfl]
    go_enter Tryz.func107, Tryz.ntmps107
    go_wp2_with fail
    all_goals (go_ret; refine ⟨ret_bool ?_, (Keeps.refl _ w).alloc _⟩; clear HX c0 c1 c2 HN hxb; first | (simp_all; done) | (simp_all; omega))
  rw [if_neg h3]
  by_cases h4 : op = 4
  · subst h4
    rw [if_pos (by omega)]
    go_enter Tryz.func107, Tryz.ntmps107
    go_wp2_with (go_at_call 102; refine (unhide HN _).mono ?_; rintro e w1 ⟨rfl, rfl⟩)
    all_goals (go_ret; refine ⟨ret_bool ?_, (Keeps.refl _ w).alloc _⟩; clear HX c0 c1 c2 HN hxb; simp_all)
  by_cases h5 : op = 5
  · subst h5
    rw [if_pos (by omega)]
    go_enter Tryz.func107, Tryz.ntmps107
    go_wp2_with (go_at_call 102; refine (unhide HN _).mono ?_; rintro e w1 ⟨rfl, rfl⟩)
    all_goals (go_ret; refine ⟨ret_bool ?_, (Keeps.refl _ w).alloc _⟩; clear HX c0 c1 c2 HN hxb; simp_all)
  rw [if_neg (by omega)]
  have d1 : (op == 1) = false := by simpa using h1
  have d2 : (op == 2) = false := by simpa using h2
  have d3 : (op == 3) = false := by simpa using h3
  have d4 : (op == 4) = false := by simpa using h4
  have d5 : (op == 5) = false := by simpa using h5
  clear h1 h2 h3 h4 h5
  go_enter Tryz.func107, Tryz.ntmps107
  go_wp2_with (go_at_call 102; refine (unhide HN _).mono ?_; rintro e w1 ⟨rfl, rfl⟩)
  all_goals (go_ret; refine ⟨ret_bool ?_, (Keeps.refl _ w).alloc _⟩; clear HX c0 c1 c2 HN hxb; cases s <;> simp_all)
end Go.Proofs.YtoempeobaknkcaaGreatDoor
namespace Go.Proofs.YtoempeobaknkcaaGreatDoor
open Go.RowKit Go.Maps

set_option maxRecDepth 100000 in
set_option maxHeartbeats 1600000 in
theorem wellExpr_v (Z : Zone) (N : Nat) : ∀ (kids : EL), kids.size < N → kids.size ≤ 4294967294 → ∀ (op n : Int) (s : Txt) (w : World) (up : Nat) (v : Value), SlE Z w up v kids →
    Calls Tryz.prog 103 #[exV op n s v] w fun e w' => e = .returned (.bool (rootB op n s kids.len && wellE kids)) ∧ Keeps (fun _ => False) w w' := by
  induction N with
  | zero => intro l h; omega
  | succ N ih =>
    intro l hsz hlen' op n s w up v hS
    have hlen : l.len ≤ 4294967294 := by have := EL.len_le l; omega
    obtain ⟨ao, cap, b, off, rfl, hcap, ha, hx⟩ := hS.open
    obtain ⟨HB, hxb, hxc⟩ := boxedT w #[.int .i64 op, .int .i64 n, str s, .slice ao l.len cap] 57
    have c0 := hxc 0 (.int .i64 op) rfl
    have c1 := hxc 1 (.int .i64 n) rfl
    have c2 := hxc 2 (str s) rfl
    have c3 := hxc 3 (.slice ao l.len cap) rfl
    have IH := hide ih
    have HX := hide hx
    have HA := hide ha
    have HLF := hide (leaf_v op n s (.slice ao l.len cap) (w.alloc (.cells #[.int .i64 op, .int .i64 n, str s, .slice ao l.len cap] 57)) ⟨_, _, _, rfl⟩)
    have HKI := hide (kids_v op (w.alloc (.cells #[.int .i64 op, .int .i64 n, str s, .slice ao l.len cap] 57)))
    clear hS ih hx ha hxc
    unfold rootB
    by_cases hk0 : 0 ≤ kidsB op
    · rw [decide_eq_true hk0, Bool.true_and]
      by_cases hkk : (l.len : Int) = kidsB op
      · rw [decide_eq_true hkk, Bool.true_and]
        generalize kidsB op = K at *
        subst hkk
        cases hlf : leafB op n s with
        | false =>
          rw [hlf] at HLF
          rw [Bool.false_and]
          go_enter Tryz.func103, Tryz.ntmps103
          go_wp2_with (first
            | (go_at_call 106; refine (unhide HKI).mono ?_; rintro e w1 ⟨rfl, rfl⟩)
            | (go_at_call 107; refine (unhide HLF).mono ?_; rintro e w2 ⟨rfl, hk2⟩))
          go_ret
          exact ⟨rfl, (unhide HB).trans hk2⟩
        | true =>
          rw [hlf] at HLF
          rw [Bool.true_and]
          go_enter Tryz.func103, Tryz.ntmps103
          go_wp2_with (first
            | (go_at_call 106; refine (unhide HKI).mono ?_; rintro e w1 ⟨rfl, rfl⟩)
            | (go_at_call 107; refine (unhide HLF).mono ?_; rintro e w2 ⟨rfl, hk2⟩; have HK2 := hide hk2; clear hk2))
          go_loopw [4] (fun i wr => ∃ (rest : EL) (k : Nat), i = .int .i64 k ∧ k + rest.len = l.len ∧ rest.size ≤ l.size ∧ wellE rest = wellE l ∧ Keeps (fun _ => False) (w.alloc (.cells #[.int .i64 op, .int .i64 n, str s, .slice ao l.len cap] 57)) wr ∧ ExIn Z wr rest b (off + k * 4)) (fun i _ => l.len - (intOf i).toNat)
          case atStart => exact ⟨l, 0, rfl, by omega, Nat.le_refl _, rfl, unhide HK2, by simpa using (unhide HX).keepF ((unhide HB).trans (unhide HK2))⟩
          case round =>
            obtain ⟨rest, k, rfl, hkl, hrs, hwe, hkeep, hr⟩ := hrel
            have q3 := (hkeep.cell (o := 3) hxb id).trans c3
            have HK := hide hkeep
            clear HK2 hkeep
            cases rest with
            | nil =>
              simp only [EL.len, EL.size, wellE] at hkl hrs hwe
              have HWE := hide hwe
              clear hr hwe
              have i1 : ¬ (k : Int) < (l.len : Int) := by omega
              go_wp2_with fail
              go_ret
              exact ⟨ret_bool (by first | exact unhide HWE | exact (unhide HWE).symm), (unhide HB).trans (unhide HK)⟩
            | cons op' n' s' kids rest =>
              obtain ⟨h1, h2, h3, h4, h5, ⟨kao, kcap, h6, h7, h8⟩, h9⟩ := hr
              simp only [EL.len, EL.size, wellE] at hkl hrs hwe
              obtain ⟨rfl, hp⟩ := (unhide HA) (by omega)
              have HKID : Hid (SlE Z wr b (.slice kao kids.len kcap) kids) := ⟨kao, kcap, rfl, h7, h8⟩
              have HR := hide h9
              have HWE := hide hwe
              have i1 : (k : Int) < (l.len : Int) := by omega
              have i0 : (0 : Int) ≤ (k : Int) := by omega
              have HKD := hide (unhide IH kids (by omega) (by omega) op' n' s' wr b (.slice kao kids.len kcap) (unhide HKID))
              clear h2 h8 h9 hwe
              rw [← Bool.and_assoc] at HWE
              cases hv : (rootB op' n' s' kids.len && wellE kids) with
              | false =>
                rw [hv] at HKD HWE
                go_wp2_with (go_at_call 103; refine (unhide HKD).mono ?_; rintro e w1 ⟨rfl, hk1⟩)
                go_ret
                exact ⟨ret_bool (by have := unhide HWE; simpa using this), ((unhide HB).trans (unhide HK)).trans hk1⟩
              | true =>
                rw [hv] at HKD HWE
                go_wp2_with (go_at_call 103; refine (unhide HKD).mono ?_; rintro e w1 ⟨rfl, hk1⟩; have HK1 := hide hk1; clear hk1)
                go_roundw
                case rel =>
                  refine ⟨rest, k + 1, by go_num, by omega, by omega, by have := unhide HWE; simpa using this, (unhide HK).trans (unhide HK1), ?_⟩
                  rw [show off + (k + 1) * 4 = off + k * 4 + 4 by omega]
                  exact (unhide HR).keepF (unhide HK1)
                case measure => simp [intOf]; omega
      · rw [decide_eq_false hkk, Bool.false_and, Bool.false_and]
        generalize kidsB op = K at *
        have d1 : ((l.len : Int) != K) = true := by simpa using hkk
        have d0 : ¬ K < 0 := by omega
        clear hkk
        go_enter Tryz.func103, Tryz.ntmps103
        go_wp2_with (go_at_call 106; refine (unhide HKI).mono ?_; rintro e w1 ⟨rfl, rfl⟩)
        all_goals (go_ret; exact ⟨rfl, unhide HB⟩)
    · rw [decide_eq_false hk0, Bool.false_and, Bool.false_and]
      generalize kidsB op = K at *
      have d0 : K < 0 := by omega
      go_enter Tryz.func103, Tryz.ntmps103
      go_wp2_with (go_at_call 106; refine (unhide HKI).mono ?_; rintro e w1 ⟨rfl, rfl⟩)
      all_goals (go_ret; exact ⟨rfl, unhide HB⟩)
end Go.Proofs.YtoempeobaknkcaaGreatDoor
