import Derived.Test.YtiinohibmcefkaaGreatDoorJai
namespace Go.Proofs.YtiinohibmcefkaaGreatDoor
open Go.RowKit Go.Maps
set_option maxRecDepth 100000
set_option maxHeartbeats 800000
theorem wrap64_id {n : Int} (h : -9223372036854775808 ≤ n ∧ n ≤ 9223372036854775807) : wrap64 n = n := by unfold wrap64; omega
theorem count_v (Z : Zone) (N : Nat) : ∀ (l : SL), l.size < N → l.size ≤ 4294967294 → ∀ (w : World) (up : Nat) (v : Value), SlS Z w up v l →
  Calls Tryz.prog 145 #[v] w fun e w' => e = .returned (.int .i64 (countS l)) ∧ Keeps (fun _ => False) w w' := by
 induction N with
 | zero => intro l h; omega
 | succ N ih =>
  intro l hsz hlen' w up v hS
  have hlen : l.len ≤ 4294967294 := by have := SL.len_le l; omega
  obtain ⟨ao, cap, b, off, rfl, hcap, ha, hx⟩ := hS.open
  have IH := hide ih
  have HX := hide hx
  have HA := hide ha
  have hcl := countS_le l
  clear hS ih hx ha
  go_enter Tryz.func145, Tryz.ntmps145
  go_wp2_with fail
  go_loopw [3, 10] (fun d i wr => ∃ (rest : SL) (k m : Nat), d = .int .i64 m ∧ i = .int .i64 k ∧ k + rest.len = l.len ∧ rest.size ≤ l.size ∧ m + countS rest = countS l + rest.len ∧ Keeps (fun _ => False) w wr ∧ StIn Z wr rest b (off + k * 5)) (fun _ i _ => l.len - (intOf i).toNat)
  case atStart => exact ⟨l, 0, l.len, rfl, rfl, by omega, Nat.le_refl _, by omega, Keeps.refl _ _, by simpa using uh HX⟩
  case round =>
   obtain ⟨rest, k, m, rfl, rfl, hkl, hrs, hwe, hkeep, hr⟩ := hrel
   cases rest with
   | nil =>
    simp only [SL.len, SL.size, countS] at hkl hrs hwe
    have HK := hide hkeep
    have HWE := hide hwe
    clear hkeep hr hwe
    have i1 : ¬ (k : Int) < (l.len : Int) := by omega
    go_wp2_with fail
    go_ret
    exact ⟨ret_int (by have := uh HWE; omega), uh HK⟩
   | cons op f ex th el rest =>
    obtain ⟨h1, h2, h3, h4, ⟨xv, h5, hxs⟩, ⟨tao, tcap, h6, h7, h8⟩, ⟨eao, ecap, g6, g7, g8⟩, h9⟩ := hr
    simp only [SL.len, SL.size, countS] at hkl hrs hwe
    obtain ⟨rfl, hp⟩ := (uh HA) (by omega)
    have HTH : Hid (SlS Z wr b (.slice tao th.len tcap) th) := ⟨tao, tcap, rfl, h7, h8⟩
    have HEL : Hid (SlS Z wr b (.slice eao el.len ecap) el) := ⟨eao, ecap, rfl, g7, g8⟩
    obtain ⟨xao, xcap, rfl, hxl⟩ := hxs.head
    have HR := hide h9
    have HK := hide hkeep
    have HWE := hide hwe
    have i1 : (k : Int) < (l.len : Int) := by omega
    have i0 : (0 : Int) ≤ (k : Int) := by omega
    obtain ⟨HB, hxb, hxc⟩ := boxedT wr #[.int .i64 op, str f, .slice xao ex.len xcap, .slice tao th.len tcap, .slice eao el.len ecap] 39
    have f3 : ∀ m : KW (wr.alloc (.cells #[.int .i64 op, str f, .slice xao ex.len xcap, .slice tao th.len tcap, .slice eao el.len ecap] 39)), m.wd.cell? ⟨wr.heap.size, 3, none⟩ = some (.slice tao th.len tcap) := fun m => (m.kept.cell (o := 3) hxb id).trans (hxc 3 (.slice tao th.len tcap) rfl)
    have f4 : ∀ m : KW (wr.alloc (.cells #[.int .i64 op, str f, .slice xao ex.len xcap, .slice tao th.len tcap, .slice eao el.len ecap] 39)), m.wd.cell? ⟨wr.heap.size, 4, none⟩ = some (.slice eao el.len ecap) := fun m => (m.kept.cell (o := 4) hxb id).trans (hxc 4 (.slice eao el.len ecap) rfl)
    have HKT := fun (w' : World) (hk : Keeps (fun _ => False) wr w') => hide (uh IH th (by omega) (by omega) w' b (.slice tao th.len tcap) ((uh HTH).keepF hk))
    have HKE := fun (w' : World) (hk : Keeps (fun _ => False) wr w') => hide (uh IH el (by omega) (by omega) w' b (.slice eao el.len ecap) ((uh HEL).keepF hk))
    have HQT := hide (fun (m : KW (wr.alloc (.cells #[.int .i64 op, str f, .slice xao ex.len xcap, .slice tao th.len tcap, .slice eao el.len ecap] 39))) => kw_of m (uh (HKT m.wd ((uh HB).trans m.kept))))
    have HQE := hide (fun (m : KW (wr.alloc (.cells #[.int .i64 op, str f, .slice xao ex.len xcap, .slice tao th.len tcap, .slice eao el.len ecap] 39))) => kw_of m (uh (HKE m.wd ((uh HB).trans m.kept))))
    have hdk := countS_le th
    have hde := countS_le el
    clear hkeep h2 h8 h9 hwe hxc hxs g8
    clear HKT HKE
    go_wp2_with fail
    refine region_kept (by kernel_rfl) (by kernel_rfl) ?_
    repeat (go_big_quiet_step ((first | (go_at_call_of 145 (Value.slice tao th.len tcap); exact uh HQT _) | (go_at_call_of 145 (Value.slice eao el.len ecap); exact uh HQE _))))
    refine wpQuiet_nil ?_
    rintro _ ⟨nq, rfl⟩
    go_wp2_with fail
    have hwe := uh HWE
    have hlr := SL.len_le rest
    go_roundw
    case rel =>
     refine ⟨rest, k + 1, m + (countS th + countS el), by rw [wrap64_id (by omega)]; rfl, by go_num, by omega, by omega, by omega, (uh HK).trans ((uh HB).trans nq.kept), ?_⟩
     rw [show off + (k + 1) * 5 = off + k * 5 + 5 by omega]
     exact (uh HR).keepF ((uh HB).trans nq.kept)
    case measure => simp [intOf]; omega
end Go.Proofs.YtiinohibmcefkaaGreatDoor
namespace Go.Proofs.YtiinohibmcefkaaGreatDoor
open Go.RowKit Go.Maps
set_option maxRecDepth 100000
set_option maxHeartbeats 800000
theorem depth_v (Z : Zone) (N : Nat) : ∀ (l : SL), l.size < N → l.size ≤ 4294967294 → ∀ (w : World) (up : Nat) (v : Value), SlS Z w up v l →
  Calls Tryz.prog 146 #[v] w fun e w' => e = .returned (.int .i64 (depthS l)) ∧ Keeps (fun _ => False) w w' := by
 induction N with
 | zero => intro l h; omega
 | succ N ih =>
  intro l hsz hlen' w up v hS
  have hlen : l.len ≤ 4294967294 := by have := SL.len_le l; omega
  obtain ⟨ao, cap, b, off, rfl, hcap, ha, hx⟩ := hS.open
  have IH := hide ih
  have HX := hide hx
  have HA := hide ha
  have hcl := depthS_le l
  clear hS ih hx ha
  go_enter Tryz.func146, Tryz.ntmps146
  go_wp2_with fail
  go_loopw [3, 8] (fun d i wr => ∃ (rest : SL) (k m : Nat), d = .int .i64 m ∧ i = .int .i64 k ∧ k + rest.len = l.len ∧ rest.size ≤ l.size ∧ max m (depthS rest) = depthS l ∧ Keeps (fun _ => False) w wr ∧ StIn Z wr rest b (off + k * 5)) (fun _ i _ => l.len - (intOf i).toNat)
  case atStart => exact ⟨l, 0, 0, rfl, rfl, by omega, Nat.le_refl _, by omega, Keeps.refl _ _, by simpa using uh HX⟩
  case round =>
   obtain ⟨rest, k, m, rfl, rfl, hkl, hrs, hwe, hkeep, hr⟩ := hrel
   cases rest with
   | nil =>
    simp only [SL.len, SL.size, depthS] at hkl hrs hwe
    have HK := hide hkeep
    have HWE := hide hwe
    clear hkeep hr hwe
    have i1 : ¬ (k : Int) < (l.len : Int) := by omega
    go_wp2_with fail
    go_ret
    exact ⟨ret_int (by have := uh HWE; omega), uh HK⟩
   | cons op f ex th el rest =>
    obtain ⟨h1, h2, h3, h4, ⟨xv, h5, hxs⟩, ⟨tao, tcap, h6, h7, h8⟩, ⟨eao, ecap, g6, g7, g8⟩, h9⟩ := hr
    simp only [SL.len, SL.size, depthS] at hkl hrs hwe
    obtain ⟨rfl, hp⟩ := (uh HA) (by omega)
    have HTH : Hid (SlS Z wr b (.slice tao th.len tcap) th) := ⟨tao, tcap, rfl, h7, h8⟩
    have HEL : Hid (SlS Z wr b (.slice eao el.len ecap) el) := ⟨eao, ecap, rfl, g7, g8⟩
    have HEX := hide hxs
    obtain ⟨xao, xcap, rfl, hxl⟩ := hxs.head
    have HR := hide h9
    have HK := hide hkeep
    have HWE := hide hwe
    have i1 : (k : Int) < (l.len : Int) := by omega
    have i0 : (0 : Int) ≤ (k : Int) := by omega
    obtain ⟨HB, hxb, hxc⟩ := boxedT wr #[.int .i64 op, str f, .slice xao ex.len xcap, .slice tao th.len tcap, .slice eao el.len ecap] 39
    have f2 : ∀ m : KW (wr.alloc (.cells #[.int .i64 op, str f, .slice xao ex.len xcap, .slice tao th.len tcap, .slice eao el.len ecap] 39)), m.wd.cell? ⟨wr.heap.size, 2, none⟩ = some (.slice xao ex.len xcap) := fun m => (m.kept.cell (o := 2) hxb id).trans (hxc 2 (.slice xao ex.len xcap) rfl)
    have f3 : ∀ m : KW (wr.alloc (.cells #[.int .i64 op, str f, .slice xao ex.len xcap, .slice tao th.len tcap, .slice eao el.len ecap] 39)), m.wd.cell? ⟨wr.heap.size, 3, none⟩ = some (.slice tao th.len tcap) := fun m => (m.kept.cell (o := 3) hxb id).trans (hxc 3 (.slice tao th.len tcap) rfl)
    have f4 : ∀ m : KW (wr.alloc (.cells #[.int .i64 op, str f, .slice xao ex.len xcap, .slice tao th.len tcap, .slice eao el.len ecap] 39)), m.wd.cell? ⟨wr.heap.size, 4, none⟩ = some (.slice eao el.len ecap) := fun m => (m.kept.cell (o := 4) hxb id).trans (hxc 4 (.slice eao el.len ecap) rfl)
    have HKT := fun (w' : World) (hk : Keeps (fun _ => False) wr w') => hide (uh IH th (by omega) (by omega) w' b (.slice tao th.len tcap) ((uh HTH).keepF hk))
    have HKE := fun (w' : World) (hk : Keeps (fun _ => False) wr w') => hide (uh IH el (by omega) (by omega) w' b (.slice eao el.len ecap) ((uh HEL).keepF hk))
    have HQX := hide (fun (m : KW (wr.alloc (.cells #[.int .i64 op, str f, .slice xao ex.len xcap, .slice tao th.len tcap, .slice eao el.len ecap] 39))) => kw_of m (exprsDepth_v Z (ex.size + 1) ex (by omega) (by omega) m.wd b (.slice xao ex.len xcap) ((uh HEX).keepF ((uh HB).trans m.kept))))
    have HQT := hide (fun (m : KW (wr.alloc (.cells #[.int .i64 op, str f, .slice xao ex.len xcap, .slice tao th.len tcap, .slice eao el.len ecap] 39))) => kw_of m (uh (HKT m.wd ((uh HB).trans m.kept))))
    have HQE := hide (fun (m : KW (wr.alloc (.cells #[.int .i64 op, str f, .slice xao ex.len xcap, .slice tao th.len tcap, .slice eao el.len ecap] 39))) => kw_of m (uh (HKE m.wd ((uh HB).trans m.kept))))
    have hdk := depthS_le th
    have hdx := depthE_le ex
    have hde := depthS_le el
    clear hkeep h2 h8 h9 hwe hxc hxs g8
    clear HKT HKE
    go_wp2_with fail
    refine region_kept (by kernel_rfl) (by kernel_rfl) ?_
    repeat (go_big_quiet_step ((first | (go_at_call 112; exact uh HQX _) | (go_at_call_of 146 (Value.slice tao th.len tcap); exact uh HQT _) | (go_at_call_of 146 (Value.slice eao el.len ecap); exact uh HQE _))))
    refine wpQuiet_nil ?_
    rintro _ ⟨nq, rfl⟩
    go_wp2_with fail
    have hwe := uh HWE
    go_roundw
    case rel =>
     refine ⟨rest, k + 1, max m (1 + max (depthE ex) (max (depthS th) (depthS el))), congrArg (Value.int .i64) (by (repeat' split) <;> omega), by go_num, by omega, by omega, by omega, (uh HK).trans ((uh HB).trans nq.kept), ?_⟩
     rw [show off + (k + 1) * 5 = off + k * 5 + 5 by omega]
     exact (uh HR).keepF ((uh HB).trans nq.kept)
    case measure => simp [intOf]; omega
end Go.Proofs.YtiinohibmcefkaaGreatDoor
namespace Go.Proofs.YtiinohibmcefkaaGreatDoor
open Go.RowKit Go.Maps
set_option maxRecDepth 100000
set_option maxHeartbeats 1600000
theorem headFits_v (op : Int) (f : Txt) (xo to eo : Option Addr) (x t e xc tc ec : Nat) (w : World) :
  Calls Tryz.prog 196 #[stV op f (.slice xo x xc) (.slice to t tc) (.slice eo e ec)] w fun en w' => en = .returned (.bool (headS op f x t e)) ∧ Keeps (fun _ => False) w w' := by
 obtain ⟨HX, hxb, hxc⟩ := boxedT w #[.int .i64 op, str f, .slice xo x xc, .slice to t tc, .slice eo e ec] 39
 have c0 := hxc 0 (.int .i64 op) rfl
 have c1 := hxc 1 (str f) rfl
 have c2 := hxc 2 (.slice xo x xc) rfl
 have c3 := hxc 3 (.slice to t tc) rfl
 have c4 := hxc 4 (.slice eo e ec) rfl
 have HN := hide (name_v f)
 clear hxc
 unfold headS
 by_cases h1 : op = 1
 ·subst h1
  rw [if_pos (by omega)]
  go_enter Tryz.func196, Tryz.ntmps196
  go_wp2_with (go_at_call 101; refine (uh HN _).mono ?_; rintro e w1 ⟨rfl, rfl⟩)
  all_goals (go_ret; refine ⟨ret_bool ?_, (Keeps.refl _ w).alloc _⟩; clear HX c0 c1 c2 c3 c4 HN hxb; first | (cases f <;> simp_all; done) | (simp_all; done) | (simp_all; omega) | (simp_all; rw [Bool.eq_iff_iff]; simp; done) | (simp_all; rw [Bool.eq_iff_iff]; simp; omega) | (cases f <;> simp_all <;> first | omega | (rw [Bool.eq_iff_iff]; simp; done) | (rw [Bool.eq_iff_iff]; simp; omega)))
 by_cases h2 : op = 2
 ·subst h2
  rw [if_pos (by omega)]
  go_enter Tryz.func196, Tryz.ntmps196
  go_wp2_with (go_at_call 101; refine (uh HN _).mono ?_; rintro e w1 ⟨rfl, rfl⟩)
  all_goals (go_ret; refine ⟨ret_bool ?_, (Keeps.refl _ w).alloc _⟩; clear HX c0 c1 c2 c3 c4 HN hxb; first | (cases f <;> simp_all; done) | (simp_all; done) | (simp_all; omega) | (simp_all; rw [Bool.eq_iff_iff]; simp; done) | (simp_all; rw [Bool.eq_iff_iff]; simp; omega) | (cases f <;> simp_all <;> first | omega | (rw [Bool.eq_iff_iff]; simp; done) | (rw [Bool.eq_iff_iff]; simp; omega)))
 by_cases h3 : op = 3
 ·subst h3
  rw [if_pos (by omega)]
  go_enter Tryz.func196, Tryz.ntmps196
  go_wp2_with (go_at_call 101; refine (uh HN _).mono ?_; rintro e w1 ⟨rfl, rfl⟩)
  all_goals (go_ret; refine ⟨ret_bool ?_, (Keeps.refl _ w).alloc _⟩; clear HX c0 c1 c2 c3 c4 HN hxb; first | (cases f <;> simp_all; done) | (simp_all; done) | (simp_all; omega) | (simp_all; rw [Bool.eq_iff_iff]; simp; done) | (simp_all; rw [Bool.eq_iff_iff]; simp; omega) | (cases f <;> simp_all <;> first | omega | (rw [Bool.eq_iff_iff]; simp; done) | (rw [Bool.eq_iff_iff]; simp; omega)))
 by_cases h4 : op = 4
 ·subst h4
  rw [if_pos (by omega)]
  go_enter Tryz.func196, Tryz.ntmps196
  go_wp2_with (go_at_call 101; refine (uh HN _).mono ?_; rintro e w1 ⟨rfl, rfl⟩)
  all_goals (go_ret; refine ⟨ret_bool ?_, (Keeps.refl _ w).alloc _⟩; clear HX c0 c1 c2 c3 c4 HN hxb; first | (cases f <;> simp_all; done) | (simp_all; done) | (simp_all; omega) | (simp_all; rw [Bool.eq_iff_iff]; simp; done) | (simp_all; rw [Bool.eq_iff_iff]; simp; omega) | (cases f <;> simp_all <;> first | omega | (rw [Bool.eq_iff_iff]; simp; done) | (rw [Bool.eq_iff_iff]; simp; omega)))
 by_cases h5 : op = 5
 ·subst h5
  rw [if_neg (by omega)]
  rw [if_pos (by omega)]
  go_enter Tryz.func196, Tryz.ntmps196
  go_wp2_with (go_at_call 101; refine (uh HN _).mono ?_; rintro e w1 ⟨rfl, rfl⟩)
  all_goals (go_ret; refine ⟨ret_bool ?_, (Keeps.refl _ w).alloc _⟩; clear HX c0 c1 c2 c3 c4 HN hxb; first | (cases f <;> simp_all; done) | (simp_all; done) | (simp_all; omega) | (simp_all; rw [Bool.eq_iff_iff]; simp; done) | (simp_all; rw [Bool.eq_iff_iff]; simp; omega) | (cases f <;> simp_all <;> first | omega | (rw [Bool.eq_iff_iff]; simp; done) | (rw [Bool.eq_iff_iff]; simp; omega)))
 by_cases h6 : op = 6
 ·subst h6
  rw [if_neg (by omega)]
  rw [if_neg (by omega)]
  rw [if_pos (by omega)]
  go_enter Tryz.func196, Tryz.ntmps196
  go_wp2_with (go_at_call 101; refine (uh HN _).mono ?_; rintro e w1 ⟨rfl, rfl⟩)
  all_goals (go_ret; refine ⟨ret_bool ?_, (Keeps.refl _ w).alloc _⟩; clear HX c0 c1 c2 c3 c4 HN hxb; first | (cases f <;> simp_all; done) | (simp_all; done) | (simp_all; omega) | (simp_all; rw [Bool.eq_iff_iff]; simp; done) | (simp_all; rw [Bool.eq_iff_iff]; simp; omega) | (cases f <;> simp_all <;> first | omega | (rw [Bool.eq_iff_iff]; simp; done) | (rw [Bool.eq_iff_iff]; simp; omega)))
 by_cases h7 : op = 7
 ·subst h7
  rw [if_neg (by omega)]
  rw [if_neg (by omega)]
  rw [if_pos (by omega)]
  go_enter Tryz.func196, Tryz.ntmps196
  go_wp2_with (go_at_call 101; refine (uh HN _).mono ?_; rintro e w1 ⟨rfl, rfl⟩)
  all_goals (go_ret; refine ⟨ret_bool ?_, (Keeps.refl _ w).alloc _⟩; clear HX c0 c1 c2 c3 c4 HN hxb; first | (cases f <;> simp_all; done) | (simp_all; done) | (simp_all; omega) | (simp_all; rw [Bool.eq_iff_iff]; simp; done) | (simp_all; rw [Bool.eq_iff_iff]; simp; omega) | (cases f <;> simp_all <;> first | omega | (rw [Bool.eq_iff_iff]; simp; done) | (rw [Bool.eq_iff_iff]; simp; omega)))
 by_cases h8 : op = 8
 ·subst h8
  rw [if_neg (by omega)]
  rw [if_neg (by omega)]
  rw [if_neg (by omega)]
  rw [if_pos (by omega)]
  go_enter Tryz.func196, Tryz.ntmps196
  go_wp2_with (go_at_call 101; refine (uh HN _).mono ?_; rintro e w1 ⟨rfl, rfl⟩)
  all_goals (go_ret; refine ⟨ret_bool ?_, (Keeps.refl _ w).alloc _⟩; clear HX c0 c1 c2 c3 c4 HN hxb; first | (cases f <;> simp_all; done) | (simp_all; done) | (simp_all; omega) | (simp_all; rw [Bool.eq_iff_iff]; simp; done) | (simp_all; rw [Bool.eq_iff_iff]; simp; omega) | (cases f <;> simp_all <;> first | omega | (rw [Bool.eq_iff_iff]; simp; done) | (rw [Bool.eq_iff_iff]; simp; omega)))
 rw [if_neg (by omega), if_neg (by omega), if_neg (by omega), if_neg (by omega)]
 have d1 : (op == 1) = false := by simpa using h1
 have d2 : (op == 2) = false := by simpa using h2
 have d3 : (op == 3) = false := by simpa using h3
 have d4 : (op == 4) = false := by simpa using h4
 have d5 : (op == 5) = false := by simpa using h5
 have d6 : (op == 6) = false := by simpa using h6
 have d7 : (op == 7) = false := by simpa using h7
 have d8 : (op == 8) = false := by simpa using h8
 clear h1 h2 h3 h4 h5 h6 h7 h8
 go_enter Tryz.func196, Tryz.ntmps196
 go_wp2_with (go_at_call 101; refine (uh HN _).mono ?_; rintro e w1 ⟨rfl, rfl⟩)
 all_goals (go_ret; exact ⟨rfl, (Keeps.refl _ w).alloc _⟩)
end Go.Proofs.YtiinohibmcefkaaGreatDoor
namespace Go.Proofs.YtiinohibmcefkaaGreatDoor
open Go.RowKit Go.Maps
set_option maxRecDepth 100000
set_option maxHeartbeats 1600000
theorem wellMade_v (Z : Zone) (N : Nat) : ∀ (l : SL), l.size < N → l.size ≤ 4294967294 → ∀ (w : World) (up : Nat) (v : Value), Forms w → SlS Z w up v l →
  Calls Tryz.prog 144 #[v] w fun e w' => e = .returned (.bool (wellS l)) ∧ Keeps (fun _ => False) w w' := by
 induction N with
 | zero => intro l h; omega
 | succ N ih =>
  intro l hsz hlen' w up v hF hS
  have hlen : l.len ≤ 4294967294 := by have := SL.len_le l; omega
  obtain ⟨ao, cap, b, off, rfl, hcap, ha, hx⟩ := hS.open
  have IH := hide ih
  have HX := hide hx
  have HA := hide ha
  have HF := hide hF
  clear hS ih hx ha hF
  go_enter Tryz.func144, Tryz.ntmps144
  go_wp2_with fail
  go_loopw [7] (fun i wr => ∃ (rest : SL) (k : Nat), i = .int .i64 k ∧ k + rest.len = l.len ∧ rest.size ≤ l.size ∧ wellS rest = wellS l ∧ Keeps (fun _ => False) w wr ∧ StIn Z wr rest b (off + k * 5)) (fun i _ => l.len - (intOf i).toNat)
  case atStart => exact ⟨l, 0, rfl, by omega, Nat.le_refl _, rfl, Keeps.refl _ _, by simpa using uh HX⟩
  case round =>
   obtain ⟨rest, k, rfl, hkl, hrs, hwe, hkeep, hr⟩ := hrel
   cases rest with
   | nil =>
    simp only [SL.len, SL.size, wellS] at hkl hrs hwe
    have HK := hide hkeep
    have HWE := hide hwe
    clear hkeep hr hwe
    have i1 : ¬ (k : Int) < (l.len : Int) := by omega
    go_wp2_with fail
    go_ret
    exact ⟨ret_bool (by first | exact uh HWE | exact (uh HWE).symm), uh HK⟩
   | cons op f ex th el rest =>
    obtain ⟨h1, h2, h3, h4, ⟨xv, h5, hxs⟩, ⟨tao, tcap, h6, h7, h8⟩, ⟨eao, ecap, g6, g7, g8⟩, h9⟩ := hr
    simp only [SL.len, SL.size, wellS] at hkl hrs hwe
    obtain ⟨rfl, hp⟩ := (uh HA) (by omega)
    have HTH : Hid (SlS Z wr b (.slice tao th.len tcap) th) := ⟨tao, tcap, rfl, h7, h8⟩
    have HEL : Hid (SlS Z wr b (.slice eao el.len ecap) el) := ⟨eao, ecap, rfl, g7, g8⟩
    have HEX := hide hxs
    obtain ⟨xao, xcap, rfl, hxl⟩ := hxs.head
    have HR := hide h9
    have HK := hide hkeep
    have HWE := hide hwe
    have i1 : (k : Int) < (l.len : Int) := by omega
    have i0 : (0 : Int) ≤ (k : Int) := by omega
    obtain ⟨HB, hxb, hxc⟩ := boxedT wr #[.int .i64 op, str f, .slice xao ex.len xcap, .slice tao th.len tcap, .slice eao el.len ecap] 39
    have q2 := hxc 2 (.slice xao ex.len xcap) rfl
    have q3 := hxc 3 (.slice tao th.len tcap) rfl
    have q4 := hxc 4 (.slice eao el.len ecap) rfl
    have HFW := hide ((uh HF).keepF (uh HK))
    have HHD := hide (headFits_v op f xao tao eao ex.len th.len el.len xcap tcap ecap (wr.alloc (.cells #[.int .i64 op, str f, .slice xao ex.len xcap, .slice tao th.len tcap, .slice eao el.len ecap] 39)))
    have HQX := fun (w' : World) (hk : Keeps (fun _ => False) wr w') => hide (exprsWellMade_v Z (ex.size + 1) ex (by omega) (by omega) w' b (.slice xao ex.len xcap) ((uh HFW).keepF hk) ((uh HEX).keepF hk))
    have HQT := fun (w' : World) (hk : Keeps (fun _ => False) wr w') => hide (uh IH th (by omega) (by omega) w' b (.slice tao th.len tcap) ((uh HFW).keepF hk) ((uh HTH).keepF hk))
    have HQE := fun (w' : World) (hk : Keeps (fun _ => False) wr w') => hide (uh IH el (by omega) (by omega) w' b (.slice eao el.len ecap) ((uh HFW).keepF hk) ((uh HEL).keepF hk))
    clear hkeep h2 h8 h9 hwe hxc hxs g8
    generalize headS op f ex.len th.len el.len = b1 at HHD HWE
    generalize wellE ex = b2 at HQX HWE
    generalize wellS th = b3 at HQT HWE
    generalize wellS el = b4 at HQE HWE
    cases b1 with
    | false =>
     go_wp2_with (first
      | (go_at_call 196; refine (uh HHD).mono ?_; rintro e w1 ⟨rfl, hk1⟩; have HJ1 := hide hk1; have HK1 := hide ((uh HB).trans hk1); have r2 := (hk1.cell (o := 2) hxb id).trans q2; clear hk1)
      | (go_at_call 111; refine (uh (HQX _ (uh HK1))).mono ?_; rintro e w2 ⟨rfl, hk2⟩; have HJ2 := hide ((uh HJ1).trans hk2); have HK2 := hide ((uh HK1).trans hk2); have r3 := ((uh HJ2).cell (o := 3) hxb id).trans q3; clear hk2)
      | (go_at_call_of 144 (Value.slice tao th.len tcap); refine (uh (HQT _ (uh HK2))).mono ?_; rintro e w3 ⟨rfl, hk3⟩; have HJ3 := hide ((uh HJ2).trans hk3); have HK3 := hide ((uh HK2).trans hk3); have r4 := ((uh HJ3).cell (o := 4) hxb id).trans q4; clear hk3)
      | (go_at_call_of 144 (Value.slice eao el.len ecap); refine (uh (HQE _ (uh HK3))).mono ?_; rintro e w4 ⟨rfl, hk4⟩; have HK4 := hide ((uh HK3).trans hk4); clear hk4))
     go_ret
     exact ⟨ret_bool (by have := uh HWE; simpa using this), (uh HK).trans (uh HK1)⟩
    | true =>
     cases b2 with
     | false =>
      go_wp2_with (first
       | (go_at_call 196; refine (uh HHD).mono ?_; rintro e w1 ⟨rfl, hk1⟩; have HJ1 := hide hk1; have HK1 := hide ((uh HB).trans hk1); have r2 := (hk1.cell (o := 2) hxb id).trans q2; clear hk1)
       | (go_at_call 111; refine (uh (HQX _ (uh HK1))).mono ?_; rintro e w2 ⟨rfl, hk2⟩; have HJ2 := hide ((uh HJ1).trans hk2); have HK2 := hide ((uh HK1).trans hk2); have r3 := ((uh HJ2).cell (o := 3) hxb id).trans q3; clear hk2)
       | (go_at_call_of 144 (Value.slice tao th.len tcap); refine (uh (HQT _ (uh HK2))).mono ?_; rintro e w3 ⟨rfl, hk3⟩; have HJ3 := hide ((uh HJ2).trans hk3); have HK3 := hide ((uh HK2).trans hk3); have r4 := ((uh HJ3).cell (o := 4) hxb id).trans q4; clear hk3)
       | (go_at_call_of 144 (Value.slice eao el.len ecap); refine (uh (HQE _ (uh HK3))).mono ?_; rintro e w4 ⟨rfl, hk4⟩; have HK4 := hide ((uh HK3).trans hk4); clear hk4))
      go_ret
      exact ⟨ret_bool (by have := uh HWE; simpa using this), (uh HK).trans (uh HK2)⟩
     | true =>
      cases b3 with
      | false =>
       go_wp2_with (first
        | (go_at_call 196; refine (uh HHD).mono ?_; rintro e w1 ⟨rfl, hk1⟩; have HJ1 := hide hk1; have HK1 := hide ((uh HB).trans hk1); have r2 := (hk1.cell (o := 2) hxb id).trans q2; clear hk1)
        | (go_at_call 111; refine (uh (HQX _ (uh HK1))).mono ?_; rintro e w2 ⟨rfl, hk2⟩; have HJ2 := hide ((uh HJ1).trans hk2); have HK2 := hide ((uh HK1).trans hk2); have r3 := ((uh HJ2).cell (o := 3) hxb id).trans q3; clear hk2)
        | (go_at_call_of 144 (Value.slice tao th.len tcap); refine (uh (HQT _ (uh HK2))).mono ?_; rintro e w3 ⟨rfl, hk3⟩; have HJ3 := hide ((uh HJ2).trans hk3); have HK3 := hide ((uh HK2).trans hk3); have r4 := ((uh HJ3).cell (o := 4) hxb id).trans q4; clear hk3)
        | (go_at_call_of 144 (Value.slice eao el.len ecap); refine (uh (HQE _ (uh HK3))).mono ?_; rintro e w4 ⟨rfl, hk4⟩; have HK4 := hide ((uh HK3).trans hk4); clear hk4))
       go_ret
       exact ⟨ret_bool (by have := uh HWE; simpa using this), (uh HK).trans (uh HK3)⟩
      | true =>
       cases b4 with
       | false =>
        go_wp2_with (first
         | (go_at_call 196; refine (uh HHD).mono ?_; rintro e w1 ⟨rfl, hk1⟩; have HJ1 := hide hk1; have HK1 := hide ((uh HB).trans hk1); have r2 := (hk1.cell (o := 2) hxb id).trans q2; clear hk1)
         | (go_at_call 111; refine (uh (HQX _ (uh HK1))).mono ?_; rintro e w2 ⟨rfl, hk2⟩; have HJ2 := hide ((uh HJ1).trans hk2); have HK2 := hide ((uh HK1).trans hk2); have r3 := ((uh HJ2).cell (o := 3) hxb id).trans q3; clear hk2)
         | (go_at_call_of 144 (Value.slice tao th.len tcap); refine (uh (HQT _ (uh HK2))).mono ?_; rintro e w3 ⟨rfl, hk3⟩; have HJ3 := hide ((uh HJ2).trans hk3); have HK3 := hide ((uh HK2).trans hk3); have r4 := ((uh HJ3).cell (o := 4) hxb id).trans q4; clear hk3)
         | (go_at_call_of 144 (Value.slice eao el.len ecap); refine (uh (HQE _ (uh HK3))).mono ?_; rintro e w4 ⟨rfl, hk4⟩; have HK4 := hide ((uh HK3).trans hk4); clear hk4))
        go_ret
        exact ⟨ret_bool (by have := uh HWE; simpa using this), (uh HK).trans (uh HK4)⟩
       | true =>
        go_wp2_with (first
         | (go_at_call 196; refine (uh HHD).mono ?_; rintro e w1 ⟨rfl, hk1⟩; have HJ1 := hide hk1; have HK1 := hide ((uh HB).trans hk1); have r2 := (hk1.cell (o := 2) hxb id).trans q2; clear hk1)
         | (go_at_call 111; refine (uh (HQX _ (uh HK1))).mono ?_; rintro e w2 ⟨rfl, hk2⟩; have HJ2 := hide ((uh HJ1).trans hk2); have HK2 := hide ((uh HK1).trans hk2); have r3 := ((uh HJ2).cell (o := 3) hxb id).trans q3; clear hk2)
         | (go_at_call_of 144 (Value.slice tao th.len tcap); refine (uh (HQT _ (uh HK2))).mono ?_; rintro e w3 ⟨rfl, hk3⟩; have HJ3 := hide ((uh HJ2).trans hk3); have HK3 := hide ((uh HK2).trans hk3); have r4 := ((uh HJ3).cell (o := 4) hxb id).trans q4; clear hk3)
         | (go_at_call_of 144 (Value.slice eao el.len ecap); refine (uh (HQE _ (uh HK3))).mono ?_; rintro e w4 ⟨rfl, hk4⟩; have HK4 := hide ((uh HK3).trans hk4); clear hk4))
        go_roundw
        case rel =>
         refine ⟨rest, k + 1, by go_num, by omega, by omega, by have := uh HWE; simpa using this, (uh HK).trans (uh HK4), ?_⟩
         rw [show off + (k + 1) * 5 = off + k * 5 + 5 by omega]
         exact (uh HR).keepF (uh HK4)
        case measure => simp [intOf]; omega
end Go.Proofs.YtiinohibmcefkaaGreatDoor
namespace Go.Proofs.YtiinohibmcefkaaGreatDoor
open Go.RowKit Go.Maps
set_option maxRecDepth 100000
set_option maxHeartbeats 800000
theorem check_v (Z : Zone) (l : SL) (hsz : l.size ≤ 4294967294) (w : World) (up : Nat) (v : Value) (hF : Forms w) (hS : SlS Z w up v l) :
  Calls Tryz.prog 83 #[v] w fun e w' => e = .returned (.int .i64 (checkS l)) ∧ Keeps (fun _ => False) w w' := by
 have HW := hide (wellMade_v Z (l.size + 1) l (by omega) hsz w up v hF hS)
 have HC := fun (w' : World) (hk : Keeps (fun _ => False) w w') => hide (count_v Z (l.size + 1) l (by omega) hsz w' up v (hS.keepF hk))
 have HD := fun (w' : World) (hk : Keeps (fun _ => False) w w') => hide (depth_v Z (l.size + 1) l (by omega) hsz w' up v (hS.keepF hk))
 obtain ⟨ao, cap, rfl, hc⟩ := hS.head
 unfold checkS
 clear hF hS
 generalize wellS l = bw at HW ⊢
 generalize countS l = nc at HC ⊢
 generalize depthS l = nd at HD ⊢
 cases bw with
 | false =>
  rw [if_pos rfl]
  go_enter Tryz.func83, Tryz.ntmps83
  go_wp2_with (go_at_call 144; refine (uh HW).mono ?_; rintro e w1 ⟨rfl, hk1⟩)
  go_ret
  exact ⟨rfl, hk1⟩
 | true =>
  rw [if_neg (by simp)]
  by_cases h32 : 32 < nc
  ·rw [if_pos h32]
   have g32 : (32 : Int) < (nc : Int) := by omega
   go_enter Tryz.func83, Tryz.ntmps83
   go_wp2_with (first
    | (go_at_call 144; refine (uh HW).mono ?_; rintro e w1 ⟨rfl, hk1⟩; have HK1 := hide hk1; clear hk1)
    | (go_at_call 145; refine (uh (HC _ (uh HK1))).mono ?_; rintro e w2 ⟨rfl, hk2⟩; have HK2 := hide ((uh HK1).trans hk2); clear hk2))
   go_ret
   exact ⟨rfl, uh HK2⟩
  ·rw [if_neg h32]
   have g32 : ¬ (32 : Int) < (nc : Int) := by omega
   by_cases h12 : 12 < nd
   ·rw [if_pos h12]
    have g12 : (12 : Int) < (nd : Int) := by omega
    go_enter Tryz.func83, Tryz.ntmps83
    go_wp2_with (first
     | (go_at_call 144; refine (uh HW).mono ?_; rintro e w1 ⟨rfl, hk1⟩; have HK1 := hide hk1; clear hk1)
     | (go_at_call 145; refine (uh (HC _ (uh HK1))).mono ?_; rintro e w2 ⟨rfl, hk2⟩; have HK2 := hide ((uh HK1).trans hk2); clear hk2)
     | (go_at_call 146; refine (uh (HD _ (uh HK2))).mono ?_; rintro e w3 ⟨rfl, hk3⟩; have HK3 := hide ((uh HK2).trans hk3); clear hk3))
    go_ret
    exact ⟨rfl, uh HK3⟩
   ·rw [if_neg h12]
    have g12 : ¬ (12 : Int) < (nd : Int) := by omega
    go_enter Tryz.func83, Tryz.ntmps83
    go_wp2_with (first
     | (go_at_call 144; refine (uh HW).mono ?_; rintro e w1 ⟨rfl, hk1⟩; have HK1 := hide hk1; clear hk1)
     | (go_at_call 145; refine (uh (HC _ (uh HK1))).mono ?_; rintro e w2 ⟨rfl, hk2⟩; have HK2 := hide ((uh HK1).trans hk2); clear hk2)
     | (go_at_call 146; refine (uh (HD _ (uh HK2))).mono ?_; rintro e w3 ⟨rfl, hk3⟩; have HK3 := hide ((uh HK2).trans hk3); clear hk3))
    go_ret
    exact ⟨rfl, uh HK3⟩
end Go.Proofs.YtiinohibmcefkaaGreatDoor
namespace Go.Proofs.YtiinohibmcefkaaGreatDoor
open Go.RowKit Go.Maps
set_option maxRecDepth 100000
set_option maxHeartbeats 1600000
def letB (c : Int) : Bool := decide (97 ≤ c) && decide (c ≤ 122) || decide (65 ≤ c) && decide (c ≤ 90) || decide (c = 95)
def okc (k : Nat) (n : Int) : Bool := letB n || (decide (k ≠ 0) && digitB n)
def okB : Nat → Txt → Bool
 | _, [] => true
 | k, c :: r => okc k (num c) && okB (k + 1) r
theorem okB_all : ∀ (r : Txt) (k : Nat), okB (k + 1) r = r.all (fun c => partB (num c))
 | [], _ => rfl
 | c :: r, k => by
  rw [okB, okB_all r (k + 1), List.all_cons]
  congr 1
  apply Bool.eq_iff_iff.2
  simp [okc, letB, digitB, partB]
  omega
theorem nameB_ok (x : Txt) (h1 : 1 ≤ x.length) (h8 : x.length ≤ 8) (hk : x ∉ kws) : nameB x = okB 0 x := by
 cases x with
 | nil => simp at h1
 | cons c r =>
  rw [nameB_form (c :: r) c rfl h8, okB, okB_all, List.all_cons, decide_eq_false hk, Bool.not_false, Bool.and_true, ← Bool.and_assoc]
  congr 1
  apply Bool.eq_iff_iff.2
  simp [okc, letB, digitB, partB]
  omega
theorem nameB_no (x : Txt) (h : x.length < 1 ∨ 8 < x.length ∨ x ∈ kws) : nameB x = false := by
 unfold nameB
 rcases h with h | h | h
 ·cases x with
  | nil => rfl
  | cons c r => simp at h
 ·have : decide (x.length ≤ 8) = false := by simp; omega
  rw [this]
  simp
 ·rw [decide_eq_true h]
  simp
theorem isName_v (x : Txt) (w : World) : Calls Tryz.prog 218 #[str x] w fun e w' => e = .returned (.bool (nameB x)) ∧ w' = w := by
 by_cases h1 : x.length < 1
 ·rw [nameB_no x (Or.inl h1)]
  have g1 : (x.length : Int) < 1 := by omega
  go_enter Tryz.func218, Tryz.ntmps218
  go_wp2_with fail
  go_ret
  exact ⟨rfl, rfl⟩
 by_cases h8 : 8 < x.length
 ·rw [nameB_no x (Or.inr (Or.inl h8))]
  have g1 : ¬ (x.length : Int) < 1 := by omega
  have g8 : (8 : Int) < (x.length : Int) := by omega
  go_enter Tryz.func218, Tryz.ntmps218
  go_wp2_with fail
  go_ret
  exact ⟨rfl, rfl⟩
 have HQ := hide (refKeyword_v x (by omega))
 have g1 : ¬ (x.length : Int) < 1 := by omega
 have g8 : ¬ (8 : Int) < (x.length : Int) := by omega
 by_cases hk : x ∈ kws
 ·rw [nameB_no x (Or.inr (Or.inr hk))]
  rw [decide_eq_true hk] at HQ
  go_enter Tryz.func218, Tryz.ntmps218
  go_wp2_with (go_at_call 221; refine (uh HQ _).mono ?_; rintro e w' ⟨rfl, rfl⟩)
  go_ret
  exact ⟨rfl, rfl⟩
 rw [nameB_ok x (by omega) (by omega) hk]
 rw [decide_eq_false hk] at HQ
 go_enter Tryz.func218, Tryz.ntmps218
 go_wp2_with (go_at_call 221; refine (uh HQ _).mono ?_; rintro e w' ⟨rfl, rfl⟩)
 go_loopw [3] (fun i wr => ∃ k : Nat, k ≤ x.length ∧ i = .int .i64 k ∧ okB k (x.drop k) = okB 0 x ∧ wr = w') (fun i _ => x.length - (intOf i).toNat)
 case atStart => exact ⟨0, Nat.zero_le _, rfl, rfl, rfl⟩
 case round =>
  obtain ⟨k, hkl, rfl, hok, rfl⟩ := hrel
  have HOK := hide hok
  clear hok
  cases hc : x[k]? with
  | none =>
   have := get_ge hc
   have i1 : ¬ (k : Int) < (x.length : Int) := by omega
   have HZ : Hid (okB 0 x = true) := by
    have h := uh HOK
    rw [List.drop_eq_nil_of_le this] at h
    exact h.symm
   go_wp2_with fail
   go_ret
   exact ⟨ret_bool (uh HZ).symm, rfl⟩
  | some c =>
   have hlt := get_lt hc
   have hs := str_at hc
   have i1 : (k : Int) < (x.length : Int) := by omega
   have i0 : (0 : Int) ≤ (k : Int) := by omega
   have HO : Hid ((okc k (num c) && okB (k + 1) (x.drop (k + 1))) = okB 0 x) := by
    have h := uh HOK
    rw [drop_at hc, okB] at h
    exact h
   obtain ⟨n, hn⟩ : ∃ n, n = num c := ⟨_, rfl⟩
   clear HOK
   go_wp2_with fail
   all_goals first
    | (go_ret; refine ⟨ret_bool ?_, rfl⟩; rw [← uh HO]; (suffices h : okc k (num c) = false by rw [h]; rfl); clear HO HQ hs hc; apply Bool.eq_false_iff.2; have hn2 : n = (c.toNat : Int) := hn; rw [← hn]; simp only [okc, letB, digitB, Bool.or_eq_true, Bool.and_eq_true, decide_eq_true_eq, ne_eq]; omega)
    | (go_ret; refine ⟨ret_bool ?_, rfl⟩; rw [← uh HO]; (suffices h : okc k (num c) = false by rw [h]; rfl); clear HO HQ hs hc; apply Bool.eq_false_iff.2; have h57 : ¬ (c.toNat : Int) ≤ 57 := (by rcases (by assumption : (!((c.toNat : Int) == 95)) = true ∧ (((k : Int) == 0) = true ∨ (!decide ((c.toNat : Int) ≤ 57)) = true)) with ⟨_, h | h⟩ <;> simp at h <;> omega); have hn2 : n = (c.toNat : Int) := hn; rw [← hn]; simp only [okc, letB, digitB, Bool.or_eq_true, Bool.and_eq_true, decide_eq_true_eq, ne_eq]; omega)
    | (go_roundw
       case rel =>
        refine ⟨k + 1, by omega, by go_num, ?_, trivial⟩
        rw [← uh HO]
        (suffices h : okc k (num c) = true by rw [h]; rfl)
        clear HO HQ hs hc
        first
         | (have hn2 : n = (c.toNat : Int) := hn; rw [← hn]; simp only [okc, letB, digitB, Bool.or_eq_true, Bool.and_eq_true, decide_eq_true_eq, ne_eq]; omega)
         | (exfalso; simp at *; omega)
         | (simp at *; have hn2 : n = (c.toNat : Int) := hn; rw [← hn]; simp only [okc, letB, digitB, Bool.or_eq_true, Bool.and_eq_true, decide_eq_true_eq, ne_eq]; omega)
       case measure => (simp [intOf]; omega))
end Go.Proofs.YtiinohibmcefkaaGreatDoor
namespace Go.Proofs.YtiinohibmcefkaaGreatDoor
open Go.RowKit Go.Maps
set_option maxRecDepth 100000
set_option maxHeartbeats 1600000
theorem kids_v (op : Int) (w : World) : Calls Tryz.prog 197 #[.int .i64 op] w fun e w' => e = .returned (.int .i64 (kidsB op)) ∧ w' = w := by
 go_enter Tryz.func197, Tryz.ntmps197
 go_wp2_with fail
 all_goals (go_ret; refine ⟨ret_int ?_, rfl⟩; unfold kidsB; (repeat' split) <;> first | rfl | (exfalso; simp_all; done) | (exfalso; simp_all; omega) | (exfalso; omega))
theorem leaf_v (op n : Int) (s : Txt) (kv : Value) (w : World) (hkv : ∃ ao k cap, kv = .slice ao k cap) :
  Calls Tryz.prog 198 #[exV op n s kv] w fun e w' => e = .returned (.bool (leafB op n s)) ∧ Keeps (fun _ => False) w w' := by
 obtain ⟨ao, k, cap, rfl⟩ := hkv
 obtain ⟨HX, hxb, hxc⟩ := boxedT w #[.int .i64 op, .int .i64 n, str s, .slice ao k cap] 27
 have c0 := hxc 0 (.int .i64 op) rfl
 have c1 := hxc 1 (.int .i64 n) rfl
 have c2 := hxc 2 (str s) rfl
 have HN := hide (isName_v s)
 clear hxc
 unfold leafB
 by_cases h1 : op = 1
 ·subst h1
  rw [if_pos rfl]
  go_enter Tryz.func198, Tryz.ntmps198
  go_wp2_with fail
  all_goals (go_ret; refine ⟨ret_bool ?_, (Keeps.refl _ w).alloc _⟩; clear HX c0 c1 c2 HN hxb; cases s <;> simp)
 rw [if_neg h1]
 by_cases h2 : op = 2
 ·subst h2
  rw [if_pos rfl]
  go_enter Tryz.func198, Tryz.ntmps198
  go_wp2_with fail
  all_goals (go_ret; refine ⟨ret_bool ?_, (Keeps.refl _ w).alloc _⟩; clear HX c0 c1 c2 HN hxb; first | (cases s <;> simp_all; done) | (cases s <;> simp_all <;> (apply Bool.eq_iff_iff.2; simp; omega)))
 rw [if_neg h2]
 by_cases h3 : op = 3
 ·subst h3
  rw [if_pos rfl]
  go_enter Tryz.func198, Tryz.ntmps198
  go_wp2_with fail
  all_goals (go_ret; refine ⟨ret_bool ?_, (Keeps.refl _ w).alloc _⟩; clear HX c0 c1 c2 HN hxb; first | (simp_all; done) | (simp_all; omega))
 rw [if_neg h3]
 by_cases h4 : op = 4
 ·subst h4
  rw [if_pos (by omega)]
  go_enter Tryz.func198, Tryz.ntmps198
  go_wp2_with (go_at_call 218; refine (uh HN _).mono ?_; rintro e w1 ⟨rfl, rfl⟩)
  all_goals (go_ret; refine ⟨ret_bool ?_, (Keeps.refl _ w).alloc _⟩; clear HX c0 c1 c2 HN hxb; simp_all)
 by_cases h5 : op = 5
 ·subst h5
  rw [if_pos (by omega)]
  go_enter Tryz.func198, Tryz.ntmps198
  go_wp2_with (go_at_call 218; refine (uh HN _).mono ?_; rintro e w1 ⟨rfl, rfl⟩)
  all_goals (go_ret; refine ⟨ret_bool ?_, (Keeps.refl _ w).alloc _⟩; clear HX c0 c1 c2 HN hxb; simp_all)
 rw [if_neg (by omega)]
 have d1 : (op == 1) = false := by simpa using h1
 have d2 : (op == 2) = false := by simpa using h2
 have d3 : (op == 3) = false := by simpa using h3
 have d4 : (op == 4) = false := by simpa using h4
 have d5 : (op == 5) = false := by simpa using h5
 clear h1 h2 h3 h4 h5
 go_enter Tryz.func198, Tryz.ntmps198
 go_wp2_with (go_at_call 218; refine (uh HN _).mono ?_; rintro e w1 ⟨rfl, rfl⟩)
 all_goals (go_ret; refine ⟨ret_bool ?_, (Keeps.refl _ w).alloc _⟩; clear HX c0 c1 c2 HN hxb; cases s <;> simp_all)
end Go.Proofs.YtiinohibmcefkaaGreatDoor
namespace Go.Proofs.YtiinohibmcefkaaGreatDoor
open Go.RowKit Go.Maps
set_option maxRecDepth 100000
set_option maxHeartbeats 1600000
theorem wellExpr_v (Z : Zone) (N : Nat) : ∀ (kids : EL), kids.size < N → kids.size ≤ 4294967294 → ∀ (op n : Int) (s : Txt) (w : World) (up : Nat) (v : Value), SlE Z w up v kids →
  Calls Tryz.prog 147 #[exV op n s v] w fun e w' => e = .returned (.bool (rootB op n s kids.len && wellE kids)) ∧ Keeps (fun _ => False) w w' := by
 induction N with
 | zero => intro l h; omega
 | succ N ih =>
  intro l hsz hlen' op n s w up v hS
  have hlen : l.len ≤ 4294967294 := by have := EL.len_le l; omega
  obtain ⟨ao, cap, b, off, rfl, hcap, ha, hx⟩ := hS.open
  obtain ⟨HB, hxb, hxc⟩ := boxedT w #[.int .i64 op, .int .i64 n, str s, .slice ao l.len cap] 27
  have c0 := hxc 0 (.int .i64 op) rfl
  have c1 := hxc 1 (.int .i64 n) rfl
  have c2 := hxc 2 (str s) rfl
  have c3 := hxc 3 (.slice ao l.len cap) rfl
  have IH := hide ih
  have HX := hide hx
  have HA := hide ha
  have HLF := hide (leaf_v op n s (.slice ao l.len cap) (w.alloc (.cells #[.int .i64 op, .int .i64 n, str s, .slice ao l.len cap] 27)) ⟨_, _, _, rfl⟩)
  have HKI := hide (kids_v op (w.alloc (.cells #[.int .i64 op, .int .i64 n, str s, .slice ao l.len cap] 27)))
  clear hS ih hx ha hxc
  unfold rootB
  by_cases hk0 : 0 ≤ kidsB op
  ·rw [decide_eq_true hk0, Bool.true_and]
   by_cases hkk : (l.len : Int) = kidsB op
   ·rw [decide_eq_true hkk, Bool.true_and]
    generalize kidsB op = K at *
    subst hkk
    cases hlf : leafB op n s with
    | false =>
     rw [hlf] at HLF
     rw [Bool.false_and]
     go_enter Tryz.func147, Tryz.ntmps147
     go_wp2_with (first
      | (go_at_call 197; refine (uh HKI).mono ?_; rintro e w1 ⟨rfl, rfl⟩)
      | (go_at_call 198; refine (uh HLF).mono ?_; rintro e w2 ⟨rfl, hk2⟩))
     go_ret
     exact ⟨rfl, (uh HB).trans hk2⟩
    | true =>
     rw [hlf] at HLF
     rw [Bool.true_and]
     go_enter Tryz.func147, Tryz.ntmps147
     go_wp2_with (first
      | (go_at_call 197; refine (uh HKI).mono ?_; rintro e w1 ⟨rfl, rfl⟩)
      | (go_at_call 198; refine (uh HLF).mono ?_; rintro e w2 ⟨rfl, hk2⟩; have HK2 := hide hk2; clear hk2))
     go_loopw [4] (fun i wr => ∃ (rest : EL) (k : Nat), i = .int .i64 k ∧ k + rest.len = l.len ∧ rest.size ≤ l.size ∧ wellE rest = wellE l ∧ Keeps (fun _ => False) (w.alloc (.cells #[.int .i64 op, .int .i64 n, str s, .slice ao l.len cap] 27)) wr ∧ ExIn Z wr rest b (off + k * 4)) (fun i _ => l.len - (intOf i).toNat)
     case atStart => exact ⟨l, 0, rfl, by omega, Nat.le_refl _, rfl, uh HK2, by simpa using (uh HX).keepF ((uh HB).trans (uh HK2))⟩
     case round =>
      obtain ⟨rest, k, rfl, hkl, hrs, hwe, hkeep, hr⟩ := hrel
      have q3 := (hkeep.cell (o := 3) hxb id).trans c3
      have HK := hide hkeep
      clear HK2 hkeep
      cases rest with
      | nil =>
       simp only [EL.len, EL.size, wellE] at hkl hrs hwe
       have HWE := hide hwe
       clear hr hwe
       have i1 : ¬ (k : Int) < (l.len : Int) := by omega
       go_wp2_with fail
       go_ret
       exact ⟨ret_bool (by first | exact uh HWE | exact (uh HWE).symm), (uh HB).trans (uh HK)⟩
      | cons op' n' s' kids rest =>
       obtain ⟨h1, h2, h3, h4, h5, ⟨kao, kcap, h6, h7, h8⟩, h9⟩ := hr
       simp only [EL.len, EL.size, wellE] at hkl hrs hwe
       obtain ⟨rfl, hp⟩ := (uh HA) (by omega)
       have HKID : Hid (SlE Z wr b (.slice kao kids.len kcap) kids) := ⟨kao, kcap, rfl, h7, h8⟩
       have HR := hide h9
       have HWE := hide hwe
       have i1 : (k : Int) < (l.len : Int) := by omega
       have i0 : (0 : Int) ≤ (k : Int) := by omega
       have HKD := hide (uh IH kids (by omega) (by omega) op' n' s' wr b (.slice kao kids.len kcap) (uh HKID))
       clear h2 h8 h9 hwe
       rw [← Bool.and_assoc] at HWE
       cases hv : (rootB op' n' s' kids.len && wellE kids) with
       | false =>
        rw [hv] at HKD HWE
        go_wp2_with (go_at_call 147; refine (uh HKD).mono ?_; rintro e w1 ⟨rfl, hk1⟩)
        go_ret
        exact ⟨ret_bool (by have := uh HWE; simpa using this), ((uh HB).trans (uh HK)).trans hk1⟩
       | true =>
        rw [hv] at HKD HWE
        go_wp2_with (go_at_call 147; refine (uh HKD).mono ?_; rintro e w1 ⟨rfl, hk1⟩; have HK1 := hide hk1; clear hk1)
        go_roundw
        case rel =>
         refine ⟨rest, k + 1, by go_num, by omega, by omega, by have := uh HWE; simpa using this, (uh HK).trans (uh HK1), ?_⟩
         rw [show off + (k + 1) * 4 = off + k * 4 + 4 by omega]
         exact (uh HR).keepF (uh HK1)
        case measure => simp [intOf]; omega
   ·rw [decide_eq_false hkk, Bool.false_and, Bool.false_and]
    generalize kidsB op = K at *
    have d1 : ((l.len : Int) != K) = true := by simpa using hkk
    have d0 : ¬ K < 0 := by omega
    clear hkk
    go_enter Tryz.func147, Tryz.ntmps147
    go_wp2_with (go_at_call 197; refine (uh HKI).mono ?_; rintro e w1 ⟨rfl, rfl⟩)
    all_goals (go_ret; exact ⟨rfl, uh HB⟩)
  ·rw [decide_eq_false hk0, Bool.false_and, Bool.false_and]
   generalize kidsB op = K at *
   have d0 : K < 0 := by omega
   go_enter Tryz.func147, Tryz.ntmps147
   go_wp2_with (go_at_call 197; refine (uh HKI).mono ?_; rintro e w1 ⟨rfl, rfl⟩)
   all_goals (go_ret; exact ⟨rfl, uh HB⟩)
end Go.Proofs.YtiinohibmcefkaaGreatDoor
namespace Go.Proofs.YtiinohibmcefkaaGreatDoor
open Go.RowKit Go.Maps
set_option maxRecDepth 100000
set_option maxHeartbeats 1600000
theorem depthExpr_v (Z : Zone) (N : Nat) : ∀ (kids : EL), kids.size < N → kids.size ≤ 4294967294 → ∀ (op n : Int) (s : Txt) (w : World) (up : Nat) (v : Value), SlE Z w up v kids →
  Calls Tryz.prog 148 #[exV op n s v] w fun e w' => e = .returned (.int .i64 ((1 + depthE kids : Nat) : Int)) ∧ Keeps (fun _ => False) w w' := by
 induction N with
 | zero => intro l h; omega
 | succ N ih =>
  intro l hsz hlen' op n s w up v hS
  have hlen : l.len ≤ 4294967294 := by have := EL.len_le l; omega
  have hdl := depthE_le l
  obtain ⟨ao, cap, b, off, rfl, hcap, ha, hx⟩ := hS.open
  obtain ⟨HB, hxb, hxc⟩ := boxedT w #[.int .i64 op, .int .i64 n, str s, .slice ao l.len cap] 27
  have c3 := hxc 3 (.slice ao l.len cap) rfl
  have IH := hide ih
  have HX := hide hx
  have HA := hide ha
  clear hS ih hx ha hxc
  go_enter Tryz.func148, Tryz.ntmps148
  go_wp2_with fail
  go_loopw [3, 4] (fun d i wr => ∃ (rest : EL) (k m : Nat), d = .int .i64 m ∧ i = .int .i64 k ∧ k + rest.len = l.len ∧ rest.size ≤ l.size ∧ max m (depthE rest) = depthE l ∧ Keeps (fun _ => False) (w.alloc (.cells #[.int .i64 op, .int .i64 n, str s, .slice ao l.len cap] 27)) wr ∧ ExIn Z wr rest b (off + k * 4)) (fun _ i _ => l.len - (intOf i).toNat)
  case atStart => exact ⟨l, 0, 0, rfl, rfl, by omega, Nat.le_refl _, by omega, Keeps.refl _ _, by simpa using (uh HX).keepF (uh HB)⟩
  case round =>
   obtain ⟨rest, k, m, rfl, rfl, hkl, hrs, hwe, hkeep, hr⟩ := hrel
   have q3 := (hkeep.cell (o := 3) hxb id).trans c3
   have HK := hide hkeep
   clear hkeep
   cases rest with
   | nil =>
    simp only [EL.len, EL.size, depthE] at hkl hrs hwe
    clear hr
    have i1 : ¬ (k : Int) < (l.len : Int) := by omega
    go_wp2_with fail
    go_ret
    exact ⟨ret_int (by omega), (uh HB).trans (uh HK)⟩
   | cons op' n' s' kids rest =>
    obtain ⟨h1, h2, h3, h4, h5, ⟨kao, kcap, h6, h7, h8⟩, h9⟩ := hr
    simp only [EL.len, EL.size, depthE] at hkl hrs hwe
    obtain ⟨rfl, hp⟩ := (uh HA) (by omega)
    have HKID : Hid (SlE Z wr b (.slice kao kids.len kcap) kids) := ⟨kao, kcap, rfl, h7, h8⟩
    have HR := hide h9
    have HWE := hide hwe
    have i1 : (k : Int) < (l.len : Int) := by omega
    have i0 : (0 : Int) ≤ (k : Int) := by omega
    have HKD := hide (uh IH kids (by omega) (by omega) op' n' s' wr b (.slice kao kids.len kcap) (uh HKID))
    have hdk := depthE_le kids
    generalize hD : 1 + depthE kids = D at HKD HWE
    clear h2 h8 h9 hwe
    by_cases hmd : (m : Int) < (D : Int)
    ·go_wp2_with (go_at_call 148; refine (uh HKD).mono ?_; rintro e w1 ⟨rfl, hk1⟩; have HK1 := hide hk1; clear hk1)
     go_roundw
     case rel =>
      refine ⟨rest, k + 1, D, rfl, by go_num, by omega, by omega, by have := uh HWE; omega, (uh HK).trans (uh HK1), ?_⟩
      rw [show off + (k + 1) * 4 = off + k * 4 + 4 by omega]
      exact (uh HR).keepF (uh HK1)
     case measure => simp [intOf]; omega
    ·go_wp2_with (go_at_call 148; refine (uh HKD).mono ?_; rintro e w1 ⟨rfl, hk1⟩; have HK1 := hide hk1; clear hk1)
     go_roundw
     case rel =>
      refine ⟨rest, k + 1, m, rfl, by go_num, by omega, by omega, by have := uh HWE; omega, (uh HK).trans (uh HK1), ?_⟩
      rw [show off + (k + 1) * 4 = off + k * 4 + 4 by omega]
      exact (uh HR).keepF (uh HK1)
     case measure => simp [intOf]; omega
end Go.Proofs.YtiinohibmcefkaaGreatDoor
namespace Go.Proofs.YtiinohibmcefkaaGreatDoor
open Go.RowKit Go.Maps
set_option maxRecDepth 100000
set_option maxHeartbeats 1600000
theorem rCount_v (Z : Zone) (N : Nat) : ∀ (l : SL), l.size < N → l.size ≤ 4294967294 → ∀ (w : World) (up : Nat) (v : Value), SlS Z w up v l →
  Calls Tryz.prog 157 #[v] w fun e w' => e = .returned (.int .i64 (countS l)) ∧ Keeps (fun _ => False) w w' := by
 induction N with
 | zero => intro l h; omega
 | succ N ih =>
  intro l hsz hlen' w up v hS
  have hlen : l.len ≤ 4294967294 := by have := SL.len_le l; omega
  obtain ⟨ao, cap, b, off, rfl, hcap, ha, hx⟩ := hS.open
  have IH := hide ih
  have HX := hide hx
  have HA := hide ha
  have hcl := countS_le l
  clear hS ih hx ha
  go_enter Tryz.func157, Tryz.ntmps157
  go_wp2_with fail
  go_loopw [3, 4] (fun d i wr => ∃ (rest : SL) (k m : Nat), d = .int .i64 m ∧ i = .int .i64 k ∧ k + rest.len = l.len ∧ rest.size ≤ l.size ∧ m + countS rest = countS l ∧ Keeps (fun _ => False) w wr ∧ StIn Z wr rest b (off + k * 5)) (fun _ i _ => l.len - (intOf i).toNat)
  case atStart => exact ⟨l, 0, 0, rfl, rfl, by omega, Nat.le_refl _, by omega, Keeps.refl _ _, by simpa using uh HX⟩
  case round =>
   obtain ⟨rest, k, m, rfl, rfl, hkl, hrs, hwe, hkeep, hr⟩ := hrel
   cases rest with
   | nil =>
    simp only [SL.len, SL.size, countS] at hkl hrs hwe
    have HK := hide hkeep
    clear hkeep hr
    have i1 : ¬ (k : Int) < (l.len : Int) := by omega
    go_wp2_with fail
    go_ret
    exact ⟨ret_int (by omega), uh HK⟩
   | cons op f ex th el rest =>
    obtain ⟨h1, h2, h3, h4, ⟨xv, h5, hxs⟩, ⟨tao, tcap, h6, h7, h8⟩, ⟨eao, ecap, g6, g7, g8⟩, h9⟩ := hr
    simp only [SL.len, SL.size, countS] at hkl hrs hwe
    obtain ⟨rfl, hp⟩ := (uh HA) (by omega)
    have HTH : Hid (SlS Z wr b (.slice tao th.len tcap) th) := ⟨tao, tcap, rfl, h7, h8⟩
    have HEL : Hid (SlS Z wr b (.slice eao el.len ecap) el) := ⟨eao, ecap, rfl, g7, g8⟩
    have HR := hide h9
    have HK := hide hkeep
    have HWE := hide hwe
    have i1 : (k : Int) < (l.len : Int) := by omega
    have i0 : (0 : Int) ≤ (k : Int) := by omega
    have f3 : ∀ m : KW wr, m.wd.cell? ⟨b, off + k * 5 + 3, none⟩ = some (.slice tao th.len tcap) := fun m => (m.kept.cell h1 id).trans h6
    have f4 : ∀ m : KW wr, m.wd.cell? ⟨b, off + k * 5 + 4, none⟩ = some (.slice eao el.len ecap) := fun m => (m.kept.cell h1 id).trans g6
    have HQT := hide (fun (m : KW wr) => kw_of m (uh IH th (by omega) (by omega) m.wd b (.slice tao th.len tcap) ((uh HTH).keepF m.kept)))
    have HQE := hide (fun (m : KW wr) => kw_of m (uh IH el (by omega) (by omega) m.wd b (.slice eao el.len ecap) ((uh HEL).keepF m.kept)))
    have hdk := countS_le th
    have hde := countS_le el
    clear hkeep h2 h8 h9 hwe hxs g8
    go_wp2_with fail
    refine region_kept (by kernel_rfl) (by kernel_rfl) ?_
    repeat (go_big_quiet_step ((first | (go_at_call_of 157 (Value.slice tao th.len tcap); exact uh HQT _) | (go_at_call_of 157 (Value.slice eao el.len ecap); exact uh HQE _))))
    refine wpQuiet_nil ?_
    rintro _ ⟨nq, rfl⟩
    go_wp2_with fail
    have hwe := uh HWE
    go_roundw
    case rel =>
     refine ⟨rest, k + 1, m + 1 + countS th + countS el, ?_, by go_num, by omega, by omega, by omega, (uh HK).trans nq.kept, ?_⟩
     ·rw [wrap64_id (n := (m : Int) + 1) (by omega), wrap64_id (n := (m : Int) + 1 + (countS th : Int)) (by omega), wrap64_id (by omega)]
      rfl
     ·rw [show off + (k + 1) * 5 = off + k * 5 + 5 by omega]
      exact (uh HR).keepF nq.kept
    case measure => simp [intOf]; omega
end Go.Proofs.YtiinohibmcefkaaGreatDoor
namespace Go.Proofs.YtiinohibmcefkaaGreatDoor
open Go.RowKit Go.Maps
set_option maxRecDepth 100000
set_option maxHeartbeats 1600000
theorem rDepth_v (Z : Zone) (N : Nat) : ∀ (l : SL), l.size < N → l.size ≤ 4294967294 → ∀ (w : World) (up : Nat) (v : Value), SlS Z w up v l →
  Calls Tryz.prog 158 #[v] w fun e w' => e = .returned (.int .i64 (depthS l)) ∧ Keeps (fun _ => False) w w' := by
 induction N with
 | zero => intro l h; omega
 | succ N ih =>
  intro l hsz hlen' w up v hS
  have hlen : l.len ≤ 4294967294 := by have := SL.len_le l; omega
  obtain ⟨ao, cap, b, off, rfl, hcap, ha, hx⟩ := hS.open
  have IH := hide ih
  have HX := hide hx
  have HA := hide ha
  have hcl := depthS_le l
  clear hS ih hx ha
  go_enter Tryz.func158, Tryz.ntmps158
  go_wp2_with fail
  go_loopw [3, 4] (fun d i wr => ∃ (rest : SL) (k m : Nat), d = .int .i64 m ∧ i = .int .i64 k ∧ k + rest.len = l.len ∧ rest.size ≤ l.size ∧ max m (depthS rest) = depthS l ∧ Keeps (fun _ => False) w wr ∧ StIn Z wr rest b (off + k * 5)) (fun _ i _ => l.len - (intOf i).toNat)
  case atStart => exact ⟨l, 0, 0, rfl, rfl, by omega, Nat.le_refl _, by omega, Keeps.refl _ _, by simpa using uh HX⟩
  case round =>
   obtain ⟨rest, k, m, rfl, rfl, hkl, hrs, hwe, hkeep, hr⟩ := hrel
   cases rest with
   | nil =>
    simp only [SL.len, SL.size, depthS] at hkl hrs hwe
    have HK := hide hkeep
    clear hkeep hr
    have i1 : ¬ (k : Int) < (l.len : Int) := by omega
    go_wp2_with fail
    go_ret
    exact ⟨ret_int (by omega), uh HK⟩
   | cons op f ex th el rest =>
    obtain ⟨h1, h2, h3, h4, ⟨xv, h5, hxs⟩, ⟨tao, tcap, h6, h7, h8⟩, ⟨eao, ecap, g6, g7, g8⟩, h9⟩ := hr
    simp only [SL.len, SL.size, depthS] at hkl hrs hwe
    obtain ⟨rfl, hp⟩ := (uh HA) (by omega)
    have HTH : Hid (SlS Z wr b (.slice tao th.len tcap) th) := ⟨tao, tcap, rfl, h7, h8⟩
    have HEL : Hid (SlS Z wr b (.slice eao el.len ecap) el) := ⟨eao, ecap, rfl, g7, g8⟩
    obtain ⟨xao, xcap, xb, xoff, rfl, hxcap, hxa, hxx⟩ := hxs.open
    have HXX := hide hxx
    have HXA := hide hxa
    have HR := hide h9
    have HK := hide hkeep
    have HWE := hide hwe
    have i1 : (k : Int) < (l.len : Int) := by omega
    have i0 : (0 : Int) ≤ (k : Int) := by omega
    have HQT := hide (uh IH th (by omega) (by omega) wr b (.slice tao th.len tcap) (uh HTH))
    have HQE := fun (w' : World) (hk : Keeps (fun _ => False) wr w') => hide (uh IH el (by omega) (by omega) w' b (.slice eao el.len ecap) ((uh HEL).keepF hk))
    have hdt := depthS_le th
    have hde := depthS_le el
    have hdx := depthE_le ex
    have hxl := EL.len_le ex
    clear hkeep h2 h8 h9 hwe hxs g8 hxx hxa
    obtain ⟨DT, hDT⟩ : ∃ D, depthS th = D := ⟨_, rfl⟩
    obtain ⟨DE, hDE⟩ : ∃ D, depthS el = D := ⟨_, rfl⟩
    rw [hDT] at HQT HWE hdt
    simp only [hDE] at HQE
    rw [hDE] at HWE hde
    clear hDT hDE
    by_cases hte : (DT : Int) < (DE : Int)
    ·skip
     go_wp2_with (first
      | (go_at_call_of 158 (Value.slice tao th.len tcap); refine (uh HQT).mono ?_; rintro e w1 ⟨rfl, hk1⟩; have HK1 := hide hk1; have r4 := (hk1.cell h1 id).trans g6; clear hk1)
      | (go_at_call_of 158 (Value.slice eao el.len ecap); refine (uh (HQE _ (uh HK1))).mono ?_; rintro e w2 ⟨rfl, hk2⟩; have HK2 := hide ((uh HK1).trans hk2); clear hk2))
     go_loopw [5, 7] (fun a kk w4 => ∃ (xr : EL) (j A : Nat), a = .int .i64 A ∧ kk = .int .i64 j ∧ j + xr.len = ex.len ∧ xr.size ≤ ex.size ∧ max A (depthE xr) = max (depthE ex) (max DT DE) ∧ Keeps (fun _ => False) wr w4 ∧ ExIn Z w4 xr xb (xoff + j * 4)) (fun _ kk _ => ex.len - (intOf kk).toNat)
     case atStart => exact ⟨ex, 0, DE, rfl, rfl, by omega, Nat.le_refl _, by omega, uh HK2, by simpa using (uh HXX).keepF (uh HK2)⟩
     case round =>
      obtain ⟨xr, j, A, rfl, rfl, hjl, hjs, hja, hkeep, hr⟩ := hrel
      have r5 := (hkeep.cell h1 id).trans h5
      have HK4 := hide hkeep
      clear hkeep HK2
      cases xr with
      | nil =>
       simp only [EL.len, EL.size, depthE] at hjl hjs hja
       clear hr
       have j1 : ¬ (j : Int) < (ex.len : Int) := by omega
       by_cases hmA : (m : Int) < (A : Int) + 1
       ·go_wp2_with fail
        go_roundw
        case rel =>
         refine ⟨rest, k + 1, A + 1, rfl, by go_num, by omega, by omega, by have := uh HWE; omega, (uh HK).trans (uh HK4), ?_⟩
         rw [show off + (k + 1) * 5 = off + k * 5 + 5 by omega]
         exact (uh HR).keepF (uh HK4)
        case measure => simp [intOf]; omega
       ·go_wp2_with fail
        go_roundw
        case rel =>
         refine ⟨rest, k + 1, m, rfl, by go_num, by omega, by omega, by have := uh HWE; omega, (uh HK).trans (uh HK4), ?_⟩
         rw [show off + (k + 1) * 5 = off + k * 5 + 5 by omega]
         exact (uh HR).keepF (uh HK4)
        case measure => simp [intOf]; omega
      | cons op' n' s' kids xr =>
       obtain ⟨x1, x2, x3, x4, x5, ⟨kao, kcap, x6, x7, x8⟩, x9⟩ := hr
       simp only [EL.len, EL.size, depthE] at hjl hjs hja
       obtain ⟨rfl, hp'⟩ := (uh HXA) (by omega)
       have HKID : Hid (SlE Z wr xb (.slice kao kids.len kcap) kids) := ⟨kao, kcap, rfl, x7, x8⟩
       have HXR := hide x9
       have HJA := hide hja
       have j1 : (j : Int) < (ex.len : Int) := by omega
       have j0 : (0 : Int) ≤ (j : Int) := by omega
       have HKD := hide (depthExpr_v Z (kids.size + 1) kids (by omega) (by omega) op' n' s' wr xb (.slice kao kids.len kcap) (uh HKID))
       have hdk := depthE_le kids
       generalize hD : 1 + depthE kids = D at HKD HJA
       clear x2 x8 x9 hja
       by_cases hmd : (A : Int) < (D : Int)
       ·go_wp2_with (go_at_call 148; refine (uh HKD).mono ?_; rintro e w5 ⟨rfl, hk5⟩; have HK5 := hide hk5; clear hk5)
        go_roundw
        case rel =>
         refine ⟨xr, j + 1, D, rfl, by go_num, by omega, by omega, by have := uh HJA; omega, (uh HK4).trans (uh HK5), ?_⟩
         rw [show xoff + (j + 1) * 4 = xoff + j * 4 + 4 by omega]
         exact (uh HXR).keepF (uh HK5)
        case measure => simp [intOf]; omega
       ·go_wp2_with (go_at_call 148; refine (uh HKD).mono ?_; rintro e w5 ⟨rfl, hk5⟩; have HK5 := hide hk5; clear hk5)
        go_roundw
        case rel =>
         refine ⟨xr, j + 1, A, rfl, by go_num, by omega, by omega, by have := uh HJA; omega, (uh HK4).trans (uh HK5), ?_⟩
         rw [show xoff + (j + 1) * 4 = xoff + j * 4 + 4 by omega]
         exact (uh HXR).keepF (uh HK5)
        case measure => simp [intOf]; omega
    ·have HTE := hide hte
     have hte2 : decide (DT < DE) = false := by simp; omega
     go_wp2_with (first
      | (go_at_call_of 158 (Value.slice tao th.len tcap); refine (uh HQT).mono ?_; rintro e w1 ⟨rfl, hk1⟩; have HK1 := hide hk1; have r4 := (hk1.cell h1 id).trans g6; clear hk1)
      | (go_at_call_of 158 (Value.slice eao el.len ecap); refine (uh (HQE _ (uh HK1))).mono ?_; rintro e w2 ⟨rfl, hk2⟩; have HK2 := hide ((uh HK1).trans hk2); clear hk2))
     clear hte
     go_loopw [5, 7] (fun a kk w4 => ∃ (xr : EL) (j A : Nat), a = .int .i64 A ∧ kk = .int .i64 j ∧ j + xr.len = ex.len ∧ xr.size ≤ ex.size ∧ max A (depthE xr) = max (depthE ex) (max DT DE) ∧ Keeps (fun _ => False) wr w4 ∧ ExIn Z w4 xr xb (xoff + j * 4)) (fun _ kk _ => ex.len - (intOf kk).toNat)
     case atStart => exact ⟨ex, 0, DT, rfl, rfl, by omega, Nat.le_refl _, by have := uh HTE; omega, uh HK2, by simpa using (uh HXX).keepF (uh HK2)⟩
     case round =>
      obtain ⟨xr, j, A, rfl, rfl, hjl, hjs, hja, hkeep, hr⟩ := hrel
      have r5 := (hkeep.cell h1 id).trans h5
      have HK4 := hide hkeep
      clear hkeep HK2
      cases xr with
      | nil =>
       simp only [EL.len, EL.size, depthE] at hjl hjs hja
       clear hr
       have j1 : ¬ (j : Int) < (ex.len : Int) := by omega
       by_cases hmA : (m : Int) < (A : Int) + 1
       ·go_wp2_with fail
        go_roundw
        case rel =>
         refine ⟨rest, k + 1, A + 1, rfl, by go_num, by omega, by omega, by have := uh HWE; omega, (uh HK).trans (uh HK4), ?_⟩
         rw [show off + (k + 1) * 5 = off + k * 5 + 5 by omega]
         exact (uh HR).keepF (uh HK4)
        case measure => simp [intOf]; omega
       ·go_wp2_with fail
        go_roundw
        case rel =>
         refine ⟨rest, k + 1, m, rfl, by go_num, by omega, by omega, by have := uh HWE; omega, (uh HK).trans (uh HK4), ?_⟩
         rw [show off + (k + 1) * 5 = off + k * 5 + 5 by omega]
         exact (uh HR).keepF (uh HK4)
        case measure => simp [intOf]; omega
      | cons op' n' s' kids xr =>
       obtain ⟨x1, x2, x3, x4, x5, ⟨kao, kcap, x6, x7, x8⟩, x9⟩ := hr
       simp only [EL.len, EL.size, depthE] at hjl hjs hja
       obtain ⟨rfl, hp'⟩ := (uh HXA) (by omega)
       have HKID : Hid (SlE Z wr xb (.slice kao kids.len kcap) kids) := ⟨kao, kcap, rfl, x7, x8⟩
       have HXR := hide x9
       have HJA := hide hja
       have j1 : (j : Int) < (ex.len : Int) := by omega
       have j0 : (0 : Int) ≤ (j : Int) := by omega
       have HKD := hide (depthExpr_v Z (kids.size + 1) kids (by omega) (by omega) op' n' s' wr xb (.slice kao kids.len kcap) (uh HKID))
       have hdk := depthE_le kids
       generalize hD : 1 + depthE kids = D at HKD HJA
       clear x2 x8 x9 hja
       by_cases hmd : (A : Int) < (D : Int)
       ·go_wp2_with (go_at_call 148; refine (uh HKD).mono ?_; rintro e w5 ⟨rfl, hk5⟩; have HK5 := hide hk5; clear hk5)
        go_roundw
        case rel =>
         refine ⟨xr, j + 1, D, rfl, by go_num, by omega, by omega, by have := uh HJA; omega, (uh HK4).trans (uh HK5), ?_⟩
         rw [show xoff + (j + 1) * 4 = xoff + j * 4 + 4 by omega]
         exact (uh HXR).keepF (uh HK5)
        case measure => simp [intOf]; omega
       ·go_wp2_with (go_at_call 148; refine (uh HKD).mono ?_; rintro e w5 ⟨rfl, hk5⟩; have HK5 := hide hk5; clear hk5)
        go_roundw
        case rel =>
         refine ⟨xr, j + 1, A, rfl, by go_num, by omega, by omega, by have := uh HJA; omega, (uh HK4).trans (uh HK5), ?_⟩
         rw [show xoff + (j + 1) * 4 = xoff + j * 4 + 4 by omega]
         exact (uh HXR).keepF (uh HK5)
        case measure => simp [intOf]; omega
end Go.Proofs.YtiinohibmcefkaaGreatDoor
