import Derived.Test.YtlnkleicnkfkpaaDoorEt
namespace Go.Proofs.YtlnkleicnkfkpaaDoor
open Go.RowKit Go.Maps

set_option maxRecDepth 100000 in
set_option maxHeartbeats 1600000 in
theorem wellStmt_5 (Z : Zone) (op : Int) (hop : op = 5) (f : Txt) (ex : EL) (th el : SL) (_hsz : ex.size ≤ 2147483647) (w : World) (up : Nat) (xv : Value) (tao eao : Option Addr) (tcap ecap : Nat) (hX : SlE Z w up xv ex) :
    Calls Tryd.prog 40 #[stV op f xv (.slice tao th.len tcap) (.slice eao el.len ecap)] w fun e w' => e = .returned (.bool (stmtB op f ex th el)) ∧ Keeps (fun _ => False) w w' := by
  subst hop
  rw [stmtB_5 f ex th el]
  obtain ⟨xao, xcap, xb, xoff, rfl, hxcap, hxa, hxx⟩ := hX.open
  obtain ⟨HB, hxb, hxc⟩ := boxedT w #[.int .i64 5, str f, .slice xao ex.len xcap, .slice tao th.len tcap, .slice eao el.len ecap] 51
  have c0 := hxc 0 (.int .i64 5) rfl
  have c1 := hxc 1 (str f) rfl
  have c2 := hxc 2 (.slice xao ex.len xcap) rfl
  have c3 := hxc 3 (.slice tao th.len tcap) rfl
  have c4 := hxc 4 (.slice eao el.len ecap) rfl
  clear hxc
  have HN := hide (isName_v f)
  clear hX hxx hxa
  cases hnm : nameB f with
  | false =>
    rw [hnm] at HN
    rw [Bool.false_and]
    go_enter Tryd.func40, Tryd.ntmps40
    go_wp2_with (go_at_call 56; refine (unhide HN _).mono ?_; rintro e w1 ⟨rfl, rfl⟩)
    go_ret
    exact ⟨rfl, unhide HB⟩
  | true =>
    rw [hnm] at HN
    rw [Bool.true_and]
    go_enter Tryd.func40, Tryd.ntmps40
    go_wp2_with (go_at_call 56; refine (unhide HN _).mono ?_; rintro e w1 ⟨rfl, rfl⟩)
    all_goals (go_ret; refine ⟨ret_bool ?_, (Keeps.alloc (Keeps.refl _ w) _)⟩; clear HN HB c0 c1 c2 c3 c4 hxb; first | (simp_all; done) | (simp_all; omega) | (simp_all; rw [Bool.eq_iff_iff]; simp; done) | (simp_all; rw [Bool.eq_iff_iff]; simp; omega))

set_option maxRecDepth 100000 in
set_option maxHeartbeats 1600000 in
theorem wellStmt_67 (Z : Zone) (op : Int) (hop : op = 6 ∨ op = 7) (f : Txt) (ex : EL) (th el : SL) (_hsz : ex.size ≤ 2147483647) (w : World) (up : Nat) (xv : Value) (tao eao : Option Addr) (tcap ecap : Nat) (hX : SlE Z w up xv ex) :
    Calls Tryd.prog 40 #[stV op f xv (.slice tao th.len tcap) (.slice eao el.len ecap)] w fun e w' => e = .returned (.bool (stmtB op f ex th el)) ∧ Keeps (fun _ => False) w w' := by
  rw [stmtB_67 op f ex th el hop]
  obtain ⟨xao, xcap, xb, xoff, rfl, hxcap, hxa, hxx⟩ := hX.open
  obtain ⟨HB, hxb, hxc⟩ := boxedT w #[.int .i64 op, str f, .slice xao ex.len xcap, .slice tao th.len tcap, .slice eao el.len ecap] 51
  have c0 := hxc 0 (.int .i64 op) rfl
  have c1 := hxc 1 (str f) rfl
  have c2 := hxc 2 (.slice xao ex.len xcap) rfl
  have c3 := hxc 3 (.slice tao th.len tcap) rfl
  have c4 := hxc 4 (.slice eao el.len ecap) rfl
  clear hxc
  clear hX hxx hxa
  cases f with
  | nil =>
    rw [decide_eq_true rfl, Bool.true_and]
    rcases hop with rfl | rfl
    all_goals
      go_enter Tryd.func40, Tryd.ntmps40
      go_wp2_with fail
      all_goals (go_ret; refine ⟨ret_bool ?_, (Keeps.alloc (Keeps.refl _ w) _)⟩; clear HB c0 c1 c2 c3 c4 hxb; first | (simp_all; done) | (simp_all; omega) | (simp_all; rw [Bool.eq_iff_iff]; simp; done) | (simp_all; rw [Bool.eq_iff_iff]; simp; omega))
  | cons fc fr =>
    rw [decide_eq_false (by simp), Bool.false_and]
    rcases hop with rfl | rfl
    all_goals
      go_enter Tryd.func40, Tryd.ntmps40
      go_wp2_with fail
      all_goals (go_ret; exact ⟨rfl, unhide HB⟩)

set_option maxRecDepth 100000 in
set_option maxHeartbeats 1600000 in
theorem wellStmt_no (Z : Zone) (op : Int) (hop : op < 1 ∨ 8 < op) (f : Txt) (ex : EL) (th el : SL) (_hsz : ex.size ≤ 2147483647) (w : World) (up : Nat) (xv : Value) (tao eao : Option Addr) (tcap ecap : Nat) (hX : SlE Z w up xv ex) :
    Calls Tryd.prog 40 #[stV op f xv (.slice tao th.len tcap) (.slice eao el.len ecap)] w fun e w' => e = .returned (.bool (stmtB op f ex th el)) ∧ Keeps (fun _ => False) w w' := by
  rw [stmtB_no op f ex th el hop]
  obtain ⟨xao, xcap, xb, xoff, rfl, hxcap, hxa, hxx⟩ := hX.open
  obtain ⟨HB, hxb, hxc⟩ := boxedT w #[.int .i64 op, str f, .slice xao ex.len xcap, .slice tao th.len tcap, .slice eao el.len ecap] 51
  have c0 := hxc 0 (.int .i64 op) rfl
  have c1 := hxc 1 (str f) rfl
  have c2 := hxc 2 (.slice xao ex.len xcap) rfl
  have c3 := hxc 3 (.slice tao th.len tcap) rfl
  have c4 := hxc 4 (.slice eao el.len ecap) rfl
  clear hxc
  clear hX hxx hxa
  have d1 : (op == 1) = false := by simp; omega
  have d2 : (op == 2) = false := by simp; omega
  have d3 : (op == 3) = false := by simp; omega
  have d4 : (op == 4) = false := by simp; omega
  have d5 : (op == 5) = false := by simp; omega
  have d6 : (op == 6) = false := by simp; omega
  have d7 : (op == 7) = false := by simp; omega
  have d8 : (op == 8) = false := by simp; omega
  go_enter Tryd.func40, Tryd.ntmps40
  go_wp2_with fail
  all_goals (go_ret; exact ⟨rfl, unhide HB⟩)
end Go.Proofs.YtlnkleicnkfkpaaDoor
