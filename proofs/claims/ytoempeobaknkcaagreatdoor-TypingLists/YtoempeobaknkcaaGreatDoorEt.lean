import Derived.Test.YtoempeobaknkcaaGreatDoorJyaj
namespace Go.Proofs.YtoempeobaknkcaaGreatDoor
open Go.RowKit Go.Maps

/-- Is a statement well made? -/
def stmtB (op : Int) (f : Txt) (ex : EL) (th el : SL) : Bool := headS op f ex.len th.len el.len && (wellE ex && (wellS th && wellS el))
theorem wellS_cons (op : Int) (f : Txt) (ex : EL) (th el r : SL) : wellS (.cons op f ex th el r) = (stmtB op f ex th el && wellS r) := by
  simp only [wellS, stmtB, Bool.and_assoc]
theorem zero_th (th : SL) : (decide (th.len = 0) && wellS th) = decide (th.len = 0) := by
  cases th with
  | nil => rfl
  | cons o f x t e r => simp [SL.len]
theorem zero_ex (ex : EL) : (decide (ex.len = 0) && wellE ex) = decide (ex.len = 0) := by
  cases ex with
  | nil => rfl
  | cons o n s k r => simp [EL.len]
theorem and4 (a b c d e f g : Bool) (h1 : (c && f) = c) (h2 : (d && g) = d) : (a && (b && (c && d)) && (e && (f && g))) = (a && (b && (e && (c && d)))) := by
  cases a <;> cases b <;> cases c <;> cases d <;> cases e <;> cases f <;> cases g <;> simp_all
theorem and5 (a b c d e f g : Bool) (h1 : (c && f) = c) (h2 : (d && g) = d) (h3 : (b && e) = b) : (a && (b && (c && d)) && (e && (f && g))) = (a && (b && (c && d))) := by
  cases a <;> cases b <;> cases c <;> cases d <;> cases e <;> cases f <;> cases g <;> simp_all
theorem stmtB_14 (op : Int) (f : Txt) (ex : EL) (th el : SL) (h : op = 1 ∨ op = 2 ∨ op = 3 ∨ op = 4) : stmtB op f ex th el = (nameB f && (decide (ex.len = 1) && (wellE ex && (decide (th.len = 0) && decide (el.len = 0))))) := by
  unfold stmtB headS
  rw [if_pos h, and4 _ _ _ _ _ _ _ (zero_th th) (zero_th el)]
theorem stmtB_5 (f : Txt) (ex : EL) (th el : SL) : stmtB 5 f ex th el = (nameB f && (decide (ex.len = 0) && (decide (th.len = 0) && decide (el.len = 0)))) := by
  unfold stmtB headS
  rw [if_neg (by omega), if_pos rfl, and5 _ _ _ _ _ _ _ (zero_th th) (zero_th el) (zero_ex ex)]
theorem stmtB_67 (op : Int) (f : Txt) (ex : EL) (th el : SL) (h : op = 6 ∨ op = 7) : stmtB op f ex th el = (decide (f = []) && (decide (ex.len = 0) && (decide (th.len = 0) && decide (el.len = 0)))) := by
  unfold stmtB headS
  rw [if_neg (by omega), if_neg (by omega), if_pos h, and5 _ _ _ _ _ _ _ (zero_th th) (zero_th el) (zero_ex ex)]
theorem stmtB_8 (f : Txt) (ex : EL) (th el : SL) : stmtB 8 f ex th el = (decide (f = []) && (decide (ex.len = 1) && (wellE ex && (wellS th && wellS el)))) := by
  unfold stmtB headS
  rw [if_neg (by omega), if_neg (by omega), if_neg (by omega), if_pos rfl, Bool.and_assoc]
theorem stmtB_no (op : Int) (f : Txt) (ex : EL) (th el : SL) (h : op < 1 ∨ 8 < op) : stmtB op f ex th el = false := by
  unfold stmtB headS
  rw [if_neg (by omega), if_neg (by omega), if_neg (by omega), if_neg (by omega), Bool.false_and]

set_option maxRecDepth 100000 in
set_option maxHeartbeats 1600000 in
theorem wellStmt_14 (Z : Zone) (op : Int) (hop : op = 1 ∨ op = 2 ∨ op = 3 ∨ op = 4) (f : Txt) (ex : EL) (th el : SL) (hsz : ex.size ≤ 4294967294) (w : World) (up : Nat) (xv : Value) (tao eao : Option Addr) (tcap ecap : Nat) (hX : SlE Z w up xv ex) :
    Calls Tryz.prog 86 #[stV op f xv (.slice tao th.len tcap) (.slice eao el.len ecap)] w fun e w' => e = .returned (.bool (stmtB op f ex th el)) ∧ Keeps (fun _ => False) w w' := by
  rw [stmtB_14 op f ex th el hop]
  obtain ⟨xao, xcap, xb, xoff, rfl, hxcap, hxa, hxx⟩ := hX.open
  obtain ⟨HB, hxb, hxc⟩ := boxedT w #[.int .i64 op, str f, .slice xao ex.len xcap, .slice tao th.len tcap, .slice eao el.len ecap] 53
  have c0 := hxc 0 (.int .i64 op) rfl
  have c1 := hxc 1 (str f) rfl
  have c2 := hxc 2 (.slice xao ex.len xcap) rfl
  have c3 := hxc 3 (.slice tao th.len tcap) rfl
  have c4 := hxc 4 (.slice eao el.len ecap) rfl
  have HN := hide (isName_v f)
  clear hxc
  cases hnm : nameB f with
  | false =>
    rw [hnm] at HN
    rw [Bool.false_and]
    clear hX hxx hxa
    rcases hop with rfl | rfl | rfl | rfl
    all_goals
      go_enter Tryz.func86, Tryz.ntmps86
      go_wp2_with (go_at_call 102; refine (unhide HN _).mono ?_; rintro e w1 ⟨rfl, rfl⟩)
      go_ret
      exact ⟨rfl, unhide HB⟩
  | true =>
    rw [hnm] at HN
    rw [Bool.true_and]
    by_cases hx1 : ex.len = 1
    · match ex, hx1 with
      | .cons xo xn xs xk .nil, _ =>
        obtain ⟨rfl, hp⟩ := hxa (by simp [EL.len])
        obtain ⟨h1, h2, h3, h4, h5, ⟨kao, kcap, h6, h7, h8⟩, h9⟩ := hxx
        have HW := hide (wellExpr_v Z (xk.size + 1) xk (by omega) (by simp [EL.size] at hsz; omega) xo xn xs (w.alloc (.cells #[.int .i64 op, str f, .slice (some ⟨xb, xoff, none⟩) (EL.cons xo xn xs xk .nil).len xcap, .slice tao th.len tcap, .slice eao el.len ecap] 53)) xb (.slice kao xk.len kcap) (SlE.keepF ⟨kao, kcap, rfl, h7, h8⟩ (unhide HB)))
        have e3 := ((unhide HB).cell h1 id).trans h3
        have e4 := ((unhide HB).cell h1 id).trans h4
        have e5 := ((unhide HB).cell h1 id).trans h5
        have e6 := ((unhide HB).cell h1 id).trans h6
        have ewe : wellE (EL.cons xo xn xs xk .nil) = (rootB xo xn xs xk.len && wellE xk) := by simp [wellE]
        have el1 : (EL.cons xo xn xs xk .nil).len = 1 := rfl
        rw [ewe, el1, decide_eq_true rfl, Bool.true_and]
        simp only [el1] at HW c0 c1 c2 c3 c4 hxb HB e3 e4 e5 e6
        clear hX h2 h8 h9 h3 h4 h5 h6 hxa ewe
        cases hv : (rootB xo xn xs xk.len && wellE xk) with
        | false =>
          rw [hv] at HW
          rw [Bool.false_and]
          rcases hop with rfl | rfl | rfl | rfl
          all_goals
            go_enter Tryz.func86, Tryz.ntmps86
            go_wp2_with (first
              | (go_at_call 102; refine (unhide HN _).mono ?_; rintro e w1 ⟨rfl, rfl⟩)
              | (go_at_call 103; refine (unhide HW).mono ?_; rintro e w2 ⟨rfl, hk2⟩; have HK2 := hide hk2; clear hk2))
            go_ret
            exact ⟨rfl, (unhide HB).trans (unhide HK2)⟩
        | true =>
          rw [hv] at HW
          rw [Bool.true_and]
          rcases hop with rfl | rfl | rfl | rfl
          all_goals
            go_enter Tryz.func86, Tryz.ntmps86
            go_wp2_with (first
              | (go_at_call 102; refine (unhide HN _).mono ?_; rintro e w1 ⟨rfl, rfl⟩)
              | (go_at_call 103; refine (unhide HW).mono ?_; rintro e w2 ⟨rfl, hk2⟩; have HK2 := hide hk2; have r0 := (hk2.cell (o := 0) hxb id).trans c0; have r3 := (hk2.cell (o := 3) hxb id).trans c3; have r4 := (hk2.cell (o := 4) hxb id).trans c4; clear hk2))
            all_goals (go_ret; refine ⟨ret_bool ?_, (Keeps.alloc (Keeps.refl _ w) _).trans (unhide HK2)⟩; clear HB c0 c1 c2 c3 c4 HN hxb e3 e4 e5 e6 HW r0 r3 r4 HK2; first | (simp_all; done) | (simp_all; omega) | (simp_all; rw [Bool.eq_iff_iff]; simp; done) | (simp_all; rw [Bool.eq_iff_iff]; simp; omega))
    · rw [decide_eq_false hx1, Bool.false_and]
      have d1 : ((ex.len : Int) != 1) = true := by simp; omega
      clear hX hxx hxa
      rcases hop with rfl | rfl | rfl | rfl
      all_goals
        go_enter Tryz.func86, Tryz.ntmps86
        go_wp2_with (go_at_call 102; refine (unhide HN _).mono ?_; rintro e w1 ⟨rfl, rfl⟩)
        go_ret
        exact ⟨rfl, unhide HB⟩
end Go.Proofs.YtoempeobaknkcaaGreatDoor
