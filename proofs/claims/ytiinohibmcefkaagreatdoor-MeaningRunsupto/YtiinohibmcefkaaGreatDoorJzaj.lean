import Derived.Test.YtiinohibmcefkaaGreatDoorJzai
import Derived.Test.YtiinohibmcefkaaGreatDoorKg
import Derived.Test.YtiinohibmcefkaaGreatDoorJag
import Derived.Test.YtiinohibmcefkaaGreatDoorJac
import Derived.Test.YtiinohibmcefkaaGreatDoorKh
namespace Go.Proofs.YtiinohibmcefkaaGreatDoor
open Go.RowKit Go.Maps
set_option maxRecDepth 100000
set_option maxHeartbeats 1600000
def stmtB (op : Int) (f : Txt) (ex : EL) (th el : SL) : Bool := headS op f ex.len th.len el.len && (wellE ex && (wellS th && wellS el))
theorem wellS_cons (op : Int) (f : Txt) (ex : EL) (th el r : SL) : wellS (.cons op f ex th el r) = (stmtB op f ex th el && wellS r) := by
 simp only [wellS, stmtB, Bool.and_assoc]
theorem zero_th (th : SL) : (decide (th.len = 0) && wellS th) = decide (th.len = 0) := by
 cases th with
 | nil => rfl
 | cons o f x t e r => simp [SL.len]
theorem zero_ex (ex : EL) : (decide (ex.len = 0) && wellE ex) = decide (ex.len = 0) := by
 cases ex with
 | nil => rfl
 | cons o n s k r => simp [EL.len]
theorem and4 (a b c d e f g : Bool) (h1 : (c && f) = c) (h2 : (d && g) = d) : (a && (b && (c && d)) && (e && (f && g))) = (a && (b && (e && (c && d)))) := by
 cases a <;> cases b <;> cases c <;> cases d <;> cases e <;> cases f <;> cases g <;> simp_all
theorem and5 (a b c d e f g : Bool) (h1 : (c && f) = c) (h2 : (d && g) = d) (h3 : (b && e) = b) : (a && (b && (c && d)) && (e && (f && g))) = (a && (b && (c && d))) := by
 cases a <;> cases b <;> cases c <;> cases d <;> cases e <;> cases f <;> cases g <;> simp_all
theorem stmtB_14 (op : Int) (f : Txt) (ex : EL) (th el : SL) (h : op = 1 ∨ op = 2 ∨ op = 3 ∨ op = 4) : stmtB op f ex th el = (nameB f && (decide (ex.len = 1) && (wellE ex && (decide (th.len = 0) && decide (el.len = 0))))) := by
 unfold stmtB headS
 rw [if_pos h, and4 _ _ _ _ _ _ _ (zero_th th) (zero_th el)]
theorem stmtB_5 (f : Txt) (ex : EL) (th el : SL) : stmtB 5 f ex th el = (nameB f && (decide (ex.len = 0) && (decide (th.len = 0) && decide (el.len = 0)))) := by
 unfold stmtB headS
 rw [if_neg (by omega), if_pos rfl, and5 _ _ _ _ _ _ _ (zero_th th) (zero_th el) (zero_ex ex)]
theorem stmtB_67 (op : Int) (f : Txt) (ex : EL) (th el : SL) (h : op = 6 ∨ op = 7) : stmtB op f ex th el = (decide (f = []) && (decide (ex.len = 0) && (decide (th.len = 0) && decide (el.len = 0)))) := by
 unfold stmtB headS
 rw [if_neg (by omega), if_neg (by omega), if_pos h, and5 _ _ _ _ _ _ _ (zero_th th) (zero_th el) (zero_ex ex)]
theorem stmtB_8 (f : Txt) (ex : EL) (th el : SL) : stmtB 8 f ex th el = (decide (f = []) && (decide (ex.len = 1) && (wellE ex && (wellS th && wellS el)))) := by
 unfold stmtB headS
 rw [if_neg (by omega), if_neg (by omega), if_neg (by omega), if_pos rfl, Bool.and_assoc]
theorem stmtB_no (op : Int) (f : Txt) (ex : EL) (th el : SL) (h : op < 1 ∨ 8 < op) : stmtB op f ex th el = false := by
 unfold stmtB headS
 rw [if_neg (by omega), if_neg (by omega), if_neg (by omega), if_neg (by omega), Bool.false_and]
theorem wellStmt_14 (Z : Zone) (op : Int) (hop : op = 1 ∨ op = 2 ∨ op = 3 ∨ op = 4) (f : Txt) (ex : EL) (th el : SL) (hsz : ex.size ≤ 4294967294) (w : World) (up : Nat) (xv : Value) (tao eao : Option Addr) (tcap ecap : Nat) (hX : SlE Z w up xv ex) :
  Calls Tryz.prog 200 #[stV op f xv (.slice tao th.len tcap) (.slice eao el.len ecap)] w fun e w' => e = .returned (.bool (stmtB op f ex th el)) ∧ Keeps (fun _ => False) w w' := by
 rw [stmtB_14 op f ex th el hop]
 obtain ⟨xao, xcap, xb, xoff, rfl, hxcap, hxa, hxx⟩ := hX.open
 obtain ⟨HB, hxb, hxc⟩ := boxedT w #[.int .i64 op, str f, .slice xao ex.len xcap, .slice tao th.len tcap, .slice eao el.len ecap] 39
 have c0 := hxc 0 (.int .i64 op) rfl
 have c1 := hxc 1 (str f) rfl
 have c2 := hxc 2 (.slice xao ex.len xcap) rfl
 have c3 := hxc 3 (.slice tao th.len tcap) rfl
 have c4 := hxc 4 (.slice eao el.len ecap) rfl
 have HN := hide (isName_v f)
 clear hxc
 cases hnm : nameB f with
 | false =>
  rw [hnm] at HN
  rw [Bool.false_and]
  clear hX hxx hxa
  rcases hop with rfl | rfl | rfl | rfl
  all_goals
   go_enter Tryz.func200, Tryz.ntmps200
   go_wp2_with (go_at_call 218; refine (uh HN _).mono ?_; rintro e w1 ⟨rfl, rfl⟩)
   go_ret
   exact ⟨rfl, uh HB⟩
 | true =>
  rw [hnm] at HN
  rw [Bool.true_and]
  by_cases hx1 : ex.len = 1
  ·match ex, hx1 with
   | .cons xo xn xs xk .nil, _ =>
    obtain ⟨rfl, hp⟩ := hxa (by simp [EL.len])
    obtain ⟨h1, h2, h3, h4, h5, ⟨kao, kcap, h6, h7, h8⟩, h9⟩ := hxx
    have HW := hide (wellExpr_v Z (xk.size + 1) xk (by omega) (by simp [EL.size] at hsz; omega) xo xn xs (w.alloc (.cells #[.int .i64 op, str f, .slice (some ⟨xb, xoff, none⟩) (EL.cons xo xn xs xk .nil).len xcap, .slice tao th.len tcap, .slice eao el.len ecap] 39)) xb (.slice kao xk.len kcap) (SlE.keepF ⟨kao, kcap, rfl, h7, h8⟩ (uh HB)))
    have e3 := ((uh HB).cell h1 id).trans h3
    have e4 := ((uh HB).cell h1 id).trans h4
    have e5 := ((uh HB).cell h1 id).trans h5
    have e6 := ((uh HB).cell h1 id).trans h6
    have ewe : wellE (EL.cons xo xn xs xk .nil) = (rootB xo xn xs xk.len && wellE xk) := by simp [wellE]
    have el1 : (EL.cons xo xn xs xk .nil).len = 1 := rfl
    rw [ewe, el1, decide_eq_true rfl, Bool.true_and]
    simp only [el1] at HW c0 c1 c2 c3 c4 hxb HB e3 e4 e5 e6
    clear hX h2 h8 h9 h3 h4 h5 h6 hxa ewe
    cases hv : (rootB xo xn xs xk.len && wellE xk) with
    | false =>
     rw [hv] at HW
     rw [Bool.false_and]
     rcases hop with rfl | rfl | rfl | rfl
     all_goals
      go_enter Tryz.func200, Tryz.ntmps200
      go_wp2_with (first
       | (go_at_call 218; refine (uh HN _).mono ?_; rintro e w1 ⟨rfl, rfl⟩)
       | (go_at_call 147; refine (uh HW).mono ?_; rintro e w2 ⟨rfl, hk2⟩; have HK2 := hide hk2; clear hk2))
      go_ret
      exact ⟨rfl, (uh HB).trans (uh HK2)⟩
    | true =>
     rw [hv] at HW
     rw [Bool.true_and]
     rcases hop with rfl | rfl | rfl | rfl
     all_goals
      go_enter Tryz.func200, Tryz.ntmps200
      go_wp2_with (first
       | (go_at_call 218; refine (uh HN _).mono ?_; rintro e w1 ⟨rfl, rfl⟩)
       | (go_at_call 147; refine (uh HW).mono ?_; rintro e w2 ⟨rfl, hk2⟩; have HK2 := hide hk2; have r0 := (hk2.cell (o := 0) hxb id).trans c0; have r3 := (hk2.cell (o := 3) hxb id).trans c3; have r4 := (hk2.cell (o := 4) hxb id).trans c4; clear hk2))
      all_goals (go_ret; refine ⟨ret_bool ?_, (Keeps.alloc (Keeps.refl _ w) _).trans (uh HK2)⟩; clear HB c0 c1 c2 c3 c4 HN hxb e3 e4 e5 e6 HW r0 r3 r4 HK2; first | (simp_all; done) | (simp_all; omega) | (simp_all; rw [Bool.eq_iff_iff]; simp; done) | (simp_all; rw [Bool.eq_iff_iff]; simp; omega))
  ·rw [decide_eq_false hx1, Bool.false_and]
   have d1 : ((ex.len : Int) != 1) = true := by simp; omega
   clear hX hxx hxa
   rcases hop with rfl | rfl | rfl | rfl
   all_goals
    go_enter Tryz.func200, Tryz.ntmps200
    go_wp2_with (go_at_call 218; refine (uh HN _).mono ?_; rintro e w1 ⟨rfl, rfl⟩)
    go_ret
    exact ⟨rfl, uh HB⟩
end Go.Proofs.YtiinohibmcefkaaGreatDoor
namespace Go.Proofs.YtiinohibmcefkaaGreatDoor
open Go.RowKit Go.Maps
set_option maxRecDepth 100000
set_option maxHeartbeats 1600000
theorem wellStmt_5 (Z : Zone) (op : Int) (hop : op = 5) (f : Txt) (ex : EL) (th el : SL) (_hsz : ex.size ≤ 4294967294) (w : World) (up : Nat) (xv : Value) (tao eao : Option Addr) (tcap ecap : Nat) (hX : SlE Z w up xv ex) :
  Calls Tryz.prog 200 #[stV op f xv (.slice tao th.len tcap) (.slice eao el.len ecap)] w fun e w' => e = .returned (.bool (stmtB op f ex th el)) ∧ Keeps (fun _ => False) w w' := by
 subst hop
 rw [stmtB_5 f ex th el]
 obtain ⟨xao, xcap, xb, xoff, rfl, hxcap, hxa, hxx⟩ := hX.open
 obtain ⟨HB, hxb, hxc⟩ := boxedT w #[.int .i64 5, str f, .slice xao ex.len xcap, .slice tao th.len tcap, .slice eao el.len ecap] 39
 have c0 := hxc 0 (.int .i64 5) rfl
 have c1 := hxc 1 (str f) rfl
 have c2 := hxc 2 (.slice xao ex.len xcap) rfl
 have c3 := hxc 3 (.slice tao th.len tcap) rfl
 have c4 := hxc 4 (.slice eao el.len ecap) rfl
 clear hxc
 have HN := hide (isName_v f)
 clear hX hxx hxa
 cases hnm : nameB f with
 | false =>
  rw [hnm] at HN
  rw [Bool.false_and]
  go_enter Tryz.func200, Tryz.ntmps200
  go_wp2_with (go_at_call 218; refine (uh HN _).mono ?_; rintro e w1 ⟨rfl, rfl⟩)
  go_ret
  exact ⟨rfl, uh HB⟩
 | true =>
  rw [hnm] at HN
  rw [Bool.true_and]
  go_enter Tryz.func200, Tryz.ntmps200
  go_wp2_with (go_at_call 218; refine (uh HN _).mono ?_; rintro e w1 ⟨rfl, rfl⟩)
  all_goals (go_ret; refine ⟨ret_bool ?_, (Keeps.alloc (Keeps.refl _ w) _)⟩; clear HN HB c0 c1 c2 c3 c4 hxb; first | (simp_all; done) | (simp_all; omega) | (simp_all; rw [Bool.eq_iff_iff]; simp; done) | (simp_all; rw [Bool.eq_iff_iff]; simp; omega))
theorem wellStmt_67 (Z : Zone) (op : Int) (hop : op = 6 ∨ op = 7) (f : Txt) (ex : EL) (th el : SL) (_hsz : ex.size ≤ 4294967294) (w : World) (up : Nat) (xv : Value) (tao eao : Option Addr) (tcap ecap : Nat) (hX : SlE Z w up xv ex) :
  Calls Tryz.prog 200 #[stV op f xv (.slice tao th.len tcap) (.slice eao el.len ecap)] w fun e w' => e = .returned (.bool (stmtB op f ex th el)) ∧ Keeps (fun _ => False) w w' := by
 rw [stmtB_67 op f ex th el hop]
 obtain ⟨xao, xcap, xb, xoff, rfl, hxcap, hxa, hxx⟩ := hX.open
 obtain ⟨HB, hxb, hxc⟩ := boxedT w #[.int .i64 op, str f, .slice xao ex.len xcap, .slice tao th.len tcap, .slice eao el.len ecap] 39
 have c0 := hxc 0 (.int .i64 op) rfl
 have c1 := hxc 1 (str f) rfl
 have c2 := hxc 2 (.slice xao ex.len xcap) rfl
 have c3 := hxc 3 (.slice tao th.len tcap) rfl
 have c4 := hxc 4 (.slice eao el.len ecap) rfl
 clear hxc
 clear hX hxx hxa
 cases f with
 | nil =>
  rw [decide_eq_true rfl, Bool.true_and]
  rcases hop with rfl | rfl
  all_goals
   go_enter Tryz.func200, Tryz.ntmps200
   go_wp2_with fail
   all_goals (go_ret; refine ⟨ret_bool ?_, (Keeps.alloc (Keeps.refl _ w) _)⟩; clear HB c0 c1 c2 c3 c4 hxb; first | (simp_all; done) | (simp_all; omega) | (simp_all; rw [Bool.eq_iff_iff]; simp; done) | (simp_all; rw [Bool.eq_iff_iff]; simp; omega))
 | cons fc fr =>
  rw [decide_eq_false (by simp), Bool.false_and]
  rcases hop with rfl | rfl
  all_goals
   go_enter Tryz.func200, Tryz.ntmps200
   go_wp2_with fail
   all_goals (go_ret; exact ⟨rfl, uh HB⟩)
theorem wellStmt_no (Z : Zone) (op : Int) (hop : op < 1 ∨ 8 < op) (f : Txt) (ex : EL) (th el : SL) (_hsz : ex.size ≤ 4294967294) (w : World) (up : Nat) (xv : Value) (tao eao : Option Addr) (tcap ecap : Nat) (hX : SlE Z w up xv ex) :
  Calls Tryz.prog 200 #[stV op f xv (.slice tao th.len tcap) (.slice eao el.len ecap)] w fun e w' => e = .returned (.bool (stmtB op f ex th el)) ∧ Keeps (fun _ => False) w w' := by
 rw [stmtB_no op f ex th el hop]
 obtain ⟨xao, xcap, xb, xoff, rfl, hxcap, hxa, hxx⟩ := hX.open
 obtain ⟨HB, hxb, hxc⟩ := boxedT w #[.int .i64 op, str f, .slice xao ex.len xcap, .slice tao th.len tcap, .slice eao el.len ecap] 39
 have c0 := hxc 0 (.int .i64 op) rfl
 have c1 := hxc 1 (str f) rfl
 have c2 := hxc 2 (.slice xao ex.len xcap) rfl
 have c3 := hxc 3 (.slice tao th.len tcap) rfl
 have c4 := hxc 4 (.slice eao el.len ecap) rfl
 clear hxc
 clear hX hxx hxa
 have d1 : (op == 1) = false := by simp; omega
 have d2 : (op == 2) = false := by simp; omega
 have d3 : (op == 3) = false := by simp; omega
 have d4 : (op == 4) = false := by simp; omega
 have d5 : (op == 5) = false := by simp; omega
 have d6 : (op == 6) = false := by simp; omega
 have d7 : (op == 7) = false := by simp; omega
 have d8 : (op == 8) = false := by simp; omega
 go_enter Tryz.func200, Tryz.ntmps200
 go_wp2_with fail
 all_goals (go_ret; exact ⟨rfl, uh HB⟩)
end Go.Proofs.YtiinohibmcefkaaGreatDoor
namespace Go.Proofs.YtiinohibmcefkaaGreatDoor
open Go.RowKit Go.Maps
set_option maxRecDepth 100000
set_option maxHeartbeats 1600000
theorem wellStmt_8 (Z : Zone) (f : Txt) (ex : EL) (th el : SL) (hsz : ex.size ≤ 4294967294) (w : World) (up : Nat) (xv : Value) (tao eao : Option Addr) (tcap ecap : Nat) (hX : SlE Z w up xv ex)
  (hT : ∀ w', Keeps (fun _ => False) w w' → Calls Tryz.prog 156 #[.slice tao th.len tcap] w' fun e w'' => e = .returned (.bool (wellS th)) ∧ Keeps (fun _ => False) w' w'')
  (hE : ∀ w', Keeps (fun _ => False) w w' → Calls Tryz.prog 156 #[.slice eao el.len ecap] w' fun e w'' => e = .returned (.bool (wellS el)) ∧ Keeps (fun _ => False) w' w'') :
  Calls Tryz.prog 200 #[stV 8 f xv (.slice tao th.len tcap) (.slice eao el.len ecap)] w fun e w' => e = .returned (.bool (stmtB 8 f ex th el)) ∧ Keeps (fun _ => False) w w' := by
 rw [stmtB_8 f ex th el]
 obtain ⟨xao, xcap, xb, xoff, rfl, hxcap, hxa, hxx⟩ := hX.open
 obtain ⟨HB, hxb, hxc⟩ := boxedT w #[.int .i64 8, str f, .slice xao ex.len xcap, .slice tao th.len tcap, .slice eao el.len ecap] 39
 have c0 := hxc 0 (.int .i64 8) rfl
 have c1 := hxc 1 (str f) rfl
 have c2 := hxc 2 (.slice xao ex.len xcap) rfl
 have c3 := hxc 3 (.slice tao th.len tcap) rfl
 have c4 := hxc 4 (.slice eao el.len ecap) rfl
 have HT := hide hT
 have HE := hide hE
 clear hxc hT hE
 cases f with
 | cons fc fr =>
  rw [decide_eq_false (by simp), Bool.false_and]
  clear hX hxx hxa
  go_enter Tryz.func200, Tryz.ntmps200
  go_wp2_with fail
  go_ret
  exact ⟨rfl, uh HB⟩
 | nil =>
  rw [decide_eq_true rfl, Bool.true_and]
  by_cases hx1 : ex.len = 1
  ·match ex, hx1 with
   | .cons xo xn xs xk .nil, _ =>
    obtain ⟨rfl, hp⟩ := hxa (by simp [EL.len])
    obtain ⟨h1, h2, h3, h4, h5, ⟨kao, kcap, h6, h7, h8⟩, h9⟩ := hxx
    have HW := hide (wellExpr_v Z (xk.size + 1) xk (by omega) (by simp [EL.size] at hsz; omega) xo xn xs (w.alloc (.cells #[.int .i64 8, str [], .slice (some ⟨xb, xoff, none⟩) (EL.cons xo xn xs xk .nil).len xcap, .slice tao th.len tcap, .slice eao el.len ecap] 39)) xb (.slice kao xk.len kcap) (SlE.keepF ⟨kao, kcap, rfl, h7, h8⟩ (uh HB)))
    have e3 := ((uh HB).cell h1 id).trans h3
    have e4 := ((uh HB).cell h1 id).trans h4
    have e5 := ((uh HB).cell h1 id).trans h5
    have e6 := ((uh HB).cell h1 id).trans h6
    have ewe : wellE (EL.cons xo xn xs xk .nil) = (rootB xo xn xs xk.len && wellE xk) := by simp [wellE]
    have el1 : (EL.cons xo xn xs xk .nil).len = 1 := rfl
    rw [ewe, el1, decide_eq_true rfl, Bool.true_and]
    simp only [el1] at HW c0 c1 c2 c3 c4 hxb HB e3 e4 e5 e6
    clear hX h2 h8 h9 h3 h4 h5 h6 hxa ewe
    cases hv : (rootB xo xn xs xk.len && wellE xk) with
    | false =>
     rw [hv] at HW
     rw [Bool.false_and]
     go_enter Tryz.func200, Tryz.ntmps200
     go_wp2_with (go_at_call 147; refine (uh HW).mono ?_; rintro e w2 ⟨rfl, hk2⟩; have HK2 := hide hk2; clear hk2)
     go_ret
     exact ⟨rfl, (uh HB).trans (uh HK2)⟩
    | true =>
     rw [hv] at HW
     rw [Bool.true_and]
     generalize wellS th = bt at HT ⊢
     generalize wellS el = be at HE ⊢
     cases bt with
     | false =>
      rw [Bool.false_and]
      go_enter Tryz.func200, Tryz.ntmps200
      go_wp2_with (first
       | (go_at_call 147; refine (uh HW).mono ?_; rintro e w2 ⟨rfl, hk2⟩; have HK2 := hide hk2; have r0 := (hk2.cell (o := 0) hxb id).trans c0; have r3 := (hk2.cell (o := 3) hxb id).trans c3; have r4 := (hk2.cell (o := 4) hxb id).trans c4; clear hk2)
       | (go_at_call_of 156 (Value.slice tao th.len tcap); refine (uh HT _ ((uh HB).trans (uh HK2))).mono ?_; rintro e w3 ⟨rfl, hk3⟩; have HK3 := hide ((uh HK2).trans hk3); clear hk3))
      go_ret
      exact ⟨rfl, (uh HB).trans (uh HK3)⟩
     | true =>
      rw [Bool.true_and]
      go_enter Tryz.func200, Tryz.ntmps200
      go_wp2_with (first
       | (go_at_call 147; refine (uh HW).mono ?_; rintro e w2 ⟨rfl, hk2⟩; have HJ2 := hide hk2; have HK2 := hide hk2; have r0 := (hk2.cell (o := 0) hxb id).trans c0; have r3 := (hk2.cell (o := 3) hxb id).trans c3; clear hk2)
       | (go_at_call_of 156 (Value.slice tao th.len tcap); refine (uh HT _ ((uh HB).trans (uh HK2))).mono ?_; rintro e w3 ⟨rfl, hk3⟩; have HK3 := hide ((uh HK2).trans hk3); have r4 := ((uh HK3).cell (o := 4) hxb id).trans c4; clear hk3)
       | (go_at_call_of 156 (Value.slice eao el.len ecap); refine (uh HE _ ((uh HB).trans (uh HK3))).mono ?_; rintro e w4 ⟨rfl, hk4⟩; have HK4 := hide ((uh HK3).trans hk4); clear hk4))
      go_ret
      exact ⟨rfl, (uh HB).trans (uh HK4)⟩
  ·rw [decide_eq_false hx1, Bool.false_and]
   have d1 : ((ex.len : Int) != 1) = true := by simp; omega
   clear hX hxx hxa
   go_enter Tryz.func200, Tryz.ntmps200
   go_wp2_with fail
   go_ret
   exact ⟨rfl, uh HB⟩
theorem rWell_v (Z : Zone) (N : Nat) : ∀ (l : SL), l.size < N → l.size ≤ 4294967294 → ∀ (w : World) (up : Nat) (v : Value), SlS Z w up v l →
  Calls Tryz.prog 156 #[v] w fun e w' => e = .returned (.bool (wellS l)) ∧ Keeps (fun _ => False) w w' := by
 induction N with
 | zero => intro l h; omega
 | succ N ih =>
  intro l hsz hlen' w up v hS
  have hlen : l.len ≤ 4294967294 := by have := SL.len_le l; omega
  obtain ⟨ao, cap, b, off, rfl, hcap, ha, hx⟩ := hS.open
  have IH := hide ih
  have HX := hide hx
  have HA := hide ha
  clear hS ih hx ha
  go_enter Tryz.func156, Tryz.ntmps156
  go_wp2_with fail
  go_loopw [3] (fun i wr => ∃ (rest : SL) (k : Nat), i = .int .i64 k ∧ k + rest.len = l.len ∧ rest.size ≤ l.size ∧ wellS rest = wellS l ∧ Keeps (fun _ => False) w wr ∧ StIn Z wr rest b (off + k * 5)) (fun i _ => l.len - (intOf i).toNat)
  case atStart => exact ⟨l, 0, rfl, by omega, Nat.le_refl _, rfl, Keeps.refl _ _, by simpa using uh HX⟩
  case round =>
   obtain ⟨rest, k, rfl, hkl, hrs, hwe, hkeep, hr⟩ := hrel
   have HK := hide hkeep
   clear hkeep
   cases rest with
   | nil =>
    simp only [SL.len, SL.size, wellS] at hkl hrs hwe
    have HWE := hide hwe
    clear hr hwe
    have i1 : ¬ (k : Int) < (l.len : Int) := by omega
    go_wp2_with fail
    go_ret
    exact ⟨ret_bool (by first | exact uh HWE | exact (uh HWE).symm), uh HK⟩
   | cons op f ex th el rest =>
    obtain ⟨h1, h2, h3, h4, ⟨xv, h5, hxs⟩, ⟨tao, tcap, h6, h7, h8⟩, ⟨eao, ecap, g6, g7, g8⟩, h9⟩ := hr
    rw [wellS_cons] at hwe
    simp only [SL.len, SL.size] at hkl hrs
    obtain ⟨rfl, hp⟩ := (uh HA) (by omega)
    have HTH : Hid (SlS Z wr b (.slice tao th.len tcap) th) := ⟨tao, tcap, rfl, h7, h8⟩
    have HEL : Hid (SlS Z wr b (.slice eao el.len ecap) el) := ⟨eao, ecap, rfl, g7, g8⟩
    have HEX := hide hxs
    obtain ⟨xao, xcap, rfl, hxl⟩ := hxs.head
    have HR := hide h9
    have HWE := hide hwe
    have i1 : (k : Int) < (l.len : Int) := by omega
    have i0 : (0 : Int) ≤ (k : Int) := by omega
    have hst : Calls Tryz.prog 200 #[stV op f (.slice xao ex.len xcap) (.slice tao th.len tcap) (.slice eao el.len ecap)] wr fun e w' => e = .returned (.bool (stmtB op f ex th el)) ∧ Keeps (fun _ => False) wr w' := by
     by_cases q1 : op = 1 ∨ op = 2 ∨ op = 3 ∨ op = 4
     ·exact wellStmt_14 Z op q1 f ex th el (by omega) wr b _ tao eao tcap ecap (uh HEX)
     by_cases q5 : op = 5
     ·exact wellStmt_5 Z op q5 f ex th el (by omega) wr b _ tao eao tcap ecap (uh HEX)
     by_cases q6 : op = 6 ∨ op = 7
     ·exact wellStmt_67 Z op q6 f ex th el (by omega) wr b _ tao eao tcap ecap (uh HEX)
     by_cases q8 : op = 8
     ·subst q8
      exact wellStmt_8 Z f ex th el (by omega) wr b _ tao eao tcap ecap (uh HEX) (fun w' hk => uh IH th (by omega) (by omega) w' b _ ((uh HTH).keepF hk)) (fun w' hk => uh IH el (by omega) (by omega) w' b _ ((uh HEL).keepF hk))
     ·exact wellStmt_no Z op (by omega) f ex th el (by omega) wr b _ tao eao tcap ecap (uh HEX)
    have HST := hide hst
    clear h2 h8 h9 hwe hxs g8 hst
    generalize stmtB op f ex th el = bs at HST HWE
    cases bs with
    | false =>
     go_wp2_with (go_at_call 200; refine (uh HST).mono ?_; rintro e w1 ⟨rfl, hk1⟩)
     go_ret
     exact ⟨ret_bool (by have := uh HWE; simpa using this), (uh HK).trans hk1⟩
    | true =>
     go_wp2_with (go_at_call 200; refine (uh HST).mono ?_; rintro e w1 ⟨rfl, hk1⟩; have HK1 := hide hk1; clear hk1)
     go_roundw
     case rel =>
      refine ⟨rest, k + 1, by go_num, by omega, by omega, by have := uh HWE; simpa using this, (uh HK).trans (uh HK1), ?_⟩
      rw [show off + (k + 1) * 5 = off + k * 5 + 5 by omega]
      exact (uh HR).keepF (uh HK1)
     case measure => simp [intOf]; omega
end Go.Proofs.YtiinohibmcefkaaGreatDoor
namespace Go.Proofs.YtiinohibmcefkaaGreatDoor
open Go.RowKit Go.Maps
set_option maxRecDepth 100000
set_option maxHeartbeats 800000
theorem rCheck_v (Z : Zone) (l : SL) (hsz : l.size ≤ 4294967294) (w : World) (up : Nat) (v : Value) (hS : SlS Z w up v l) :
  Calls Tryz.prog 97 #[v] w fun e w' => e = .returned (.int .i64 (checkS l)) ∧ Keeps (fun _ => False) w w' := by
 have HW := hide (rWell_v Z (l.size + 1) l (by omega) hsz w up v hS)
 have HC := fun (w' : World) (hk : Keeps (fun _ => False) w w') => hide (rCount_v Z (l.size + 1) l (by omega) hsz w' up v (hS.keepF hk))
 have HD := fun (w' : World) (hk : Keeps (fun _ => False) w w') => hide (rDepth_v Z (l.size + 1) l (by omega) hsz w' up v (hS.keepF hk))
 obtain ⟨ao, cap, rfl, hc⟩ := hS.head
 unfold checkS
 clear hS
 generalize wellS l = bw at HW ⊢
 generalize countS l = nc at HC ⊢
 generalize depthS l = nd at HD ⊢
 cases bw with
 | false =>
  rw [if_pos rfl]
  go_enter Tryz.func97, Tryz.ntmps97
  go_wp2_with (go_at_call 156; refine (uh HW).mono ?_; rintro e w1 ⟨rfl, hk1⟩)
  go_ret
  exact ⟨rfl, hk1⟩
 | true =>
  rw [if_neg (by simp)]
  by_cases h32 : 32 < nc
  ·rw [if_pos h32]
   have g32 : (32 : Int) < (nc : Int) := by omega
   go_enter Tryz.func97, Tryz.ntmps97
   go_wp2_with (first
    | (go_at_call 156; refine (uh HW).mono ?_; rintro e w1 ⟨rfl, hk1⟩; have HK1 := hide hk1; clear hk1)
    | (go_at_call 157; refine (uh (HC _ (uh HK1))).mono ?_; rintro e w2 ⟨rfl, hk2⟩; have HK2 := hide ((uh HK1).trans hk2); clear hk2))
   go_ret
   exact ⟨rfl, uh HK2⟩
  ·rw [if_neg h32]
   have g32 : ¬ (32 : Int) < (nc : Int) := by omega
   by_cases h12 : 12 < nd
   ·rw [if_pos h12]
    have g12 : (12 : Int) < (nd : Int) := by omega
    go_enter Tryz.func97, Tryz.ntmps97
    go_wp2_with (first
     | (go_at_call 156; refine (uh HW).mono ?_; rintro e w1 ⟨rfl, hk1⟩; have HK1 := hide hk1; clear hk1)
     | (go_at_call 157; refine (uh (HC _ (uh HK1))).mono ?_; rintro e w2 ⟨rfl, hk2⟩; have HK2 := hide ((uh HK1).trans hk2); clear hk2)
     | (go_at_call 158; refine (uh (HD _ (uh HK2))).mono ?_; rintro e w3 ⟨rfl, hk3⟩; have HK3 := hide ((uh HK2).trans hk3); clear hk3))
    go_ret
    exact ⟨rfl, uh HK3⟩
   ·rw [if_neg h12]
    have g12 : ¬ (12 : Int) < (nd : Int) := by omega
    go_enter Tryz.func97, Tryz.ntmps97
    go_wp2_with (first
     | (go_at_call 156; refine (uh HW).mono ?_; rintro e w1 ⟨rfl, hk1⟩; have HK1 := hide hk1; clear hk1)
     | (go_at_call 157; refine (uh (HC _ (uh HK1))).mono ?_; rintro e w2 ⟨rfl, hk2⟩; have HK2 := hide ((uh HK1).trans hk2); clear hk2)
     | (go_at_call 158; refine (uh (HD _ (uh HK2))).mono ?_; rintro e w3 ⟨rfl, hk3⟩; have HK3 := hide ((uh HK2).trans hk3); clear hk3))
    go_ret
    exact ⟨rfl, uh HK3⟩
end Go.Proofs.YtiinohibmcefkaaGreatDoor
namespace Go.Proofs.YtiinohibmcefkaaGreatDoor
open Go.RowKit Go.Maps
set_option maxRecDepth 100000
set_option maxHeartbeats 1600000
theorem eqExpr_same (op n : Int) (s : Txt) (ka kb ca cb : Nat) (oa ob : Option Addr) (w : World)
  (hK : ∀ w', Keeps (fun _ => False) w w' → Calls Tryz.prog 56 #[.slice oa ka ca, .slice ob kb cb] w' fun e w'' => e = .returned (.bool true) ∧ Keeps (fun _ => False) w' w'') :
  Calls Tryz.prog 95 #[exV op n s (.slice oa ka ca), exV op n s (.slice ob kb cb)] w fun e w' => e = .returned (.bool true) ∧ Keeps (fun _ => False) w w' := by
 have HK := hide hK
 have HB : Hid (Keeps (fun _ => False) w ((w.alloc (.cells #[.int .i64 op, .int .i64 n, str s, .slice oa ka ca] 27)).alloc (.cells #[.int .i64 op, .int .i64 n, str s, .slice ob kb cb] 27))) := hide (((Keeps.refl _ w).alloc _).alloc _)
 clear hK
 go_enter Tryz.func95, Tryz.ntmps95
 go_wp2_with (go_at_call 56; refine (uh HK _ (uh HB)).mono ?_; rintro e w1 ⟨rfl, hk1⟩)
 go_ret
 exact ⟨rfl, (uh HB).trans hk1⟩
theorem eqExprs_same (Z Y : Zone) (N : Nat) : ∀ (l : EL), l.size < N → l.size ≤ 4294967294 → ∀ (w : World) (ua ub : Nat) (va vb : Value), SlE Z w ua va l → SlE Y w ub vb l →
  Calls Tryz.prog 56 #[va, vb] w fun e w' => e = .returned (.bool true) ∧ Keeps (fun _ => False) w w' := by
 induction N with
 | zero => intro l h; omega
 | succ N ih =>
  intro l hsz hlen' w ua ub va vb hS hT
  have hlen : l.len ≤ 4294967294 := by have := EL.len_le l; omega
  obtain ⟨ao, ac, a, ai, rfl, hac, haa, hax⟩ := hS.open
  obtain ⟨bo, bc, b, bi, rfl, hbc, hba, hbx⟩ := hT.open
  have IH := hide ih
  have HX := hide hax
  have HY := hide hbx
  have HA := hide haa
  have HB := hide hba
  clear hS hT ih hax hbx haa hba
  go_enter Tryz.func56, Tryz.ntmps56
  go_wp2_with fail
  go_loopw [5] (fun i wr => ∃ (rest : EL) (k : Nat), i = .int .i64 k ∧ k + rest.len = l.len ∧ rest.size ≤ l.size ∧ Keeps (fun _ => False) w wr ∧ ExIn Z wr rest a (ai + k * 4) ∧ ExIn Y wr rest b (bi + k * 4)) (fun i _ => l.len - (intOf i).toNat)
  case atStart => exact ⟨l, 0, rfl, by omega, Nat.le_refl _, Keeps.refl _ _, by simpa using uh HX, by simpa using uh HY⟩
  case round =>
   obtain ⟨rest, k, rfl, hkl, hrs, hkeep, hr, hq⟩ := hrel
   have HK := hide hkeep
   clear hkeep
   cases rest with
   | nil =>
    simp only [EL.len, EL.size] at hkl hrs
    clear hr hq
    have i1 : ¬ (k : Int) < (l.len : Int) := by omega
    go_wp2_with fail
    go_ret
    exact ⟨rfl, uh HK⟩
   | cons op n s kids rest =>
    obtain ⟨h1, h2, h3, h4, h5, ⟨kao, kac, h6, h7, h8⟩, h9⟩ := hr
    obtain ⟨g1, g2, g3, g4, g5, ⟨kbo, kbc, g6, g7, g8⟩, g9⟩ := hq
    simp only [EL.len, EL.size] at hkl hrs
    obtain ⟨rfl, hp⟩ := (uh HA) (by omega)
    obtain ⟨rfl, hp'⟩ := (uh HB) (by omega)
    have hka : SlE Z wr a (.slice kao kids.len kac) kids := ⟨kao, kac, rfl, h7, h8⟩
    have hkb : SlE Y wr b (.slice kbo kids.len kbc) kids := ⟨kbo, kbc, rfl, g7, g8⟩
    have HR := hide h9
    have HQ := hide g9
    have i1 : (k : Int) < (l.len : Int) := by omega
    have i0 : (0 : Int) ≤ (k : Int) := by omega
    have HE := hide (fun (m : KW wr) => kw_of m (eqExpr_same op n s kids.len kids.len kac kbc kao kbo m.wd (fun w' hk => uh IH kids (by omega) (by omega) w' a b _ _ (hka.keepF (m.kept.trans hk)) (hkb.keepF (m.kept.trans hk)))))
    have f0 : ∀ m : KW wr, m.wd.cell? ⟨a, ai + k * 4, none⟩ = some (.int .i64 op) := fun m => (m.kept.cell h1 id).trans h3
    have f1 : ∀ m : KW wr, m.wd.cell? ⟨a, ai + k * 4 + 1, none⟩ = some (.int .i64 n) := fun m => (m.kept.cell h1 id).trans h4
    have f2 : ∀ m : KW wr, m.wd.cell? ⟨a, ai + k * 4 + 2, none⟩ = some (str s) := fun m => (m.kept.cell h1 id).trans h5
    have f3 : ∀ m : KW wr, m.wd.cell? ⟨a, ai + k * 4 + 3, none⟩ = some (.slice kao kids.len kac) := fun m => (m.kept.cell h1 id).trans h6
    have e0 : ∀ m : KW wr, m.wd.cell? ⟨b, bi + k * 4, none⟩ = some (.int .i64 op) := fun m => (m.kept.cell g1 id).trans g3
    have e1 : ∀ m : KW wr, m.wd.cell? ⟨b, bi + k * 4 + 1, none⟩ = some (.int .i64 n) := fun m => (m.kept.cell g1 id).trans g4
    have e2 : ∀ m : KW wr, m.wd.cell? ⟨b, bi + k * 4 + 2, none⟩ = some (str s) := fun m => (m.kept.cell g1 id).trans g5
    have e3 : ∀ m : KW wr, m.wd.cell? ⟨b, bi + k * 4 + 3, none⟩ = some (.slice kbo kids.len kbc) := fun m => (m.kept.cell g1 id).trans g6
    clear h2 h8 h9 g2 g8 g9 hka hkb
    go_wp2_with fail
    refine region_kept (by kernel_rfl) (by kernel_rfl) ?_
    repeat (go_big_quiet_step ((go_at_call 95; exact uh HE _)))
    refine wpQuiet_nil ?_
    rintro _ ⟨nq, rfl⟩
    have HK1 := hide nq.kept
    go_wp2_with fail
    go_roundw
    case rel =>
     refine ⟨rest, k + 1, by go_num, by omega, by omega, (uh HK).trans (uh HK1), ?_, ?_⟩
     ·rw [show ai + (k + 1) * 4 = ai + k * 4 + 4 by omega]
      exact (uh HR).keepF (uh HK1)
     ·rw [show bi + (k + 1) * 4 = bi + k * 4 + 4 by omega]
      exact (uh HQ).keepF (uh HK1)
    case measure => simp [intOf]; omega
theorem eqStmts_same (Z Y : Zone) (N : Nat) : ∀ (l : SL), l.size < N → l.size ≤ 4294967294 → ∀ (w : World) (ua ub : Nat) (va vb : Value), SlS Z w ua va l → SlS Y w ub vb l →
  Calls Tryz.prog 57 #[va, vb] w fun e w' => e = .returned (.bool true) ∧ Keeps (fun _ => False) w w' := by
 induction N with
 | zero => intro l h; omega
 | succ N ih =>
  intro l hsz hlen' w ua ub va vb hS hT
  have hlen : l.len ≤ 4294967294 := by have := SL.len_le l; omega
  obtain ⟨ao, ac, a, ai, rfl, hac, haa, hax⟩ := hS.open
  obtain ⟨bo, bc, b, bi, rfl, hbc, hba, hbx⟩ := hT.open
  have IH := hide ih
  have HX := hide hax
  have HY := hide hbx
  have HA := hide haa
  have HB := hide hba
  clear hS hT ih hax hbx haa hba
  go_enter Tryz.func57, Tryz.ntmps57
  go_wp2_with fail
  go_loopw [5] (fun i wr => ∃ (rest : SL) (k : Nat), i = .int .i64 k ∧ k + rest.len = l.len ∧ rest.size ≤ l.size ∧ Keeps (fun _ => False) w wr ∧ StIn Z wr rest a (ai + k * 5) ∧ StIn Y wr rest b (bi + k * 5)) (fun i _ => l.len - (intOf i).toNat)
  case atStart => exact ⟨l, 0, rfl, by omega, Nat.le_refl _, Keeps.refl _ _, by simpa using uh HX, by simpa using uh HY⟩
  case round =>
   obtain ⟨rest, k, rfl, hkl, hrs, hkeep, hr, hq⟩ := hrel
   have HK := hide hkeep
   clear hkeep
   cases rest with
   | nil =>
    simp only [SL.len, SL.size] at hkl hrs
    clear hr hq
    have i1 : ¬ (k : Int) < (l.len : Int) := by omega
    go_wp2_with fail
    go_ret
    exact ⟨rfl, uh HK⟩
   | cons op f ex th el rest =>
    obtain ⟨h1, h2, h3, h4, ⟨xv, h5, hxs⟩, ⟨tao, tac, h6, h7, h8⟩, ⟨eao, eac, j6, j7, j8⟩, h9⟩ := hr
    obtain ⟨g1, g2, g3, g4, ⟨yv, g5, gxs⟩, ⟨tbo, tbc, g6, g7, g8⟩, ⟨ebo, ebc, k6, k7, k8⟩, g9⟩ := hq
    simp only [SL.len, SL.size] at hkl hrs
    obtain ⟨rfl, hp⟩ := (uh HA) (by omega)
    obtain ⟨rfl, hp'⟩ := (uh HB) (by omega)
    have hta : SlS Z wr a (.slice tao th.len tac) th := ⟨tao, tac, rfl, h7, h8⟩
    have htb : SlS Y wr b (.slice tbo th.len tbc) th := ⟨tbo, tbc, rfl, g7, g8⟩
    have hea : SlS Z wr a (.slice eao el.len eac) el := ⟨eao, eac, rfl, j7, j8⟩
    have heb : SlS Y wr b (.slice ebo el.len ebc) el := ⟨ebo, ebc, rfl, k7, k8⟩
    obtain ⟨xao, xac, rfl, hxl⟩ := hxs.head
    obtain ⟨xbo, xbc, rfl, gxl⟩ := gxs.head
    have HR := hide h9
    have HQ := hide g9
    have i1 : (k : Int) < (l.len : Int) := by omega
    have i0 : (0 : Int) ≤ (k : Int) := by omega
    have HEX := fun (w' : World) (hk : Keeps (fun _ => False) wr w') => hide (eqExprs_same Z Y (ex.size + 1) ex (by omega) (by omega) w' a b _ _ (hxs.keepF hk) (gxs.keepF hk))
    have HET := fun (w' : World) (hk : Keeps (fun _ => False) wr w') => hide (uh IH th (by omega) (by omega) w' a b _ _ (hta.keepF hk) (htb.keepF hk))
    have HEE := fun (w' : World) (hk : Keeps (fun _ => False) wr w') => hide (uh IH el (by omega) (by omega) w' a b _ _ (hea.keepF hk) (heb.keepF hk))
    clear h2 h8 h9 g2 g8 g9 j8 k8 hta htb hea heb hxs gxs
    obtain ⟨HBA, hab, hac'⟩ := boxedT wr #[.int .i64 op, str f, .slice xao ex.len xac, .slice tao th.len tac, .slice eao el.len eac] 39
    obtain ⟨HBB, hbb, hbc'⟩ := boxedT (wr.alloc (.cells #[.int .i64 op, str f, .slice xao ex.len xac, .slice tao th.len tac, .slice eao el.len eac] 39)) #[.int .i64 op, str f, .slice xbo ex.len xbc, .slice tbo th.len tbc, .slice ebo el.len ebc] 39
    have hsz1 : (wr.alloc (.cells #[.int .i64 op, str f, .slice xao ex.len xac, .slice tao th.len tac, .slice eao el.len eac] 39)).heap.size = wr.heap.size + 1 := by simp
    have ca3 := ((uh HBB).cell (o := 3) hab id).trans (hac' 3 (.slice tao th.len tac) rfl)
    have ca4 := ((uh HBB).cell (o := 4) hab id).trans (hac' 4 (.slice eao el.len eac) rfl)
    have cb3 := hbc' 3 (.slice tbo th.len tbc) rfl
    have cb4 := hbc' 4 (.slice ebo el.len ebc) rfl
    have hab2 := Nat.lt_trans hab hbb
    have HB2 := hide ((uh HBA).trans (uh HBB))
    rw [hsz1] at cb3 cb4 hbb
    clear hac' hbc' hsz1 HBA HBB
    go_wp2_with (first
     | (go_at_call 56; refine (uh (HEX _ (uh HB2))).mono ?_; rintro e w1 ⟨rfl, hk1⟩; have HJ1 := hide hk1; have HK1 := hide ((uh HB2).trans hk1); have ra3 := (hk1.cell (o := 3) hab2 id).trans ca3; have rb3 := (hk1.cell (o := 3) hbb id).trans cb3; clear hk1)
     | (go_at_call_of 57 (Value.slice tao th.len tac); refine (uh (HET _ (uh HK1))).mono ?_; rintro e w2 ⟨rfl, hk2⟩; have HJ2 := hide ((uh HJ1).trans hk2); have HK2 := hide ((uh HK1).trans hk2); have ra4 := ((uh HJ2).cell (o := 4) hab2 id).trans ca4; have rb4 := ((uh HJ2).cell (o := 4) hbb id).trans cb4; clear hk2)
     | (go_at_call_of 57 (Value.slice eao el.len eac); refine (uh (HEE _ (uh HK2))).mono ?_; rintro e w3 ⟨rfl, hk3⟩; have HK3 := hide ((uh HK2).trans hk3); clear hk3))
    go_roundw
    case rel =>
     refine ⟨rest, k + 1, by go_num, by omega, by omega, (uh HK).trans (uh HK3), ?_, ?_⟩
     ·rw [show ai + (k + 1) * 5 = ai + k * 5 + 5 by omega]
      exact (uh HR).keepF (uh HK3)
     ·rw [show bi + (k + 1) * 5 = bi + k * 5 + 5 by omega]
      exact (uh HQ).keepF (uh HK3)
    case measure => simp [intOf]; omega
end Go.Proofs.YtiinohibmcefkaaGreatDoor
namespace Go.Proofs.YtiinohibmcefkaaGreatDoor
open Go.RowKit Go.Maps
theorem Tryz.info113 : (Tryz.prog.info? 113).map (fun i => (i.zero, i.size, i.bytes)) = some (some (kindV ⟨0, false⟩), 2, 16) := by kernel_rfl
theorem run_mkK (n : Nat) (hn : n ≤ 1000) (w : World) : ∃ c : Array Value, c.size = n * 2 ∧ (Instr.makeSlice 159 (.int .i64 (n : Int)) (.int .i64 (n : Int))).run Tryz.prog w = .ok (.slice (some ⟨w.heap.size, 0, none⟩) n n) (w.alloc (.cells c 113)) := by
 obtain ⟨i0, hi, hz0, hz1, hz2⟩ := info_parts Tryz.info113
 have q := run_make (P := Tryz.prog) w 159 113 i0 _ Tryz.underlying159 hi hz0 .i64 .i64 (n : Int) (n : Int) (by omega) (by omega) (by rw [hz2]; omega) (by omega)
 rw [hz1] at q
 have e : ((n : Int)).toNat = n := by omega
 rw [e] at q
 exact ⟨_, by rw [size_madeCells], q⟩
def RuleV (w : World) (j : Nat) (r : RuleA) (fv : Value) : Prop := match r with
 | .takes is ts => ∃ tb ib tv, fv = .func (.func 207) #[] #[.pointer (some ⟨tb, 0, none⟩), .pointer (some ⟨ib, 0, none⟩)] ∧ ib < w.heap.size ∧ tb < w.heap.size ∧ w.cell? ⟨ib, 0, none⟩ = some (.int .i64 is) ∧ w.cell? ⟨tb, 0, none⟩ = some tv ∧ IntsAt w tv ts
 | .compares ts => ∃ tb tv, fv = .func (.func 213) #[] #[.pointer (some ⟨tb, 0, none⟩)] ∧ tb < w.heap.size ∧ w.cell? ⟨tb, 0, none⟩ = some tv ∧ IntsAt w tv ts
 | .field => fv = .func (.func 176) #[.pointer (some ⟨j, 0, none⟩)] #[]
 | .has => fv = .func (.func 177) #[.pointer (some ⟨j, 0, none⟩)] #[]
 | .orElse => fv = .func (.func 179) #[] #[]
 | .pick => fv = .func (.func 180) #[] #[]
theorem RuleV.keepF {w w' : World} {j : Nat} {r : RuleA} {fv : Value} (h : RuleV w j r fv) (hk : Keeps (fun _ => False) w w') : RuleV w' j r fv := by
 cases r with
 | takes is ts =>
  obtain ⟨tb, ib, tv, e, h1, h2, h3, h4, h5⟩ := h
  exact ⟨tb, ib, tv, e, Nat.lt_of_lt_of_le h1 hk.size, Nat.lt_of_lt_of_le h2 hk.size, (hk.cell h1 id).trans h3, (hk.cell h2 id).trans h4, h5.keepF hk⟩
 | compares ts =>
  obtain ⟨tb, tv, e, h2, h4, h5⟩ := h
  exact ⟨tb, tv, e, Nat.lt_of_lt_of_le h2 hk.size, (hk.cell h2 id).trans h4, h5.keepF hk⟩
 | field => exact h
 | has => exact h
 | orElse => exact h
 | pick => exact h
structure JudgeAt (w : World) (j mb nn tab : Nat) (S : List FieldA) : Prop where
 map : MapAt w j mb nn S
 lt : tab < w.heap.size
 exprs : w.cell? ⟨j, 1, none⟩ = some (.slice (some ⟨tab, 0, none⟩) 26 26)
 rules : ∀ (m : Nat) (r : RuleA), (ruleL[m]?).join = some r → ∃ fv, w.cell? ⟨tab, m, none⟩ = some fv ∧ RuleV w j r fv
theorem JudgeAt.keepF {w w' : World} {j mb nn tab : Nat} {S : List FieldA} (h : JudgeAt w j mb nn tab S) (hk : Keeps (fun _ => False) w w') : JudgeAt w' j mb nn tab S :=
 ⟨h.map.keepF hk, Nat.lt_of_lt_of_le h.lt hk.size, (hk.cell h.map.lt id).trans h.exprs, fun m r hr => by
  obtain ⟨fv, h1, h2⟩ := h.rules m r hr
  exact ⟨fv, (hk.cell h.lt id).trans h1, h2.keepF hk⟩⟩
theorem kindsP_step (S : List FieldA) (op n : Int) (s : Txt) (kids rest : EL) (done : List KA) (all : List KA × Int)
  (h : all = if (kindsP S (.cons op n s kids rest)).2 ≠ 0 then ([], (kindsP S (.cons op n s kids rest)).2) else (done ++ (kindsP S (.cons op n s kids rest)).1, 0)) :
  ((kindP S op s kids).2 ≠ 0 → all = ([], (kindP S op s kids).2)) ∧ ((kindP S op s kids).2 = 0 → all = if (kindsP S rest).2 ≠ 0 then ([], (kindsP S rest).2) else (done ++ [(kindP S op s kids).1] ++ (kindsP S rest).1, 0)) := by
 rw [kindsP_cons] at h
 constructor
 ·intro h0
  rw [if_pos h0] at h
  simpa [h0] using h
 ·intro h0
  have e : ∀ A B : List KA × Int, (if (kindP S op s kids).2 ≠ 0 then A else B) = B := fun A B => if_neg (by simp [h0])
  simp only [e] at h
  by_cases h1 : (kindsP S rest).2 = 0
  ·simp [h1] at h ⊢
   exact h
  ·rw [if_pos h1]
   simpa [h1] using h
end Go.Proofs.YtiinohibmcefkaaGreatDoor
namespace Go.Proofs.YtiinohibmcefkaaGreatDoor
open Go.RowKit Go.Maps
set_option maxRecDepth 100000
def wantL (op : Int) : List (Int × Bool) × Int :=
 if op = 7 then ([(2, false)], 2) else if op = 8 then ([(1, false)], 1) else if op = 9 ∨ op = 10 ∨ op = 11 ∨ op = 21 ∨ op = 22 then ([(1, false), (1, false)], 1)
 else if op = 12 ∨ op = 13 ∨ op = 14 ∨ op = 15 then ([(-1, false), (-2, false)], 2) else if op = 16 ∨ op = 17 then ([(0, false), (-2, false)], 2) else if op = 18 ∨ op = 19 then ([(2, false), (2, false)], 2)
 else if op = 20 then ([(0, true), (-2, false)], -2) else if op = 23 then ([(3, false)], 1) else if op = 24 then ([(3, false), (3, false)], 3) else ([(2, false), (0, false), (-3, false)], -3)
def askedB (w t : Int) (ks : List KA) : Bool := if w = 0 then true else if w = -1 then (decide (t = 1) || decide (t = 3)) else if w = -2 then decide (t = (kth ks 0).t) else if w = -3 then decide (t = (kth ks 1).t) else decide (t = w)
def wantsI (ks : List KA) : List KA → List (Int × Bool) → Int
 | k :: r, w :: ws => if askedB w.1 k.t ks = false then 91 else if w.2 ≠ k.o then 92 else wantsI ks r ws
 | _, _ => 0
def tyR (ty : Int) (ks : List KA) : Int := if ty = -2 then (kth ks 0).t else if ty = -3 then (kth ks 1).t else ty
def refRule (op : Int) (ks : List KA) : KA × Int := if wantsI ks ks (wantL op).1 ≠ 0 then (⟨0, false⟩, wantsI ks ks (wantL op).1) else (⟨tyR (wantL op).2 ks, false⟩, 0)
def zeroK (p : KA × Int) : KA × Int := if p.2 ≠ 0 then (⟨0, false⟩, p.2) else p
def okT (t : Int) : Prop := t = 1 ∨ t = 2 ∨ t = 3
theorem okT_fin {t : Int} (h : okT t) : ∃ i : Fin 3, t = (i.val : Int) + 1 := by
 rcases h with h | h | h
 ·exact ⟨0, by simp [h]⟩
 ·exact ⟨1, by simp [h]⟩
 ·exact ⟨2, by simp [h]⟩
def one1 (op : Int) : Prop := ∀ (a : Fin 3) (oa : Bool), refRule op [⟨(a.val : Int) + 1, oa⟩] = zeroK (ruleP [] op [] [⟨(a.val : Int) + 1, oa⟩])
def two2 (op : Int) : Prop := ∀ (a : Fin 3) (oa : Bool) (b : Fin 3) (ob : Bool), refRule op [⟨(a.val : Int) + 1, oa⟩, ⟨(b.val : Int) + 1, ob⟩] = zeroK (ruleP [] op [] [⟨(a.val : Int) + 1, oa⟩, ⟨(b.val : Int) + 1, ob⟩])
def three3 (op : Int) : Prop := ∀ (a : Fin 3) (oa : Bool) (b : Fin 3) (ob : Bool) (c : Fin 3) (oc : Bool), refRule op [⟨(a.val : Int) + 1, oa⟩, ⟨(b.val : Int) + 1, ob⟩, ⟨(c.val : Int) + 1, oc⟩] = zeroK (ruleP [] op [] [⟨(a.val : Int) + 1, oa⟩, ⟨(b.val : Int) + 1, ob⟩, ⟨(c.val : Int) + 1, oc⟩])
instance (op : Int) : Decidable (one1 op) := by unfold one1; infer_instance
instance (op : Int) : Decidable (two2 op) := by unfold two2; infer_instance
instance (op : Int) : Decidable (three3 op) := by unfold three3; infer_instance
theorem ones : one1 7 ∧ one1 8 ∧ one1 23 := by decide
theorem twos : ∀ i : Fin 16, i.val ≠ 14 → two2 ((i.val : Int) + 9) := by decide
theorem threes : three3 25 := by decide
def RuleA.named : RuleA → Bool
 | .field => true
 | .has => true
 | _ => false
theorem rule_nofield (S : List FieldA) (op : Int) (s : Txt) (ks : List KA) (h1 : 7 ≤ op) (h2 : op ≤ 25) : ruleP S op s ks = ruleP [] op [] ks := by
 obtain ⟨m, rfl⟩ := Int.eq_ofNat_of_zero_le (show 0 ≤ op by omega)
 have h : ∀ i : Fin 26, 7 ≤ i.val → ((ruleL[i.val]?).join).map RuleA.named = some false := by decide
 have := h ⟨m, by omega⟩ (by show 7 ≤ m; omega)
 unfold ruleP
 simp only [Int.toNat_natCast]
 cases hr : (ruleL[m]?).join with
 | none => rfl
 | some r =>
  simp only [hr] at this
  cases r with
  | field => cases this
  | has => cases this
  | takes => rfl
  | compares => rfl
  | orElse => rfl
  | pick => rfl
theorem ref_rule (S : List FieldA) (op : Int) (s : Txt) (ks : List KA) (h1 : 7 ≤ op) (h2 : op ≤ 25) (hk : (ks.length : Int) = kidsB op) (hT : ∀ k ∈ ks, okT k.t) : refRule op ks = zeroK (ruleP S op s ks) := by
 rw [rule_nofield S op s ks h1 h2]
 unfold kidsB at hk
 rw [if_neg (by omega)] at hk
 by_cases hA : op = 7 ∨ op = 8 ∨ op = 23
 ·rw [if_pos hA] at hk
  match ks, hk with
  | [a], _ =>
   obtain ⟨i, hi⟩ := okT_fin (hT a (by simp))
   obtain ⟨t, o⟩ := a
   subst hi
   rcases hA with rfl | rfl | rfl
   ·exact ones.1 i o
   ·exact ones.2.1 i o
   ·exact ones.2.2 i o
  | [], hk => exact absurd hk (by simp)
  | _ :: _ :: _, hk => exact absurd hk (by simp; omega)
 rw [if_neg hA] at hk
 by_cases hB : op = 25
 ·subst hB
  rw [if_neg (by omega), if_pos rfl] at hk
  match ks, hk with
  | [a, b, c], _ =>
   obtain ⟨i, hi⟩ := okT_fin (hT a (by simp))
   obtain ⟨j, hj⟩ := okT_fin (hT b (by simp))
   obtain ⟨k, hk⟩ := okT_fin (hT c (by simp))
   obtain ⟨t, o⟩ := a
   obtain ⟨t', o'⟩ := b
   obtain ⟨t'', o''⟩ := c
   subst hi hj hk
   exact threes i o j o' k o''
  | [], hk => exact absurd hk (by simp)
  | [_], hk => exact absurd hk (by simp)
  | [_, _], hk => exact absurd hk (by simp)
  | _ :: _ :: _ :: _ :: _, hk => exact absurd hk (by simp; omega)
 ·rw [if_pos (by omega)] at hk
  match ks, hk with
  | [a, b], _ =>
   obtain ⟨i, hi⟩ := okT_fin (hT a (by simp))
   obtain ⟨j, hj⟩ := okT_fin (hT b (by simp))
   obtain ⟨t, o⟩ := a
   obtain ⟨t', o'⟩ := b
   subst hi hj
   obtain ⟨m, rfl⟩ := Int.eq_ofNat_of_zero_le (show 0 ≤ op by omega)
   have := twos ⟨m - 9, by omega⟩ (by show m - 9 ≠ 14; omega) i o j o'
   rw [show ((m - 9 : Nat) : Int) + 9 = (m : Int) by omega] at this
   exact this
  | [], hk => exact absurd hk (by simp)
  | [_], hk => exact absurd hk (by simp)
  | _ :: _ :: _ :: _, hk => exact absurd hk (by simp; omega)
theorem wide_okT {t : Int} (h : 0 ≤ wideB t) : okT t := by
 unfold wideB at h
 unfold okT
 repeat' split at h
 all_goals omega
theorem field_okT {S : List FieldA} (h : schemaB S = true) {s : Txt} {f : FieldA} (hf : fieldOf S s = some f) : okT f.type := by
 have hm := List.mem_of_find?_eq_some hf
 have h3 : S.all fieldOK = true := by
  unfold schemaB at h
  simp only [Bool.and_eq_true] at h
  exact h.1.1.2
 have := List.all_eq_true.1 h3 f hm
 unfold fieldOK at this
 simp only [Bool.and_eq_true, decide_eq_true_eq] at this
 exact wide_okT this.2
end Go.Proofs.YtiinohibmcefkaaGreatDoor
namespace Go.Proofs.YtiinohibmcefkaaGreatDoor
open Go.RowKit Go.Maps
theorem name_short {s : Txt} (h : nameB s = true) : s.length ≤ 8 := by
 unfold nameB at h
 simp only [Bool.and_eq_true, decide_eq_true_eq] at h
 exact h.1.1.1.2
theorem kidsB_range (op : Int) (h : 0 ≤ kidsB op) : ∃ m : Nat, op = m ∧ 1 ≤ m ∧ m ≤ 25 ∧ kidsB op ≤ 3 := by
 have h3 : kidsB op ≤ 3 := by
  unfold kidsB
  repeat' split
  all_goals omega
 unfold kidsB at h
 have h25 : 1 ≤ op ∧ op ≤ 25 := by
  repeat' split at h
  all_goals omega
 exact ⟨op.toNat, by omega, by omega, by omega, h3⟩
theorem kindsP_err (S : List FieldA) : ∀ l : EL, (kindsP S l).2 ≠ 0 → kindsP S l = ([], (kindsP S l).2)
 | .nil, h => absurd rfl h
 | .cons op n s kids rest, h => by
  rw [kindsP_cons] at h ⊢
  by_cases h1 : (kindP S op s kids).2 = 0
  ·by_cases h2 : (kindsP S rest).2 = 0
   ·simp [h1, h2] at h
   ·simp [h1, h2]
  ·simp [h1]
theorem root_open {op n : Int} {s : Txt} {k : Nat} (h : rootB op n s k = true) : ∃ (m : Nat) (r : RuleA), op = m ∧ m ≤ 25 ∧ (ruleL[m]?).join = some r ∧ r.kids = k ∧ k ≤ 3 ∧ (r.named = true → s.length ≤ 8) := by
 unfold rootB at h
 simp only [Bool.and_eq_true, decide_eq_true_eq] at h
 obtain ⟨h1, h2, h3⟩ := h
 obtain ⟨m, rfl, hm1, hm2, hm3⟩ := kidsB_range op h1
 obtain ⟨r, hr, hk⟩ := ruleL_kids m hm1 hm2
 refine ⟨m, r, rfl, hm2, hr, by omega, by omega, fun hn => ?_⟩
 have hq : ∀ i : Fin 26, ((ruleL[i.val]?).join).map RuleA.named = some true → i.val = 4 ∨ i.val = 5 := by decide
 have h45 := hq ⟨m, by omega⟩ (by show ((ruleL[m]?).join).map RuleA.named = some true; rw [hr]; exact congrArg some hn)
 have h45' : (m : Int) = 4 ∨ (m : Int) = 5 := by
  rcases h45 with h | h
  ·exact Or.inl (by have : m = 4 := h; omega)
  ·exact Or.inr (by have : m = 5 := h; omega)
 unfold leafB at h3
 rw [if_neg (by omega), if_neg (by omega), if_neg (by omega), if_pos h45'] at h3
 simp only [Bool.and_eq_true, decide_eq_true_eq] at h3
 exact name_short h3.2
theorem ks_step {w1 : World} {b : Nat} {c : Array Value} {k n : Nat} {done : List KA} (T : Int) (O : Bool) (hb : w1.heap[b]? = some (.cells c 113 (0, 0))) (hc : c.size = n * 2) (hk : k < n) (hl : done.length = k)
  (hd : ∀ (i : Nat) (f : KA), done[i]? = some f → c[i * 2]? = some (.int .i64 f.t) ∧ c[i * 2 + 1]? = some (.bool f.o)) :
  ∃ c2 : Array Value, ((w1.setCell ⟨b, k * 2, none⟩ (.int .i64 T)).setCell ⟨b, k * 2 + 1, none⟩ (.bool O)).heap[b]? = some (.cells c2 113 (0, 0)) ∧ c2.size = n * 2 ∧ ∀ (i : Nat) (f : KA), (done ++ [⟨T, O⟩])[i]? = some f → c2[i * 2]? = some (.int .i64 f.t) ∧ c2[i * 2 + 1]? = some (.bool f.o) := by
 refine ⟨_, heap_setCell_at (heap_setCell_at hb _) _, by simp [hc], fun i f hf => ?_⟩
 rw [List.getElem?_append] at hf
 split at hf
 ·rename_i hi
  obtain ⟨h1, h2⟩ := hd i f hf
  exact ⟨by rw [Array.getElem?_setIfInBounds_ne (by omega), Array.getElem?_setIfInBounds_ne (by omega)]; exact h1, by rw [Array.getElem?_setIfInBounds_ne (by omega), Array.getElem?_setIfInBounds_ne (by omega)]; exact h2⟩
 ·rename_i hi
  have hik : i = k := by
   have := (List.getElem?_eq_some_iff.1 hf).1
   simp at this
   omega
  subst hik
  rw [hl, Nat.sub_self] at hf
  simp at hf
  subst hf
  exact ⟨by simp [hc, show i * 2 < n * 2 by omega], by simp [hc, show i * 2 + 1 < n * 2 by omega]⟩
theorem ks_all {w1 : World} {b : Nat} {c : Array Value} {n : Nat} {ks : List KA} (hb : w1.heap[b]? = some (.cells c 113 (0, 0))) (hl : ks.length = n)
  (hd : ∀ (i : Nat) (f : KA), ks[i]? = some f → c[i * 2]? = some (.int .i64 f.t) ∧ c[i * 2 + 1]? = some (.bool f.o)) : KsAt w1 (.slice (some ⟨b, 0, none⟩) n n) ks := by
 subst hl
 refine ⟨⟨_, _, rfl⟩, fun _ => ⟨b, 0, _, rfl, lt_of_block hb, fun j x hx => ?_⟩, fun ao m cap e => by simp at e; omega⟩
 rw [cB hb, Nat.zero_add]
 have hj := (List.getElem?_eq_some_iff.1 hx).1
 rw [kcs_length] at hj
 obtain ⟨f, hf⟩ : ∃ f, ks[j / 2]? = some f := ⟨_, List.getElem?_eq_getElem (by omega)⟩
 obtain ⟨h1, h2⟩ := hd _ _ hf
 rcases Nat.mod_two_eq_zero_or_one j with h | h
 ·have e : j = j / 2 * 2 := by omega
  rw [e] at hx ⊢
  have := kcs_get ks (j / 2) f 0 hf (by omega)
  rw [Nat.add_zero, hx] at this
  rw [h1, this]; rfl
 ·have e : j = j / 2 * 2 + 1 := by omega
  rw [e] at hx ⊢
  have := kcs_get ks (j / 2) f 1 hf (by omega)
  rw [hx] at this
  rw [h2, this]; rfl
theorem list2 {ks : List KA} (h : ks.length = 2) : ∃ a b, ks = [a, b] := by
 match ks, h with
 | [a, b], _ => exact ⟨a, b, rfl⟩
theorem list3 {ks : List KA} (h : ks.length = 3) : ∃ a b c, ks = [a, b, c] := by
 match ks, h with
 | [a, b, c], _ => exact ⟨a, b, c, rfl⟩
theorem ruleP_fit {S : List FieldA} {m : Nat} {r : RuleA} {s : Txt} {ks : List KA} (h : (ruleL[m]?).join = some r) : ruleP S (m : Int) s ks = r.fit S s ks := by
 unfold ruleP
 rw [Int.toNat_natCast, h]
end Go.Proofs.YtiinohibmcefkaaGreatDoor
namespace Go.Proofs.YtiinohibmcefkaaGreatDoor
open Go.RowKit Go.Maps
def RuleA.isOK : RuleA → Bool
 | .takes is _ => decide (is = 1) || (decide (is = 2) || decide (is = 3))
 | _ => true
theorem rule_is {m : Nat} {r : RuleA} (hr : (ruleL[m]?).join = some r) : r.isOK = true := by
 have h : ∀ i : Fin 26, (match ((ruleL[i.val]?).join).map RuleA.isOK with | some x => x | none => true) = true := by decide
 by_cases hm : m < 26
 ·have := h ⟨m, hm⟩
  simp only [hr, Option.map_some] at this
  exact this
 ·have : ruleL[m]? = none := List.getElem?_eq_none (by show 26 ≤ m; omega)
  rw [this] at hr
  cases hr
theorem kth_mem {ks : List KA} {i : Nat} (h : i < ks.length) : kth ks i ∈ ks := by
 have e : kth ks i = ks[i] := by simp [kth, List.getD, List.getElem?_eq_getElem h]
 rw [e]
 exact List.getElem_mem h
theorem rule_okT {S : List FieldA} (hS : schemaB S = true) {op n : Int} {s : Txt} {ks : List KA} (hr : rootB op n s ks.length = true) (hk : ∀ k ∈ ks, okT k.t) (h0 : (ruleP S op s ks).2 = 0) : okT (ruleP S op s ks).1.t := by
 obtain ⟨m, r, rfl, _, hrl, hkids, _, _⟩ := root_open hr
 have his := rule_is hrl
 rw [ruleP_fit hrl] at h0 ⊢
 cases r with
 | takes is ts =>
  simp only [RuleA.fit, takesK] at h0 ⊢
  by_cases h : takesI ks ts = 0
  ·rw [if_pos h]
   simp only [RuleA.isOK, Bool.or_eq_true, decide_eq_true_eq] at his
   exact his
  ·rw [if_neg h] at h0
   exact absurd h0 h
 | field =>
  simp only [RuleA.fit, namedK] at h0 ⊢
  cases hf : fieldOf S s with
  | none => rw [hf] at h0; exact absurd h0 (by decide)
  | some f => exact field_okT hS hf
 | has => exact Or.inr (Or.inl rfl)
 | compares ts => exact Or.inr (Or.inl rfl)
 | orElse =>
  have : 2 = ks.length := hkids
  exact hk (kth ks 0) (kth_mem (by omega))
 | pick =>
  have : 3 = ks.length := hkids
  exact hk (kth ks 1) (kth_mem (by omega))
theorem kinds_okT {S : List FieldA} (hS : schemaB S = true) : ∀ l : EL, wellE l = true → (kindsP S l).2 = 0 → ∀ k ∈ (kindsP S l).1, okT k.t
 | .nil, _, _, k, hk => by simp [kindsP] at hk
 | .cons op n s kids rest, hw, h0, k, hk => by
  have ih1 := kinds_okT hS kids
  have ih2 := kinds_okT hS rest
  simp only [wellE, Bool.and_eq_true] at hw
  obtain ⟨hr, hwk, hwr⟩ := hw
  rw [kindsP_cons] at h0 hk
  by_cases h1 : (kindP S op s kids).2 = 0
  ·by_cases h2 : (kindsP S rest).2 = 0
   ·simp [h1, h2] at hk
    rcases hk with rfl | hk
    ·unfold kindP at h1 ⊢
     by_cases h3 : (kindsP S kids).2 = 0
     ·simp only [h3, ne_eq, not_true_eq_false, if_false] at h1 ⊢
      exact rule_okT hS (n := n) (by rw [kindsP_len S kids h3]; exact hr) (ih1 hwk h3) h1
     ·rw [if_pos h3] at h1
      exact absurd h1 h3
    ·exact ih2 hwr h2 k hk
   ·simp [h1, h2] at h0
  ·simp [h1] at h0
theorem wantL_len : ∀ m : Nat, 7 ≤ m → m ≤ 25 → ((wantL m).1.length : Int) = kidsB m := by
 have h : ∀ i : Fin 26, 7 ≤ i.val → ((wantL i.val).1.length : Int) = kidsB i.val := by decide
 intro m h1 h2
 exact h ⟨m, by omega⟩ h1
def wantFits (ws : List (Int × Bool)) (n : Nat) : Bool := ws.all fun p => (decide (p.1 ≠ -2) || decide (0 < n)) && (decide (p.1 ≠ -3) || decide (1 < n))
theorem wantL_fits : ∀ m : Nat, 7 ≤ m → m ≤ 25 → wantFits (wantL m).1 (wantL m).1.length = true ∧ ((wantL m).2 = -2 → 0 < (wantL m).1.length) ∧ ((wantL m).2 = -3 → 1 < (wantL m).1.length) := by
 have h : ∀ i : Fin 26, 7 ≤ i.val → wantFits (wantL i.val).1 (wantL i.val).1.length = true ∧ ((wantL i.val).2 = -2 → 0 < (wantL i.val).1.length) ∧ ((wantL i.val).2 = -3 → 1 < (wantL i.val).1.length) := by decide
 intro m h1 h2
 exact h ⟨m, by omega⟩ h1
theorem wantsI_step {all ks : List KA} {ws : List (Int × Bool)} {j : Nat} {k : KA} {p : Int × Bool} (hk : ks[j]? = some k) (ht : ws[j]? = some p) : wantsI all (ks.drop j) (ws.drop j) = if askedB p.1 k.t all = false then 91 else if p.2 ≠ k.o then 92 else wantsI all (ks.drop (j + 1)) (ws.drop (j + 1)) := by
 obtain ⟨h1, e1⟩ := List.getElem?_eq_some_iff.1 hk
 obtain ⟨h2, e2⟩ := List.getElem?_eq_some_iff.1 ht
 rw [List.drop_eq_getElem_cons h1, List.drop_eq_getElem_cons h2, e1, e2]
 rfl
end Go.Proofs.YtiinohibmcefkaaGreatDoor
namespace Go.Proofs.YtiinohibmcefkaaGreatDoor
open Go.RowKit Go.Maps
def idxF (S : List FieldA) (nm : Txt) : Option Nat := S.findIdx? fun f => decide (f.name = nm)
end Go.Proofs.YtiinohibmcefkaaGreatDoor
