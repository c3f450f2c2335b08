import Derived.Test.YtoempeobaknkcaaGreatDoorEt
namespace Go.Proofs.YtoempeobaknkcaaGreatDoor
open Go.RowKit Go.Maps

set_option maxRecDepth 100000 in
set_option maxHeartbeats 1600000 in
theorem wellStmt_5 (Z : Zone) (op : Int) (hop : op = 5) (f : Txt) (ex : EL) (th el : SL) (_hsz : ex.size ≤ 4294967294) (w : World) (up : Nat) (xv : Value) (tao eao : Option Addr) (tcap ecap : Nat) (hX : SlE Z w up xv ex) :
    Calls Tryz.prog 86 #[stV op f xv (.slice tao th.len tcap) (.slice eao el.len ecap)] w fun e w' => e = .returned (.bool (stmtB op f ex th el)) ∧ Keeps (fun _ => False) w w' := by
  subst hop
  rw [stmtB_5 f ex th el]
  obtain ⟨xao, xcap, xb, xoff, rfl, hxcap, hxa, hxx⟩ := hX.open
  obtain ⟨HB, hxb, hxc⟩ := boxedT w #[.int .i64 5, str f, .slice xao ex.len xcap, .slice tao th.len tcap, .slice eao el.len ecap] 53
  have c0 := hxc 0 (.int .i64 5) rfl
  have c1 := hxc 1 (str f) rfl
  have c2 := hxc 2 (.slice xao ex.len xcap) rfl
  have c3 := hxc 3 (.slice tao th.len tcap) rfl
  have c4 := hxc 4 (.slice eao el.len ecap) rfl
  clear hxc
  have HN := hide (isName_v f)
  clear hX hxx hxa
  cases hnm : nameB f with
  | false =>
    rw [hnm] at HN
    rw [Bool.false_and]
    go_enter Tryz.func86, Tryz.ntmps86
    go_wp2_with (go_at_call 102; refine (unhide HN _).mono ?_; rintro e w1 ⟨rfl, rfl⟩)
    go_ret
    exact ⟨rfl, unhide HB⟩
  | true =>
    rw [hnm] at HN
    rw [Bool.true_and]
    go_enter Tryz.func86, Tryz.ntmps86
    go_wp2_with (go_at_call 102; refine (unhide HN _).mono ?_; rintro e w1 ⟨rfl, rfl⟩)
    all_goals (go_ret; refine ⟨ret_bool ?_, (Keeps.alloc (Keeps.refl _ w) _)⟩; clear HN HB c0 c1 c2 c3 c4 hxb; first | (simp_all; done) | (simp_all; omega) | (simp_all; rw [Bool.eq_iff_iff]; simp; done) | (simp_all; rw [Bool.eq_iff_iff]; simp; omega))

set_option maxRecDepth 100000 in
set_option maxHeartbeats 1600000 in
theorem wellStmt_67 (Z : Zone) (op : Int) (hop : op = 6 ∨ op = 7) (f : Txt) (ex : EL) (th el : SL) (_hsz : ex.size ≤ 4294967294) (w : World) (up : Nat) (xv : Value) (tao eao : Option Addr) (tcap ecap : Nat) (hX : SlE Z w up xv ex) :
    Calls Tryz.prog 86 #[stV op f xv (.slice tao th.len tcap) (.slice eao el.len ecap)] w fun e w' => e = .returned (.bool (stmtB op f ex th el)) ∧ Keeps (fun _ => False) w w' := by
  rw [stmtB_67 op f ex th el hop]
  obtain ⟨xao, xcap, xb, xoff, rfl, hxcap, hxa, hxx⟩ := hX.open
  obtain ⟨HB, hxb, hxc⟩ := boxedT w #[.int .i64 op, str f, .slice xao ex.len xcap, .slice tao th.len tcap, .slice eao el.len ecap] 53
  have c0 := hxc 0 (.int .i64 op) rfl
  have c1 := hxc 1 (str f) rfl
  have c2 := hxc 2 (.slice xao ex.len xcap) rfl
  have c3 := hxc 3 (.slice tao th.len tcap) rfl
  have c4 := hxc 4 (.slice eao el.len ecap) rfl
  clear hxc
  clear hX hxx hxa
  cases f with
  | nil =>
    rw [decide_eq_true rfl, Bool.true_and]
    rcases hop with rfl | rfl
    all_goals
      go_enter Tryz.func86, Tryz.ntmps86
      go_wp2_with fail
      all_goals (go_ret; refine ⟨ret_bool ?_, (Keeps.alloc (Keeps.refl _ w) _)⟩; clear HB c0 c1 c2 c3 c4 hxb; first | (simp_all; done) | (simp_all; omega) | (simp_all; rw [Bool.eq_iff_iff]; simp; done) | (simp_all; rw [Bool.eq_iff_iff]; simp; omega))
  | cons fc fr =>
    rw [decide_eq_false (by simp), Bool.false_and]
    rcases hop with rfl | rfl
    all_goals
      go_enter Tryz.func86, Tryz.ntmps86
      go_wp2_with fail
      all_goals (go_ret; exact ⟨rfl, unhide HB⟩)

set_option maxRecDepth 100000 in
set_option maxHeartbeats 1600000 in
theorem wellStmt_no (Z : Zone) (op : Int) (hop : op < 1 ∨ 8 < op) (f : Txt) (ex : EL) (th el : SL) (_hsz : ex.size ≤ 4294967294) (w : World) (up : Nat) (xv : Value) (tao eao : Option Addr) (tcap ecap : Nat) (hX : SlE Z w up xv ex) :
    Calls Tryz.prog 86 #[stV op f xv (.slice tao th.len tcap) (.slice eao el.len ecap)] w fun e w' => e = .returned (.bool (stmtB op f ex th el)) ∧ Keeps (fun _ => False) w w' := by
  rw [stmtB_no op f ex th el hop]
  obtain ⟨xao, xcap, xb, xoff, rfl, hxcap, hxa, hxx⟩ := hX.open
  obtain ⟨HB, hxb, hxc⟩ := boxedT w #[.int .i64 op, str f, .slice xao ex.len xcap, .slice tao th.len tcap, .slice eao el.len ecap] 53
  have c0 := hxc 0 (.int .i64 op) rfl
  have c1 := hxc 1 (str f) rfl
  have c2 := hxc 2 (.slice xao ex.len xcap) rfl
  have c3 := hxc 3 (.slice tao th.len tcap) rfl
  have c4 := hxc 4 (.slice eao el.len ecap) rfl
  clear hxc
  clear hX hxx hxa
  have d1 : (op == 1) = false := by simp; omega
  have d2 : (op == 2) = false := by simp; omega
  have d3 : (op == 3) = false := by simp; omega
  have d4 : (op == 4) = false := by simp; omega
  have d5 : (op == 5) = false := by simp; omega
  have d6 : (op == 6) = false := by simp; omega
  have d7 : (op == 7) = false := by simp; omega
  have d8 : (op == 8) = false := by simp; omega
  go_enter Tryz.func86, Tryz.ntmps86
  go_wp2_with fail
  all_goals (go_ret; exact ⟨rfl, unhide HB⟩)
end Go.Proofs.YtoempeobaknkcaaGreatDoor
namespace Go.Proofs.YtoempeobaknkcaaGreatDoor
open Go.RowKit Go.Maps

set_option maxRecDepth 100000 in
set_option maxHeartbeats 1600000 in
theorem wellStmt_8 (Z : Zone) (f : Txt) (ex : EL) (th el : SL) (hsz : ex.size ≤ 4294967294) (w : World) (up : Nat) (xv : Value) (tao eao : Option Addr) (tcap ecap : Nat) (hX : SlE Z w up xv ex)
    (hT : ∀ w', Keeps (fun _ => False) w w' → Calls Tryz.prog 61 #[.slice tao th.len tcap] w' fun e w'' => e = .returned (.bool (wellS th)) ∧ Keeps (fun _ => False) w' w'')
    (hE : ∀ w', Keeps (fun _ => False) w w' → Calls Tryz.prog 61 #[.slice eao el.len ecap] w' fun e w'' => e = .returned (.bool (wellS el)) ∧ Keeps (fun _ => False) w' w'') :
    Calls Tryz.prog 86 #[stV 8 f xv (.slice tao th.len tcap) (.slice eao el.len ecap)] w fun e w' => e = .returned (.bool (stmtB 8 f ex th el)) ∧ Keeps (fun _ => False) w w' := by
  rw [stmtB_8 f ex th el]
  obtain ⟨xao, xcap, xb, xoff, rfl, hxcap, hxa, hxx⟩ := hX.open
  obtain ⟨HB, hxb, hxc⟩ := boxedT w #[.int .i64 8, str f, .slice xao ex.len xcap, .slice tao th.len tcap, .slice eao el.len ecap] 53
  have c0 := hxc 0 (.int .i64 8) rfl
  have c1 := hxc 1 (str f) rfl
  have c2 := hxc 2 (.slice xao ex.len xcap) rfl
  have c3 := hxc 3 (.slice tao th.len tcap) rfl
  have c4 := hxc 4 (.slice eao el.len ecap) rfl
  have HT := hide hT
  have HE := hide hE
  clear hxc hT hE
  cases f with
  | cons fc fr =>
    rw [decide_eq_false (by simp), Bool.false_and]
    clear hX hxx hxa
    go_enter Tryz.func86, Tryz.ntmps86
    go_wp2_with fail
    go_ret
    exact ⟨rfl, unhide HB⟩
  | nil =>
    rw [decide_eq_true rfl, Bool.true_and]
    by_cases hx1 : ex.len = 1
    · match ex, hx1 with
      | .cons xo xn xs xk .nil, _ =>
        obtain ⟨rfl, hp⟩ := hxa (by simp [EL.len])
        obtain ⟨h1, h2, h3, h4, h5, ⟨kao, kcap, h6, h7, h8⟩, h9⟩ := hxx
        have HW := hide (wellExpr_v Z (xk.size + 1) xk (by omega) (by simp [EL.size] at hsz; omega) xo xn xs (w.alloc (.cells #[.int .i64 8, str [], .slice (some ⟨xb, xoff, none⟩) (EL.cons xo xn xs xk .nil).len xcap, .slice tao th.len tcap, .slice eao el.len ecap] 53)) xb (.slice kao xk.len kcap) (SlE.keepF ⟨kao, kcap, rfl, h7, h8⟩ (unhide HB)))
        have e3 := ((unhide HB).cell h1 id).trans h3
        have e4 := ((unhide HB).cell h1 id).trans h4
        have e5 := ((unhide HB).cell h1 id).trans h5
        have e6 := ((unhide HB).cell h1 id).trans h6
        have ewe : wellE (EL.cons xo xn xs xk .nil) = (rootB xo xn xs xk.len && wellE xk) := by simp [wellE]
        have el1 : (EL.cons xo xn xs xk .nil).len = 1 := rfl
        rw [ewe, el1, decide_eq_true rfl, Bool.true_and]
        simp only [el1] at HW c0 c1 c2 c3 c4 hxb HB e3 e4 e5 e6
        clear hX h2 h8 h9 h3 h4 h5 h6 hxa ewe
        cases hv : (rootB xo xn xs xk.len && wellE xk) with
        | false =>
          rw [hv] at HW
          rw [Bool.false_and]
          go_enter Tryz.func86, Tryz.ntmps86
          go_wp2_with (go_at_call 103; refine (unhide HW).mono ?_; rintro e w2 ⟨rfl, hk2⟩; have HK2 := hide hk2; clear hk2)
          go_ret
          exact ⟨rfl, (unhide HB).trans (unhide HK2)⟩
        | true =>
          rw [hv] at HW
          rw [Bool.true_and]
          generalize wellS th = bt at HT ⊢
          generalize wellS el = be at HE ⊢
          cases bt with
          | false =>
            rw [Bool.false_and]
            go_enter Tryz.func86, Tryz.ntmps86
            go_wp2_with (first
              | (go_at_call 103; refine (unhide HW).mono ?_; rintro e w2 ⟨rfl, hk2⟩; have HK2 := hide hk2; have r0 := (hk2.cell (o := 0) hxb id).trans c0; have r3 := (hk2.cell (o := 3) hxb id).trans c3; have r4 := (hk2.cell (o := 4) hxb id).trans c4; clear hk2)
              | (go_at_call_of 61 (Value.slice tao th.len tcap); refine (unhide HT _ ((unhide HB).trans (unhide HK2))).mono ?_; rintro e w3 ⟨rfl, hk3⟩; have HK3 := hide ((unhide HK2).trans hk3); clear hk3))
            go_ret
            exact ⟨rfl, (unhide HB).trans (unhide HK3)⟩
          | true =>
            rw [Bool.true_and]
            go_enter Tryz.func86, Tryz.ntmps86
            go_wp2_with (first
              | (go_at_call 103; refine (unhide HW).mono ?_; rintro e w2 ⟨rfl, hk2⟩; have HJ2 := hide hk2; have HK2 := hide hk2; have r0 := (hk2.cell (o := 0) hxb id).trans c0; have r3 := (hk2.cell (o := 3) hxb id).trans c3; clear hk2)
              | (go_at_call_of 61 (Value.slice tao th.len tcap); refine (unhide HT _ ((unhide HB).trans (unhide HK2))).mono ?_; rintro e w3 ⟨rfl, hk3⟩; have HK3 := hide ((unhide HK2).trans hk3); have r4 := ((unhide HK3).cell (o := 4) hxb id).trans c4; clear hk3)
              | (go_at_call_of 61 (Value.slice eao el.len ecap); refine (unhide HE _ ((unhide HB).trans (unhide HK3))).mono ?_; rintro e w4 ⟨rfl, hk4⟩; have HK4 := hide ((unhide HK3).trans hk4); clear hk4))
            go_ret
            exact ⟨rfl, (unhide HB).trans (unhide HK4)⟩
    · rw [decide_eq_false hx1, Bool.false_and]
      have d1 : ((ex.len : Int) != 1) = true := by simp; omega
      clear hX hxx hxa
      go_enter Tryz.func86, Tryz.ntmps86
      go_wp2_with fail
      go_ret
      exact ⟨rfl, unhide HB⟩

set_option maxRecDepth 100000 in
set_option maxHeartbeats 1600000 in
theorem rWell_v (Z : Zone) (N : Nat) : ∀ (l : SL), l.size < N → l.size ≤ 4294967294 → ∀ (w : World) (up : Nat) (v : Value), SlS Z w up v l →
    Calls Tryz.prog 61 #[v] w fun e w' => e = .returned (.bool (wellS l)) ∧ Keeps (fun _ => False) w w' := by
  induction N with
  | zero => intro l h; omega
  | succ N ih =>
    intro l hsz hlen' w up v hS
    have hlen : l.len ≤ 4294967294 := by have := SL.len_le l; omega
    obtain ⟨ao, cap, b, off, rfl, hcap, ha, hx⟩ := hS.open
    have IH := hide ih
    have HX := hide hx
    have HA := hide ha
    clear hS ih hx ha
    go_enter Tryz.func61, Tryz.ntmps61
    go_wp2_with fail
    go_loopw [3] (fun i wr => ∃ (rest : SL) (k : Nat), i = .int .i64 k ∧ k + rest.len = l.len ∧ rest.size ≤ l.size ∧ wellS rest = wellS l ∧ Keeps (fun _ => False) w wr ∧ StIn Z wr rest b (off + k * 5)) (fun i _ => l.len - (intOf i).toNat)
    case atStart => exact ⟨l, 0, rfl, by omega, Nat.le_refl _, rfl, Keeps.refl _ _, by simpa using unhide HX⟩
    case round =>
      obtain ⟨rest, k, rfl, hkl, hrs, hwe, hkeep, hr⟩ := hrel
      have HK := hide hkeep
      clear hkeep
      cases rest with
      | nil =>
        simp only [SL.len, SL.size, wellS] at hkl hrs hwe
        have HWE := hide hwe
        clear hr hwe
        have i1 : ¬ (k : Int) < (l.len : Int) := by omega
        go_wp2_with fail
        go_ret
        exact ⟨ret_bool (by first | exact unhide HWE | exact (unhide HWE).symm), unhide HK⟩
      | cons op f ex th el rest =>
        obtain ⟨h1, h2, h3, h4, ⟨xv, h5, hxs⟩, ⟨tao, tcap, h6, h7, h8⟩, ⟨eao, ecap, g6, g7, g8⟩, h9⟩ := hr
        rw [wellS_cons] at hwe
        simp only [SL.len, SL.size] at hkl hrs
        obtain ⟨rfl, hp⟩ := (unhide HA) (by omega)
        have HTH : Hid (SlS Z wr b (.slice tao th.len tcap) th) := ⟨tao, tcap, rfl, h7, h8⟩
        have HEL : Hid (SlS Z wr b (.slice eao el.len ecap) el) := ⟨eao, ecap, rfl, g7, g8⟩
        have HEX := hide hxs
        obtain ⟨xao, xcap, rfl, hxl⟩ := hxs.head
        have HR := hide h9
        have HWE := hide hwe
        have i1 : (k : Int) < (l.len : Int) := by omega
        have i0 : (0 : Int) ≤ (k : Int) := by omega
        have hst : Calls Tryz.prog 86 #[stV op f (.slice xao ex.len xcap) (.slice tao th.len tcap) (.slice eao el.len ecap)] wr fun e w' => e = .returned (.bool (stmtB op f ex th el)) ∧ Keeps (fun _ => False) wr w' := by
          by_cases q1 : op = 1 ∨ op = 2 ∨ op = 3 ∨ op = 4
          · exact wellStmt_14 Z op q1 f ex th el (by omega) wr b _ tao eao tcap ecap (unhide HEX)
          by_cases q5 : op = 5
          · exact wellStmt_5 Z op q5 f ex th el (by omega) wr b _ tao eao tcap ecap (unhide HEX)
          by_cases q6 : op = 6 ∨ op = 7
          · exact wellStmt_67 Z op q6 f ex th el (by omega) wr b _ tao eao tcap ecap (unhide HEX)
          by_cases q8 : op = 8
          · subst q8
            exact wellStmt_8 Z f ex th el (by omega) wr b _ tao eao tcap ecap (unhide HEX) (fun w' hk => unhide IH th (by omega) (by omega) w' b _ ((unhide HTH).keepF hk)) (fun w' hk => unhide IH el (by omega) (by omega) w' b _ ((unhide HEL).keepF hk))
          · exact wellStmt_no Z op (by omega) f ex th el (by omega) wr b _ tao eao tcap ecap (unhide HEX)
        have HST := hide hst
        clear h2 h8 h9 hwe hxs g8 hst
        generalize stmtB op f ex th el = bs at HST HWE
        cases bs with
        | false =>
          go_wp2_with (go_at_call 86; refine (unhide HST).mono ?_; rintro e w1 ⟨rfl, hk1⟩)
          go_ret
          exact ⟨ret_bool (by have := unhide HWE; simpa using this), (unhide HK).trans hk1⟩
        | true =>
          go_wp2_with (go_at_call 86; refine (unhide HST).mono ?_; rintro e w1 ⟨rfl, hk1⟩; have HK1 := hide hk1; clear hk1)
          go_roundw
          case rel =>
            refine ⟨rest, k + 1, by go_num, by omega, by omega, by have := unhide HWE; simpa using this, (unhide HK).trans (unhide HK1), ?_⟩
            rw [show off + (k + 1) * 5 = off + k * 5 + 5 by omega]
            exact (unhide HR).keepF (unhide HK1)
          case measure => simp [intOf]; omega
end Go.Proofs.YtoempeobaknkcaaGreatDoor
namespace Go.Proofs.YtoempeobaknkcaaGreatDoor
open Go.RowKit Go.Maps

set_option maxRecDepth 100000 in
set_option maxHeartbeats 800000 in
theorem rCheck_v (Z : Zone) (l : SL) (hsz : l.size ≤ 4294967294) (w : World) (up : Nat) (v : Value) (hS : SlS Z w up v l) :
    Calls Tryz.prog 42 #[v] w fun e w' => e = .returned (.int .i64 (checkS l)) ∧ Keeps (fun _ => False) w w' := by
  have HW := hide (rWell_v Z (l.size + 1) l (by omega) hsz w up v hS)
  have HC := fun (w' : World) (hk : Keeps (fun _ => False) w w') => hide (rCount_v Z (l.size + 1) l (by omega) hsz w' up v (hS.keepF hk))
  have HD := fun (w' : World) (hk : Keeps (fun _ => False) w w') => hide (rDepth_v Z (l.size + 1) l (by omega) hsz w' up v (hS.keepF hk))
  obtain ⟨ao, cap, rfl, hc⟩ := hS.head
  unfold checkS
  clear hS
  generalize wellS l = bw at HW ⊢
  generalize countS l = nc at HC ⊢
  generalize depthS l = nd at HD ⊢
  cases bw with
  | false =>
    rw [if_pos rfl]
    go_enter Tryz.func42, Tryz.ntmps42
    go_wp2_with (go_at_call 61; refine (unhide HW).mono ?_; rintro e w1 ⟨rfl, hk1⟩)
    go_ret
    exact ⟨rfl, hk1⟩
  | true =>
    rw [if_neg (by simp)]
    by_cases h32 : 32 < nc
    · rw [if_pos h32]
      have g32 : (32 : Int) < (nc : Int) := by omega
      go_enter Tryz.func42, Tryz.ntmps42
      go_wp2_with (first
        | (go_at_call 61; refine (unhide HW).mono ?_; rintro e w1 ⟨rfl, hk1⟩; have HK1 := hide hk1; clear hk1)
        | (go_at_call 62; refine (unhide (HC _ (unhide HK1))).mono ?_; rintro e w2 ⟨rfl, hk2⟩; have HK2 := hide ((unhide HK1).trans hk2); clear hk2))
      go_ret
      exact ⟨rfl, unhide HK2⟩
    · rw [if_neg h32]
      have g32 : ¬ (32 : Int) < (nc : Int) := by omega
      by_cases h12 : 12 < nd
      · rw [if_pos h12]
        have g12 : (12 : Int) < (nd : Int) := by omega
        go_enter Tryz.func42, Tryz.ntmps42
        go_wp2_with (first
          | (go_at_call 61; refine (unhide HW).mono ?_; rintro e w1 ⟨rfl, hk1⟩; have HK1 := hide hk1; clear hk1)
          | (go_at_call 62; refine (unhide (HC _ (unhide HK1))).mono ?_; rintro e w2 ⟨rfl, hk2⟩; have HK2 := hide ((unhide HK1).trans hk2); clear hk2)
          | (go_at_call 63; refine (unhide (HD _ (unhide HK2))).mono ?_; rintro e w3 ⟨rfl, hk3⟩; have HK3 := hide ((unhide HK2).trans hk3); clear hk3))
        go_ret
        exact ⟨rfl, unhide HK3⟩
      · rw [if_neg h12]
        have g12 : ¬ (12 : Int) < (nd : Int) := by omega
        go_enter Tryz.func42, Tryz.ntmps42
        go_wp2_with (first
          | (go_at_call 61; refine (unhide HW).mono ?_; rintro e w1 ⟨rfl, hk1⟩; have HK1 := hide hk1; clear hk1)
          | (go_at_call 62; refine (unhide (HC _ (unhide HK1))).mono ?_; rintro e w2 ⟨rfl, hk2⟩; have HK2 := hide ((unhide HK1).trans hk2); clear hk2)
          | (go_at_call 63; refine (unhide (HD _ (unhide HK2))).mono ?_; rintro e w3 ⟨rfl, hk3⟩; have HK3 := hide ((unhide HK2).trans hk3); clear hk3))
        go_ret
        exact ⟨rfl, unhide HK3⟩

end Go.Proofs.YtoempeobaknkcaaGreatDoor
namespace Go.Proofs.YtoempeobaknkcaaGreatDoor
open Go.RowKit Go.Maps

set_option maxRecDepth 100000 in
set_option maxHeartbeats 800000 in
theorem eqExpr_same (op n : Int) (s : Txt) (ka kb ca cb : Nat) (oa ob : Option Addr) (w : World)
    (hK : ∀ w', Keeps (fun _ => False) w w' → Calls Tryz.prog 38 #[.slice oa ka ca, .slice ob kb cb] w' fun e w'' => e = .returned (.bool true) ∧ Keeps (fun _ => False) w' w'') :
    Calls Tryz.prog 57 #[exV op n s (.slice oa ka ca), exV op n s (.slice ob kb cb)] w fun e w' => e = .returned (.bool true) ∧ Keeps (fun _ => False) w w' := by
  have HK := hide hK
  have HB : Hid (Keeps (fun _ => False) w ((w.alloc (.cells #[.int .i64 op, .int .i64 n, str s, .slice oa ka ca] 57)).alloc (.cells #[.int .i64 op, .int .i64 n, str s, .slice ob kb cb] 57))) := hide (((Keeps.refl _ w).alloc _).alloc _)
  clear hK
  go_enter Tryz.func57, Tryz.ntmps57
  go_wp2_with (go_at_call 38; refine (unhide HK _ (unhide HB)).mono ?_; rintro e w1 ⟨rfl, hk1⟩)
  go_ret
  exact ⟨rfl, (unhide HB).trans hk1⟩

set_option maxRecDepth 100000 in
set_option maxHeartbeats 1600000 in
theorem eqExprs_same (Z Y : Zone) (N : Nat) : ∀ (l : EL), l.size < N → l.size ≤ 4294967294 → ∀ (w : World) (ua ub : Nat) (va vb : Value), SlE Z w ua va l → SlE Y w ub vb l →
    Calls Tryz.prog 38 #[va, vb] w fun e w' => e = .returned (.bool true) ∧ Keeps (fun _ => False) w w' := by
  induction N with
  | zero => intro l h; omega
  | succ N ih =>
    intro l hsz hlen' w ua ub va vb hS hT
    have hlen : l.len ≤ 4294967294 := by have := EL.len_le l; omega
    obtain ⟨ao, ac, a, ai, rfl, hac, haa, hax⟩ := hS.open
    obtain ⟨bo, bc, b, bi, rfl, hbc, hba, hbx⟩ := hT.open
    have IH := hide ih
    have HX := hide hax
    have HY := hide hbx
    have HA := hide haa
    have HB := hide hba
    clear hS hT ih hax hbx haa hba
    go_enter Tryz.func38, Tryz.ntmps38
    go_wp2_with fail
    go_loopw [5] (fun i wr => ∃ (rest : EL) (k : Nat), i = .int .i64 k ∧ k + rest.len = l.len ∧ rest.size ≤ l.size ∧ Keeps (fun _ => False) w wr ∧ ExIn Z wr rest a (ai + k * 4) ∧ ExIn Y wr rest b (bi + k * 4)) (fun i _ => l.len - (intOf i).toNat)
    case atStart => exact ⟨l, 0, rfl, by omega, Nat.le_refl _, Keeps.refl _ _, by simpa using unhide HX, by simpa using unhide HY⟩
    case round =>
      obtain ⟨rest, k, rfl, hkl, hrs, hkeep, hr, hq⟩ := hrel
      have HK := hide hkeep
      clear hkeep
      cases rest with
      | nil =>
        simp only [EL.len, EL.size] at hkl hrs
        clear hr hq
        have i1 : ¬ (k : Int) < (l.len : Int) := by omega
        go_wp2_with fail
        go_ret
        exact ⟨rfl, unhide HK⟩
      | cons op n s kids rest =>
        obtain ⟨h1, h2, h3, h4, h5, ⟨kao, kac, h6, h7, h8⟩, h9⟩ := hr
        obtain ⟨g1, g2, g3, g4, g5, ⟨kbo, kbc, g6, g7, g8⟩, g9⟩ := hq
        simp only [EL.len, EL.size] at hkl hrs
        obtain ⟨rfl, hp⟩ := (unhide HA) (by omega)
        obtain ⟨rfl, hp'⟩ := (unhide HB) (by omega)
        have hka : SlE Z wr a (.slice kao kids.len kac) kids := ⟨kao, kac, rfl, h7, h8⟩
        have hkb : SlE Y wr b (.slice kbo kids.len kbc) kids := ⟨kbo, kbc, rfl, g7, g8⟩
        have HR := hide h9
        have HQ := hide g9
        have i1 : (k : Int) < (l.len : Int) := by omega
        have i0 : (0 : Int) ≤ (k : Int) := by omega
        have HE := hide (fun (m : KW wr) => kw_of m (eqExpr_same op n s kids.len kids.len kac kbc kao kbo m.wd (fun w' hk => unhide IH kids (by omega) (by omega) w' a b _ _ (hka.keepF (m.kept.trans hk)) (hkb.keepF (m.kept.trans hk)))))
        have f0 : ∀ m : KW wr, m.wd.cell? ⟨a, ai + k * 4, none⟩ = some (.int .i64 op) := fun m => (m.kept.cell h1 id).trans h3
        have f1 : ∀ m : KW wr, m.wd.cell? ⟨a, ai + k * 4 + 1, none⟩ = some (.int .i64 n) := fun m => (m.kept.cell h1 id).trans h4
        have f2 : ∀ m : KW wr, m.wd.cell? ⟨a, ai + k * 4 + 2, none⟩ = some (str s) := fun m => (m.kept.cell h1 id).trans h5
        have f3 : ∀ m : KW wr, m.wd.cell? ⟨a, ai + k * 4 + 3, none⟩ = some (.slice kao kids.len kac) := fun m => (m.kept.cell h1 id).trans h6
        have e0 : ∀ m : KW wr, m.wd.cell? ⟨b, bi + k * 4, none⟩ = some (.int .i64 op) := fun m => (m.kept.cell g1 id).trans g3
        have e1 : ∀ m : KW wr, m.wd.cell? ⟨b, bi + k * 4 + 1, none⟩ = some (.int .i64 n) := fun m => (m.kept.cell g1 id).trans g4
        have e2 : ∀ m : KW wr, m.wd.cell? ⟨b, bi + k * 4 + 2, none⟩ = some (str s) := fun m => (m.kept.cell g1 id).trans g5
        have e3 : ∀ m : KW wr, m.wd.cell? ⟨b, bi + k * 4 + 3, none⟩ = some (.slice kbo kids.len kbc) := fun m => (m.kept.cell g1 id).trans g6
        clear h2 h8 h9 g2 g8 g9 hka hkb
        go_wp2_with fail
        refine region_kept (by kernel_rfl) (by kernel_rfl) ?_
        repeat (go_big_quiet_step ((go_at_call 57; exact unhide HE _)))
        refine wpQuiet_nil ?_
        rintro _ ⟨nq, rfl⟩
        have HK1 := hide nq.kept
        go_wp2_with fail
        go_roundw
        case rel =>
          refine ⟨rest, k + 1, by go_num, by omega, by omega, (unhide HK).trans (unhide HK1), ?_, ?_⟩
          · rw [show ai + (k + 1) * 4 = ai + k * 4 + 4 by omega]
            exact (unhide HR).keepF (unhide HK1)
          · rw [show bi + (k + 1) * 4 = bi + k * 4 + 4 by omega]
            exact (unhide HQ).keepF (unhide HK1)
        case measure => simp [intOf]; omega

set_option maxRecDepth 100000 in
set_option maxHeartbeats 1600000 in
theorem eqStmts_same (Z Y : Zone) (N : Nat) : ∀ (l : SL), l.size < N → l.size ≤ 4294967294 → ∀ (w : World) (ua ub : Nat) (va vb : Value), SlS Z w ua va l → SlS Y w ub vb l →
    Calls Tryz.prog 18 #[va, vb] w fun e w' => e = .returned (.bool true) ∧ Keeps (fun _ => False) w w' := by
  induction N with
  | zero => intro l h; omega
  | succ N ih =>
    intro l hsz hlen' w ua ub va vb hS hT
    have hlen : l.len ≤ 4294967294 := by have := SL.len_le l; omega
    obtain ⟨ao, ac, a, ai, rfl, hac, haa, hax⟩ := hS.open
    obtain ⟨bo, bc, b, bi, rfl, hbc, hba, hbx⟩ := hT.open
    have IH := hide ih
    have HX := hide hax
    have HY := hide hbx
    have HA := hide haa
    have HB := hide hba
    clear hS hT ih hax hbx haa hba
    go_enter Tryz.func18, Tryz.ntmps18
    go_wp2_with fail
    go_loopw [5] (fun i wr => ∃ (rest : SL) (k : Nat), i = .int .i64 k ∧ k + rest.len = l.len ∧ rest.size ≤ l.size ∧ Keeps (fun _ => False) w wr ∧ StIn Z wr rest a (ai + k * 5) ∧ StIn Y wr rest b (bi + k * 5)) (fun i _ => l.len - (intOf i).toNat)
    case atStart => exact ⟨l, 0, rfl, by omega, Nat.le_refl _, Keeps.refl _ _, by simpa using unhide HX, by simpa using unhide HY⟩
    case round =>
      obtain ⟨rest, k, rfl, hkl, hrs, hkeep, hr, hq⟩ := hrel
      have HK := hide hkeep
      clear hkeep
      cases rest with
      | nil =>
        simp only [SL.len, SL.size] at hkl hrs
        clear hr hq
        have i1 : ¬ (k : Int) < (l.len : Int) := by omega
        go_wp2_with fail
        go_ret
        exact ⟨rfl, unhide HK⟩
      | cons op f ex th el rest =>
        obtain ⟨h1, h2, h3, h4, ⟨xv, h5, hxs⟩, ⟨tao, tac, h6, h7, h8⟩, ⟨eao, eac, j6, j7, j8⟩, h9⟩ := hr
        obtain ⟨g1, g2, g3, g4, ⟨yv, g5, gxs⟩, ⟨tbo, tbc, g6, g7, g8⟩, ⟨ebo, ebc, k6, k7, k8⟩, g9⟩ := hq
        simp only [SL.len, SL.size] at hkl hrs
        obtain ⟨rfl, hp⟩ := (unhide HA) (by omega)
        obtain ⟨rfl, hp'⟩ := (unhide HB) (by omega)
        have hta : SlS Z wr a (.slice tao th.len tac) th := ⟨tao, tac, rfl, h7, h8⟩
        have htb : SlS Y wr b (.slice tbo th.len tbc) th := ⟨tbo, tbc, rfl, g7, g8⟩
        have hea : SlS Z wr a (.slice eao el.len eac) el := ⟨eao, eac, rfl, j7, j8⟩
        have heb : SlS Y wr b (.slice ebo el.len ebc) el := ⟨ebo, ebc, rfl, k7, k8⟩
        obtain ⟨xao, xac, rfl, hxl⟩ := hxs.head
        obtain ⟨xbo, xbc, rfl, gxl⟩ := gxs.head
        have HR := hide h9
        have HQ := hide g9
        have i1 : (k : Int) < (l.len : Int) := by omega
        have i0 : (0 : Int) ≤ (k : Int) := by omega
        have HEX := fun (w' : World) (hk : Keeps (fun _ => False) wr w') => hide (eqExprs_same Z Y (ex.size + 1) ex (by omega) (by omega) w' a b _ _ (hxs.keepF hk) (gxs.keepF hk))
        have HET := fun (w' : World) (hk : Keeps (fun _ => False) wr w') => hide (unhide IH th (by omega) (by omega) w' a b _ _ (hta.keepF hk) (htb.keepF hk))
        have HEE := fun (w' : World) (hk : Keeps (fun _ => False) wr w') => hide (unhide IH el (by omega) (by omega) w' a b _ _ (hea.keepF hk) (heb.keepF hk))
        clear h2 h8 h9 g2 g8 g9 j8 k8 hta htb hea heb hxs gxs
        obtain ⟨HBA, hab, hac'⟩ := boxedT wr #[.int .i64 op, str f, .slice xao ex.len xac, .slice tao th.len tac, .slice eao el.len eac] 53
        obtain ⟨HBB, hbb, hbc'⟩ := boxedT (wr.alloc (.cells #[.int .i64 op, str f, .slice xao ex.len xac, .slice tao th.len tac, .slice eao el.len eac] 53)) #[.int .i64 op, str f, .slice xbo ex.len xbc, .slice tbo th.len tbc, .slice ebo el.len ebc] 53
        have hsz1 : (wr.alloc (.cells #[.int .i64 op, str f, .slice xao ex.len xac, .slice tao th.len tac, .slice eao el.len eac] 53)).heap.size = wr.heap.size + 1 := by simp
        have ca3 := ((unhide HBB).cell (o := 3) hab id).trans (hac' 3 (.slice tao th.len tac) rfl)
        have ca4 := ((unhide HBB).cell (o := 4) hab id).trans (hac' 4 (.slice eao el.len eac) rfl)
        have cb3 := hbc' 3 (.slice tbo th.len tbc) rfl
        have cb4 := hbc' 4 (.slice ebo el.len ebc) rfl
        have hab2 := Nat.lt_trans hab hbb
        have HB2 := hide ((unhide HBA).trans (unhide HBB))
        rw [hsz1] at cb3 cb4 hbb
        clear hac' hbc' hsz1 HBA HBB
        go_wp2_with (first
          | (go_at_call 38; refine (unhide (HEX _ (unhide HB2))).mono ?_; rintro e w1 ⟨rfl, hk1⟩; have HJ1 := hide hk1; have HK1 := hide ((unhide HB2).trans hk1); have ra3 := (hk1.cell (o := 3) hab2 id).trans ca3; have rb3 := (hk1.cell (o := 3) hbb id).trans cb3; clear hk1)
          | (go_at_call_of 18 (Value.slice tao th.len tac); refine (unhide (HET _ (unhide HK1))).mono ?_; rintro e w2 ⟨rfl, hk2⟩; have HJ2 := hide ((unhide HJ1).trans hk2); have HK2 := hide ((unhide HK1).trans hk2); have ra4 := ((unhide HJ2).cell (o := 4) hab2 id).trans ca4; have rb4 := ((unhide HJ2).cell (o := 4) hbb id).trans cb4; clear hk2)
          | (go_at_call_of 18 (Value.slice eao el.len eac); refine (unhide (HEE _ (unhide HK2))).mono ?_; rintro e w3 ⟨rfl, hk3⟩; have HK3 := hide ((unhide HK2).trans hk3); clear hk3))
        go_roundw
        case rel =>
          refine ⟨rest, k + 1, by go_num, by omega, by omega, (unhide HK).trans (unhide HK3), ?_, ?_⟩
          · rw [show ai + (k + 1) * 5 = ai + k * 5 + 5 by omega]
            exact (unhide HR).keepF (unhide HK3)
          · rw [show bi + (k + 1) * 5 = bi + k * 5 + 5 by omega]
            exact (unhide HQ).keepF (unhide HK3)
        case measure => simp [intOf]; omega
end Go.Proofs.YtoempeobaknkcaaGreatDoor
