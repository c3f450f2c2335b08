import Derived.Test.YtnaajeldbgmdjaaDoorJf
namespace Go.Proofs.YtnaajeldbgmdjaaDoor
open Go.RowKit Go.Maps

set_option maxRecDepth 100000 in
set_option maxHeartbeats 1600000 in
theorem wellStmt_8 (Z : Zone) (f : Txt) (ex : EL) (th el : SL) (hsz : ex.size ≤ 2147483647) (w : World) (up : Nat) (xv : Value) (tao eao : Option Addr) (tcap ecap : Nat) (hX : SlE Z w up xv ex)
    (hT : ∀ w', Keeps (fun _ => False) w w' → Calls Tryd.prog 46 #[.slice tao th.len tcap] w' fun e w'' => e = .returned (.bool (wellS th)) ∧ Keeps (fun _ => False) w' w'')
    (hE : ∀ w', Keeps (fun _ => False) w w' → Calls Tryd.prog 46 #[.slice eao el.len ecap] w' fun e w'' => e = .returned (.bool (wellS el)) ∧ Keeps (fun _ => False) w' w'') :
    Calls Tryd.prog 69 #[stV 8 f xv (.slice tao th.len tcap) (.slice eao el.len ecap)] w fun e w' => e = .returned (.bool (stmtB 8 f ex th el)) ∧ Keeps (fun _ => False) w w' := by
  rw [stmtB_8 f ex th el]
  obtain ⟨xao, xcap, xb, xoff, rfl, hxcap, hxa, hxx⟩ := hX.open
  obtain ⟨HB, hxb, hxc⟩ := boxedT w #[.int .i64 8, str f, .slice xao ex.len xcap, .slice tao th.len tcap, .slice eao el.len ecap] 87
  have c0 := hxc 0 (.int .i64 8) rfl
  have c1 := hxc 1 (str f) rfl
  have c2 := hxc 2 (.slice xao ex.len xcap) rfl
  have c3 := hxc 3 (.slice tao th.len tcap) rfl
  have c4 := hxc 4 (.slice eao el.len ecap) rfl
  have HT := hide hT
  have HE := hide hE
  clear hxc hT hE
  cases f with
  | cons fc fr =>
    rw [decide_eq_false (by simp), Bool.false_and]
    clear hX hxx hxa
    go_enter Tryd.func69, Tryd.ntmps69
    go_wp2_with fail
    go_ret
    exact ⟨rfl, unhide HB⟩
  | nil =>
    rw [decide_eq_true rfl, Bool.true_and]
    by_cases hx1 : ex.len = 1
    · match ex, hx1 with
      | .cons xo xn xs xk .nil, _ =>
        obtain ⟨rfl, hp⟩ := hxa (by simp [EL.len])
        obtain ⟨h1, h2, h3, h4, h5, ⟨kao, kcap, h6, h7, h8⟩, h9⟩ := hxx
        have HW := hide (wellExpr_v Z (xk.size + 1) xk (by omega) (by simp [EL.size] at hsz; omega) xo xn xs (w.alloc (.cells #[.int .i64 8, str [], .slice (some ⟨xb, xoff, none⟩) (EL.cons xo xn xs xk .nil).len xcap, .slice tao th.len tcap, .slice eao el.len ecap] 87)) xb (.slice kao xk.len kcap) (SlE.keepF ⟨kao, kcap, rfl, h7, h8⟩ (unhide HB)))
        have e3 := ((unhide HB).cell h1 id).trans h3
        have e4 := ((unhide HB).cell h1 id).trans h4
        have e5 := ((unhide HB).cell h1 id).trans h5
        have e6 := ((unhide HB).cell h1 id).trans h6
        have ewe : wellE (EL.cons xo xn xs xk .nil) = (rootB xo xn xs xk.len && wellE xk) := by simp [wellE]
        have el1 : (EL.cons xo xn xs xk .nil).len = 1 := rfl
        rw [ewe, el1, decide_eq_true rfl, Bool.true_and]
        simp only [el1] at HW c0 c1 c2 c3 c4 hxb HB e3 e4 e5 e6
        clear hX h2 h8 h9 h3 h4 h5 h6 hxa ewe
        cases hv : (rootB xo xn xs xk.len && wellE xk) with
        | false =>
          rw [hv] at HW
          rw [Bool.false_and]
          go_enter Tryd.func69, Tryd.ntmps69
          go_wp2_with (go_at_call 36; refine (unhide HW).mono ?_; rintro e w2 ⟨rfl, hk2⟩; have HK2 := hide hk2; clear hk2)
          go_ret
          exact ⟨rfl, (unhide HB).trans (unhide HK2)⟩
        | true =>
          rw [hv] at HW
          rw [Bool.true_and]
          generalize wellS th = bt at HT ⊢
          generalize wellS el = be at HE ⊢
          cases bt with
          | false =>
            rw [Bool.false_and]
            go_enter Tryd.func69, Tryd.ntmps69
            go_wp2_with (first
              | (go_at_call 36; refine (unhide HW).mono ?_; rintro e w2 ⟨rfl, hk2⟩; have HK2 := hide hk2; have r0 := (hk2.cell (o := 0) hxb id).trans c0; have r3 := (hk2.cell (o := 3) hxb id).trans c3; have r4 := (hk2.cell (o := 4) hxb id).trans c4; clear hk2)
              | (go_at_call_of 46 (Value.slice tao th.len tcap); refine (unhide HT _ ((unhide HB).trans (unhide HK2))).mono ?_; rintro e w3 ⟨rfl, hk3⟩; have HK3 := hide ((unhide HK2).trans hk3); clear hk3))
            go_ret
            exact ⟨rfl, (unhide HB).trans (unhide HK3)⟩
          | true =>
            rw [Bool.true_and]
            go_enter Tryd.func69, Tryd.ntmps69
            go_wp2_with (first
              | (go_at_call 36; refine (unhide HW).mono ?_; rintro e w2 ⟨rfl, hk2⟩; have HJ2 := hide hk2; have HK2 := hide hk2; have r0 := (hk2.cell (o := 0) hxb id).trans c0; have r3 := (hk2.cell (o := 3) hxb id).trans c3; clear hk2)
              | (go_at_call_of 46 (Value.slice tao th.len tcap); refine (unhide HT _ ((unhide HB).trans (unhide HK2))).mono ?_; rintro e w3 ⟨rfl, hk3⟩; have HK3 := hide ((unhide HK2).trans hk3); have r4 := ((unhide HK3).cell (o := 4) hxb id).trans c4; clear hk3)
              | (go_at_call_of 46 (Value.slice eao el.len ecap); refine (unhide HE _ ((unhide HB).trans (unhide HK3))).mono ?_; rintro e w4 ⟨rfl, hk4⟩; have HK4 := hide ((unhide HK3).trans hk4); clear hk4))
            go_ret
            exact ⟨rfl, (unhide HB).trans (unhide HK4)⟩
    · rw [decide_eq_false hx1, Bool.false_and]
      have d1 : ((ex.len : Int) != 1) = true := by simp; omega
      clear hX hxx hxa
      go_enter Tryd.func69, Tryd.ntmps69
      go_wp2_with fail
      go_ret
      exact ⟨rfl, unhide HB⟩

set_option maxRecDepth 100000 in
set_option maxHeartbeats 1600000 in
theorem rWell_v (Z : Zone) (N : Nat) : ∀ (l : SL), l.size < N → l.size ≤ 2147483647 → ∀ (w : World) (up : Nat) (v : Value), SlS Z w up v l →
    Calls Tryd.prog 46 #[v] w fun e w' => e = .returned (.bool (wellS l)) ∧ Keeps (fun _ => False) w w' := by
  induction N with
  | zero => intro l h; omega
  | succ N ih =>
    intro l hsz hlen' w up v hS
    have hlen : l.len ≤ 2147483647 := by have := SL.len_le l; omega
    obtain ⟨ao, cap, b, off, rfl, hcap, ha, hx⟩ := hS.open
    have IH := hide ih
    have HX := hide hx
    have HA := hide ha
    clear hS ih hx ha
    go_enter Tryd.func46, Tryd.ntmps46
    go_wp2_with fail
    go_loopw [3] (fun i wr => ∃ (rest : SL) (k : Nat), i = .int .i64 k ∧ k + rest.len = l.len ∧ rest.size ≤ l.size ∧ wellS rest = wellS l ∧ Keeps (fun _ => False) w wr ∧ StIn Z wr rest b (off + k * 5)) (fun i _ => l.len - (intOf i).toNat)
    case atStart => exact ⟨l, 0, rfl, by omega, Nat.le_refl _, rfl, Keeps.refl _ _, by simpa using unhide HX⟩
    case round =>
      obtain ⟨rest, k, rfl, hkl, hrs, hwe, hkeep, hr⟩ := hrel
      have HK := hide hkeep
      clear hkeep
      cases rest with
      | nil =>
        simp only [SL.len, SL.size, wellS] at hkl hrs hwe
        have HWE := hide hwe
        clear hr hwe
        have i1 : ¬ (k : Int) < (l.len : Int) := by omega
        go_wp2_with fail
        go_ret
        exact ⟨ret_bool (by first | exact unhide HWE | exact (unhide HWE).symm), unhide HK⟩
      | cons op f ex th el rest =>
        obtain ⟨h1, h2, h3, h4, ⟨xv, h5, hxs⟩, ⟨tao, tcap, h6, h7, h8⟩, ⟨eao, ecap, g6, g7, g8⟩, h9⟩ := hr
        rw [wellS_cons] at hwe
        simp only [SL.len, SL.size] at hkl hrs
        obtain ⟨rfl, hp⟩ := (unhide HA) (by omega)
        have HTH : Hid (SlS Z wr b (.slice tao th.len tcap) th) := ⟨tao, tcap, rfl, h7, h8⟩
        have HEL : Hid (SlS Z wr b (.slice eao el.len ecap) el) := ⟨eao, ecap, rfl, g7, g8⟩
        have HEX := hide hxs
        obtain ⟨xao, xcap, rfl, hxl⟩ := hxs.head
        have HR := hide h9
        have HWE := hide hwe
        have i1 : (k : Int) < (l.len : Int) := by omega
        have i0 : (0 : Int) ≤ (k : Int) := by omega
        have hst : Calls Tryd.prog 69 #[stV op f (.slice xao ex.len xcap) (.slice tao th.len tcap) (.slice eao el.len ecap)] wr fun e w' => e = .returned (.bool (stmtB op f ex th el)) ∧ Keeps (fun _ => False) wr w' := by
          by_cases q1 : op = 1 ∨ op = 2 ∨ op = 3 ∨ op = 4
          · exact wellStmt_14 Z op q1 f ex th el (by omega) wr b _ tao eao tcap ecap (unhide HEX)
          by_cases q5 : op = 5
          · exact wellStmt_5 Z op q5 f ex th el (by omega) wr b _ tao eao tcap ecap (unhide HEX)
          by_cases q6 : op = 6 ∨ op = 7
          · exact wellStmt_67 Z op q6 f ex th el (by omega) wr b _ tao eao tcap ecap (unhide HEX)
          by_cases q8 : op = 8
          · subst q8
            exact wellStmt_8 Z f ex th el (by omega) wr b _ tao eao tcap ecap (unhide HEX) (fun w' hk => unhide IH th (by omega) (by omega) w' b _ ((unhide HTH).keepF hk)) (fun w' hk => unhide IH el (by omega) (by omega) w' b _ ((unhide HEL).keepF hk))
          · exact wellStmt_no Z op (by omega) f ex th el (by omega) wr b _ tao eao tcap ecap (unhide HEX)
        have HST := hide hst
        clear h2 h8 h9 hwe hxs g8 hst
        generalize stmtB op f ex th el = bs at HST HWE
        cases bs with
        | false =>
          go_wp2_with (go_at_call 69; refine (unhide HST).mono ?_; rintro e w1 ⟨rfl, hk1⟩)
          go_ret
          exact ⟨ret_bool (by have := unhide HWE; simpa using this), (unhide HK).trans hk1⟩
        | true =>
          go_wp2_with (go_at_call 69; refine (unhide HST).mono ?_; rintro e w1 ⟨rfl, hk1⟩; have HK1 := hide hk1; clear hk1)
          go_roundw
          case rel =>
            refine ⟨rest, k + 1, by go_num, by omega, by omega, by have := unhide HWE; simpa using this, (unhide HK).trans (unhide HK1), ?_⟩
            rw [show off + (k + 1) * 5 = off + k * 5 + 5 by omega]
            exact (unhide HR).keepF (unhide HK1)
          case measure => simp [intOf]; omega
end Go.Proofs.YtnaajeldbgmdjaaDoor
