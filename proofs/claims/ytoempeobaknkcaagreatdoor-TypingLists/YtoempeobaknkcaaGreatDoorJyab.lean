import Derived.Test.YtoempeobaknkcaaGreatDoorJyaa
namespace Go.Proofs.YtoempeobaknkcaaGreatDoor
open Go.RowKit Go.Maps

set_option maxRecDepth 100000 in
set_option maxHeartbeats 1600000 in
theorem headFits_v (op : Int) (f : Txt) (xo to eo : Option Addr) (x t e xc tc ec : Nat) (w : World) :
    Calls Tryz.prog 70 #[stV op f (.slice xo x xc) (.slice to t tc) (.slice eo e ec)] w fun en w' => en = .returned (.bool (headS op f x t e)) ∧ Keeps (fun _ => False) w w' := by
  obtain ⟨HX, hxb, hxc⟩ := boxedT w #[.int .i64 op, str f, .slice xo x xc, .slice to t tc, .slice eo e ec] 53
  have c0 := hxc 0 (.int .i64 op) rfl
  have c1 := hxc 1 (str f) rfl
  have c2 := hxc 2 (.slice xo x xc) rfl
  have c3 := hxc 3 (.slice to t tc) rfl
  have c4 := hxc 4 (.slice eo e ec) rfl
  have HN := hide (name_v f)
  clear hxc
  unfold headS
  by_cases h1 : op = 1
  · subst h1
    rw [if_pos (by omega)]
    go_enter Tryz.func70, Tryz.ntmps70
    go_wp2_with (go_at_call 46; refine (unhide HN _).mono ?_; rintro e w1 ⟨rfl, rfl⟩)
    all_goals (go_ret; refine ⟨ret_bool ?_, (Keeps.refl _ w).alloc _⟩; clear HX c0 c1 c2 c3 c4 HN hxb; first | (cases f <;> simp_all; done) | (simp_all; done) | (simp_all; omega) | (simp_all; rw [Bool.eq_iff_iff]; simp; done) | (simp_all; rw [Bool.eq_iff_iff]; simp; omega) | (cases f <;> simp_all <;> first | omega | (rw [Bool.eq_iff_iff]; simp; done) | (rw [Bool.eq_iff_iff]; simp; omega)))
  by_cases h2 : op = 2
  · subst h2
    rw [if_pos (by omega)]
    go_enter Tryz.func70, Tryz.ntmps70
    go_wp2_with (go_at_call 46; refine (unhide HN _).mono ?_; rintro e w1 ⟨rfl, rfl⟩)
    all_goals (go_ret; refine ⟨ret_bool ?_, (Keeps.refl _ w).alloc _⟩; clear HX c0 c1 c2 c3 c4 HN hxb; first | (cases f <;> simp_all; done) | (simp_all; done) | (simp_all; omega) | (simp_all; rw [Bool.eq_iff_iff]; simp; done) | (simp_all; rw [Bool.eq_iff_iff]; simp; omega) | (cases f <;> simp_all <;> first | omega | (rw [Bool.eq_iff_iff]; simp; done) | (rw [Bool.eq_iff_iff]; simp; omega)))
  by_cases h3 : op = 3
  · subst h3
    rw [if_pos (by omega)]
    go_enter Tryz.func70, Tryz.ntmps70
    go_wp2_with (go_at_call 46; refine (unhide HN _).mono ?_; rintro e w1 ⟨rfl, rfl⟩)
    all_goals (go_ret; refine ⟨ret_bool ?_, (Keeps.refl _ w).alloc _⟩; clear HX c0 c1 c2 c3 c4 HN hxb; first | (cases f <;> simp_all; done) | (simp_all; done) | (simp_all; omega) | (simp_all; rw [Bool.eq_iff_iff]; simp; done) | (simp_all; rw [Bool.eq_iff_iff]; simp; omega) | (cases f <;> simp_all <;> first | omega | (rw [Bool.eq_iff_iff]; simp; done) | (rw [Bool.eq_iff_iff]; simp; omega)))
  by_cases h4 : op = 4
  · subst h4
    rw [if_pos (by omega)]
    go_enter Tryz.func70, Tryz.ntmps70
    go_wp2_with (go_at_call 46; refine (unhide HN _).mono ?_; rintro e w1 ⟨rfl, rfl⟩)
    all_goals (go_ret; refine ⟨ret_bool ?_, (Keeps.refl _ w).alloc _⟩; clear HX c0 c1 c2 c3 c4 HN hxb; first | (cases f <;> simp_all; done) | (simp_all; done) | (simp_all; omega) | (simp_all; rw [Bool.eq_iff_iff]; simp; done) | (simp_all; rw [Bool.eq_iff_iff]; simp; omega) | (cases f <;> simp_all <;> first | omega | (rw [Bool.eq_iff_iff]; simp; done) | (rw [Bool.eq_iff_iff]; simp; omega)))
  by_cases h5 : op = 5
  · subst h5
    rw [if_neg (by omega)]
    rw [if_pos (by omega)]
    go_enter Tryz.func70, Tryz.ntmps70
    go_wp2_with (go_at_call 46; refine (unhide HN _).mono ?_; rintro e w1 ⟨rfl, rfl⟩)
    all_goals (go_ret; refine ⟨ret_bool ?_, (Keeps.refl _ w).alloc _⟩; clear HX c0 c1 c2 c3 c4 HN hxb; first | (cases f <;> simp_all; done) | (simp_all; done) | (simp_all; omega) | (simp_all; rw [Bool.eq_iff_iff]; simp; done) | (simp_all; rw [Bool.eq_iff_iff]; simp; omega) | (cases f <;> simp_all <;> first | omega | (rw [Bool.eq_iff_iff]; simp; done) | (rw [Bool.eq_iff_iff]; simp; omega)))
  by_cases h6 : op = 6
  · subst h6
    rw [if_neg (by omega)]
    rw [if_neg (by omega)]
    rw [if_pos (by omega)]
    go_enter Tryz.func70, Tryz.ntmps70
    go_wp2_with (go_at_call 46; refine (unhide HN _).mono ?_; rintro e w1 ⟨rfl, rfl⟩)
    all_goals (go_ret; refine ⟨ret_bool ?_, (Keeps.refl _ w).alloc _⟩; clear HX c0 c1 c2 c3 c4 HN hxb; first | (cases f <;> simp_all; done) | (simp_all; done) | (simp_all; omega) | (simp_all; rw [Bool.eq_iff_iff]; simp; done) | (simp_all; rw [Bool.eq_iff_iff]; simp; omega) | (cases f <;> simp_all <;> first | omega | (rw [Bool.eq_iff_iff]; simp; done) | (rw [Bool.eq_iff_iff]; simp; omega)))
  by_cases h7 : op = 7
  · subst h7
    rw [if_neg (by omega)]
    rw [if_neg (by omega)]
    rw [if_pos (by omega)]
    go_enter Tryz.func70, Tryz.ntmps70
    go_wp2_with (go_at_call 46; refine (unhide HN _).mono ?_; rintro e w1 ⟨rfl, rfl⟩)
    all_goals (go_ret; refine ⟨ret_bool ?_, (Keeps.refl _ w).alloc _⟩; clear HX c0 c1 c2 c3 c4 HN hxb; first | (cases f <;> simp_all; done) | (simp_all; done) | (simp_all; omega) | (simp_all; rw [Bool.eq_iff_iff]; simp; done) | (simp_all; rw [Bool.eq_iff_iff]; simp; omega) | (cases f <;> simp_all <;> first | omega | (rw [Bool.eq_iff_iff]; simp; done) | (rw [Bool.eq_iff_iff]; simp; omega)))
  by_cases h8 : op = 8
  · subst h8
    rw [if_neg (by omega)]
    rw [if_neg (by omega)]
    rw [if_neg (by omega)]
    rw [if_pos (by omega)]
    go_enter Tryz.func70, Tryz.ntmps70
    go_wp2_with (go_at_call 46; refine (unhide HN _).mono ?_; rintro e w1 ⟨rfl, rfl⟩)
    all_goals (go_ret; refine ⟨ret_bool ?_, (Keeps.refl _ w).alloc _⟩; clear HX c0 c1 c2 c3 c4 HN hxb; first | (cases f <;> simp_all; done) | (simp_all; done) | (simp_all; omega) | (simp_all; rw [Bool.eq_iff_iff]; simp; done) | (simp_all; rw [Bool.eq_iff_iff]; simp; omega) | (cases f <;> simp_all <;> first | omega | (rw [Bool.eq_iff_iff]; simp; done) | (rw [Bool.eq_iff_iff]; simp; omega)))
  rw [if_neg (by omega), if_neg (by omega), if_neg (by omega), if_neg (by omega)]
  have d1 : (op == 1) = false := by simpa using h1
  have d2 : (op == 2) = false := by simpa using h2
  have d3 : (op == 3) = false := by simpa using h3
  have d4 : (op == 4) = false := by simpa using h4
  have d5 : (op == 5) = false := by simpa using h5
  have d6 : (op == 6) = false := by simpa using h6
  have d7 : (op == 7) = false := by simpa using h7
  have d8 : (op == 8) = false := by simpa using h8
  clear h1 h2 h3 h4 h5 h6 h7 h8
  go_enter Tryz.func70, Tryz.ntmps70
  go_wp2_with (go_at_call 46; refine (unhide HN _).mono ?_; rintro e w1 ⟨rfl, rfl⟩)
  all_goals (go_ret; exact ⟨rfl, (Keeps.refl _ w).alloc _⟩)
end Go.Proofs.YtoempeobaknkcaaGreatDoor
namespace Go.Proofs.YtoempeobaknkcaaGreatDoor
open Go.RowKit Go.Maps

set_option maxRecDepth 100000 in
set_option maxHeartbeats 1600000 in
theorem wellMade_v (Z : Zone) (N : Nat) : ∀ (l : SL), l.size < N → l.size ≤ 4294967294 → ∀ (w : World) (up : Nat) (v : Value), Forms w → SlS Z w up v l →
    Calls Tryz.prog 50 #[v] w fun e w' => e = .returned (.bool (wellS l)) ∧ Keeps (fun _ => False) w w' := by
  induction N with
  | zero => intro l h; omega
  | succ N ih =>
    intro l hsz hlen' w up v hF hS
    have hlen : l.len ≤ 4294967294 := by have := SL.len_le l; omega
    obtain ⟨ao, cap, b, off, rfl, hcap, ha, hx⟩ := hS.open
    have IH := hide ih
    have HX := hide hx
    have HA := hide ha
    have HF := hide hF
    clear hS ih hx ha hF
    go_enter Tryz.func50, Tryz.ntmps50
    go_wp2_with fail
    go_loopw [7] (fun i wr => ∃ (rest : SL) (k : Nat), i = .int .i64 k ∧ k + rest.len = l.len ∧ rest.size ≤ l.size ∧ wellS rest = wellS l ∧ Keeps (fun _ => False) w wr ∧ StIn Z wr rest b (off + k * 5)) (fun i _ => l.len - (intOf i).toNat)
    case atStart => exact ⟨l, 0, rfl, by omega, Nat.le_refl _, rfl, Keeps.refl _ _, by simpa using unhide HX⟩
    case round =>
      obtain ⟨rest, k, rfl, hkl, hrs, hwe, hkeep, hr⟩ := hrel
      cases rest with
      | nil =>
        simp only [SL.len, SL.size, wellS] at hkl hrs hwe
        have HK := hide hkeep
        have HWE := hide hwe
        clear hkeep hr hwe
        have i1 : ¬ (k : Int) < (l.len : Int) := by omega
        go_wp2_with fail
        go_ret
        exact ⟨ret_bool (by first | exact unhide HWE | exact (unhide HWE).symm), unhide HK⟩
      | cons op f ex th el rest =>
        obtain ⟨h1, h2, h3, h4, ⟨xv, h5, hxs⟩, ⟨tao, tcap, h6, h7, h8⟩, ⟨eao, ecap, g6, g7, g8⟩, h9⟩ := hr
        simp only [SL.len, SL.size, wellS] at hkl hrs hwe
        obtain ⟨rfl, hp⟩ := (unhide HA) (by omega)
        have HTH : Hid (SlS Z wr b (.slice tao th.len tcap) th) := ⟨tao, tcap, rfl, h7, h8⟩
        have HEL : Hid (SlS Z wr b (.slice eao el.len ecap) el) := ⟨eao, ecap, rfl, g7, g8⟩
        have HEX := hide hxs
        obtain ⟨xao, xcap, rfl, hxl⟩ := hxs.head
        have HR := hide h9
        have HK := hide hkeep
        have HWE := hide hwe
        have i1 : (k : Int) < (l.len : Int) := by omega
        have i0 : (0 : Int) ≤ (k : Int) := by omega
        obtain ⟨HB, hxb, hxc⟩ := boxedT wr #[.int .i64 op, str f, .slice xao ex.len xcap, .slice tao th.len tcap, .slice eao el.len ecap] 53
        have q2 := hxc 2 (.slice xao ex.len xcap) rfl
        have q3 := hxc 3 (.slice tao th.len tcap) rfl
        have q4 := hxc 4 (.slice eao el.len ecap) rfl
        have HFW := hide ((unhide HF).keepF (unhide HK))
        have HHD := hide (headFits_v op f xao tao eao ex.len th.len el.len xcap tcap ecap (wr.alloc (.cells #[.int .i64 op, str f, .slice xao ex.len xcap, .slice tao th.len tcap, .slice eao el.len ecap] 53)))
        have HQX := fun (w' : World) (hk : Keeps (fun _ => False) wr w') => hide (exprsWellMade_v Z (ex.size + 1) ex (by omega) (by omega) w' b (.slice xao ex.len xcap) ((unhide HFW).keepF hk) ((unhide HEX).keepF hk))
        have HQT := fun (w' : World) (hk : Keeps (fun _ => False) wr w') => hide (unhide IH th (by omega) (by omega) w' b (.slice tao th.len tcap) ((unhide HFW).keepF hk) ((unhide HTH).keepF hk))
        have HQE := fun (w' : World) (hk : Keeps (fun _ => False) wr w') => hide (unhide IH el (by omega) (by omega) w' b (.slice eao el.len ecap) ((unhide HFW).keepF hk) ((unhide HEL).keepF hk))
        clear hkeep h2 h8 h9 hwe hxc hxs g8
        generalize headS op f ex.len th.len el.len = b1 at HHD HWE
        generalize wellE ex = b2 at HQX HWE
        generalize wellS th = b3 at HQT HWE
        generalize wellS el = b4 at HQE HWE
        cases b1 with
        | false =>
          go_wp2_with (first
            | (go_at_call 70; refine (unhide HHD).mono ?_; rintro e w1 ⟨rfl, hk1⟩; have HJ1 := hide hk1; have HK1 := hide ((unhide HB).trans hk1); have r2 := (hk1.cell (o := 2) hxb id).trans q2; clear hk1)
            | (go_at_call 55; refine (unhide (HQX _ (unhide HK1))).mono ?_; rintro e w2 ⟨rfl, hk2⟩; have HJ2 := hide ((unhide HJ1).trans hk2); have HK2 := hide ((unhide HK1).trans hk2); have r3 := ((unhide HJ2).cell (o := 3) hxb id).trans q3; clear hk2)
            | (go_at_call_of 50 (Value.slice tao th.len tcap); refine (unhide (HQT _ (unhide HK2))).mono ?_; rintro e w3 ⟨rfl, hk3⟩; have HJ3 := hide ((unhide HJ2).trans hk3); have HK3 := hide ((unhide HK2).trans hk3); have r4 := ((unhide HJ3).cell (o := 4) hxb id).trans q4; clear hk3)
            | (go_at_call_of 50 (Value.slice eao el.len ecap); refine (unhide (HQE _ (unhide HK3))).mono ?_; rintro e w4 ⟨rfl, hk4⟩; have HK4 := hide ((unhide HK3).trans hk4); clear hk4))
          go_ret
          exact ⟨ret_bool (by have := unhide HWE; simpa using this), (unhide HK).trans (unhide HK1)⟩
        | true =>
          cases b2 with
          | false =>
            go_wp2_with (first
              | (go_at_call 70; refine (unhide HHD).mono ?_; rintro e w1 ⟨rfl, hk1⟩; have HJ1 := hide hk1; have HK1 := hide ((unhide HB).trans hk1); have r2 := (hk1.cell (o := 2) hxb id).trans q2; clear hk1)
              | (go_at_call 55; refine (unhide (HQX _ (unhide HK1))).mono ?_; rintro e w2 ⟨rfl, hk2⟩; have HJ2 := hide ((unhide HJ1).trans hk2); have HK2 := hide ((unhide HK1).trans hk2); have r3 := ((unhide HJ2).cell (o := 3) hxb id).trans q3; clear hk2)
              | (go_at_call_of 50 (Value.slice tao th.len tcap); refine (unhide (HQT _ (unhide HK2))).mono ?_; rintro e w3 ⟨rfl, hk3⟩; have HJ3 := hide ((unhide HJ2).trans hk3); have HK3 := hide ((unhide HK2).trans hk3); have r4 := ((unhide HJ3).cell (o := 4) hxb id).trans q4; clear hk3)
              | (go_at_call_of 50 (Value.slice eao el.len ecap); refine (unhide (HQE _ (unhide HK3))).mono ?_; rintro e w4 ⟨rfl, hk4⟩; have HK4 := hide ((unhide HK3).trans hk4); clear hk4))
            go_ret
            exact ⟨ret_bool (by have := unhide HWE; simpa using this), (unhide HK).trans (unhide HK2)⟩
          | true =>
            cases b3 with
            | false =>
              go_wp2_with (first
                | (go_at_call 70; refine (unhide HHD).mono ?_; rintro e w1 ⟨rfl, hk1⟩; have HJ1 := hide hk1; have HK1 := hide ((unhide HB).trans hk1); have r2 := (hk1.cell (o := 2) hxb id).trans q2; clear hk1)
                | (go_at_call 55; refine (unhide (HQX _ (unhide HK1))).mono ?_; rintro e w2 ⟨rfl, hk2⟩; have HJ2 := hide ((unhide HJ1).trans hk2); have HK2 := hide ((unhide HK1).trans hk2); have r3 := ((unhide HJ2).cell (o := 3) hxb id).trans q3; clear hk2)
                | (go_at_call_of 50 (Value.slice tao th.len tcap); refine (unhide (HQT _ (unhide HK2))).mono ?_; rintro e w3 ⟨rfl, hk3⟩; have HJ3 := hide ((unhide HJ2).trans hk3); have HK3 := hide ((unhide HK2).trans hk3); have r4 := ((unhide HJ3).cell (o := 4) hxb id).trans q4; clear hk3)
                | (go_at_call_of 50 (Value.slice eao el.len ecap); refine (unhide (HQE _ (unhide HK3))).mono ?_; rintro e w4 ⟨rfl, hk4⟩; have HK4 := hide ((unhide HK3).trans hk4); clear hk4))
              go_ret
              exact ⟨ret_bool (by have := unhide HWE; simpa using this), (unhide HK).trans (unhide HK3)⟩
            | true =>
              cases b4 with
              | false =>
                go_wp2_with (first
                  | (go_at_call 70; refine (unhide HHD).mono ?_; rintro e w1 ⟨rfl, hk1⟩; have HJ1 := hide hk1; have HK1 := hide ((unhide HB).trans hk1); have r2 := (hk1.cell (o := 2) hxb id).trans q2; clear hk1)
                  | (go_at_call 55; refine (unhide (HQX _ (unhide HK1))).mono ?_; rintro e w2 ⟨rfl, hk2⟩; have HJ2 := hide ((unhide HJ1).trans hk2); have HK2 := hide ((unhide HK1).trans hk2); have r3 := ((unhide HJ2).cell (o := 3) hxb id).trans q3; clear hk2)
                  | (go_at_call_of 50 (Value.slice tao th.len tcap); refine (unhide (HQT _ (unhide HK2))).mono ?_; rintro e w3 ⟨rfl, hk3⟩; have HJ3 := hide ((unhide HJ2).trans hk3); have HK3 := hide ((unhide HK2).trans hk3); have r4 := ((unhide HJ3).cell (o := 4) hxb id).trans q4; clear hk3)
                  | (go_at_call_of 50 (Value.slice eao el.len ecap); refine (unhide (HQE _ (unhide HK3))).mono ?_; rintro e w4 ⟨rfl, hk4⟩; have HK4 := hide ((unhide HK3).trans hk4); clear hk4))
                go_ret
                exact ⟨ret_bool (by have := unhide HWE; simpa using this), (unhide HK).trans (unhide HK4)⟩
              | true =>
                go_wp2_with (first
                  | (go_at_call 70; refine (unhide HHD).mono ?_; rintro e w1 ⟨rfl, hk1⟩; have HJ1 := hide hk1; have HK1 := hide ((unhide HB).trans hk1); have r2 := (hk1.cell (o := 2) hxb id).trans q2; clear hk1)
                  | (go_at_call 55; refine (unhide (HQX _ (unhide HK1))).mono ?_; rintro e w2 ⟨rfl, hk2⟩; have HJ2 := hide ((unhide HJ1).trans hk2); have HK2 := hide ((unhide HK1).trans hk2); have r3 := ((unhide HJ2).cell (o := 3) hxb id).trans q3; clear hk2)
                  | (go_at_call_of 50 (Value.slice tao th.len tcap); refine (unhide (HQT _ (unhide HK2))).mono ?_; rintro e w3 ⟨rfl, hk3⟩; have HJ3 := hide ((unhide HJ2).trans hk3); have HK3 := hide ((unhide HK2).trans hk3); have r4 := ((unhide HJ3).cell (o := 4) hxb id).trans q4; clear hk3)
                  | (go_at_call_of 50 (Value.slice eao el.len ecap); refine (unhide (HQE _ (unhide HK3))).mono ?_; rintro e w4 ⟨rfl, hk4⟩; have HK4 := hide ((unhide HK3).trans hk4); clear hk4))
                go_roundw
                case rel =>
                  refine ⟨rest, k + 1, by go_num, by omega, by omega, by have := unhide HWE; simpa using this, (unhide HK).trans (unhide HK4), ?_⟩
                  rw [show off + (k + 1) * 5 = off + k * 5 + 5 by omega]
                  exact (unhide HR).keepF (unhide HK4)
                case measure => simp [intOf]; omega
end Go.Proofs.YtoempeobaknkcaaGreatDoor
namespace Go.Proofs.YtoempeobaknkcaaGreatDoor
open Go.RowKit Go.Maps

/-- Anywhere. -/
def anyZ : Zone := ⟨fun _ _ _ => True, fun _ _ => True, fun _ _ h => h⟩
theorem ExIn.any {Z : Zone} {w : World} : ∀ {l : EL} {b o : Nat}, ExIn Z w l b o → ExIn anyZ w l b o
  | .nil, _, _, _ => trivial
  | .cons op n s kids rest, b, o, ⟨h1, _, h3, h4, h5, ⟨ao, cap, h6, h7, h8⟩, h9⟩ =>
    ⟨h1, trivial, h3, h4, h5, ⟨ao, cap, h6, h7, fun h0 => by
      obtain ⟨b', o', e, _, hr⟩ := h8 h0
      exact ⟨b', o', e, trivial, hr.any⟩⟩, h9.any⟩
theorem SlE.any {Z : Zone} {w : World} {up : Nat} {v : Value} {l : EL} (h : SlE Z w up v l) (up' : Nat) : SlE anyZ w up' v l := by
  obtain ⟨ao, cap, e, hc, hr⟩ := h
  refine ⟨ao, cap, e, hc, fun h0 => ?_⟩
  obtain ⟨b, o, e1, _, hx⟩ := hr h0
  exact ⟨b, o, e1, trivial, hx.any⟩

set_option maxRecDepth 100000 in
set_option maxHeartbeats 800000 in
theorem check_v (Z : Zone) (l : SL) (hsz : l.size ≤ 4294967294) (w : World) (up : Nat) (v : Value) (hF : Forms w) (hS : SlS Z w up v l) :
    Calls Tryz.prog 30 #[v] w fun e w' => e = .returned (.int .i64 (checkS l)) ∧ Keeps (fun _ => False) w w' := by
  have HW := hide (wellMade_v Z (l.size + 1) l (by omega) hsz w up v hF hS)
  have HC := fun (w' : World) (hk : Keeps (fun _ => False) w w') => hide (count_v Z (l.size + 1) l (by omega) hsz w' up v (hS.keepF hk))
  have HD := fun (w' : World) (hk : Keeps (fun _ => False) w w') => hide (depth_v Z (l.size + 1) l (by omega) hsz w' up v (hS.keepF hk))
  obtain ⟨ao, cap, rfl, hc⟩ := hS.head
  unfold checkS
  clear hF hS
  generalize wellS l = bw at HW ⊢
  generalize countS l = nc at HC ⊢
  generalize depthS l = nd at HD ⊢
  cases bw with
  | false =>
    rw [if_pos rfl]
    go_enter Tryz.func30, Tryz.ntmps30
    go_wp2_with (go_at_call 50; refine (unhide HW).mono ?_; rintro e w1 ⟨rfl, hk1⟩)
    go_ret
    exact ⟨rfl, hk1⟩
  | true =>
    rw [if_neg (by simp)]
    by_cases h32 : 32 < nc
    · rw [if_pos h32]
      have g32 : (32 : Int) < (nc : Int) := by omega
      go_enter Tryz.func30, Tryz.ntmps30
      go_wp2_with (first
        | (go_at_call 50; refine (unhide HW).mono ?_; rintro e w1 ⟨rfl, hk1⟩; have HK1 := hide hk1; clear hk1)
        | (go_at_call 51; refine (unhide (HC _ (unhide HK1))).mono ?_; rintro e w2 ⟨rfl, hk2⟩; have HK2 := hide ((unhide HK1).trans hk2); clear hk2))
      go_ret
      exact ⟨rfl, unhide HK2⟩
    · rw [if_neg h32]
      have g32 : ¬ (32 : Int) < (nc : Int) := by omega
      by_cases h12 : 12 < nd
      · rw [if_pos h12]
        have g12 : (12 : Int) < (nd : Int) := by omega
        go_enter Tryz.func30, Tryz.ntmps30
        go_wp2_with (first
          | (go_at_call 50; refine (unhide HW).mono ?_; rintro e w1 ⟨rfl, hk1⟩; have HK1 := hide hk1; clear hk1)
          | (go_at_call 51; refine (unhide (HC _ (unhide HK1))).mono ?_; rintro e w2 ⟨rfl, hk2⟩; have HK2 := hide ((unhide HK1).trans hk2); clear hk2)
          | (go_at_call 52; refine (unhide (HD _ (unhide HK2))).mono ?_; rintro e w3 ⟨rfl, hk3⟩; have HK3 := hide ((unhide HK2).trans hk3); clear hk3))
        go_ret
        exact ⟨rfl, unhide HK3⟩
      · rw [if_neg h12]
        have g12 : ¬ (12 : Int) < (nd : Int) := by omega
        go_enter Tryz.func30, Tryz.ntmps30
        go_wp2_with (first
          | (go_at_call 50; refine (unhide HW).mono ?_; rintro e w1 ⟨rfl, hk1⟩; have HK1 := hide hk1; clear hk1)
          | (go_at_call 51; refine (unhide (HC _ (unhide HK1))).mono ?_; rintro e w2 ⟨rfl, hk2⟩; have HK2 := hide ((unhide HK1).trans hk2); clear hk2)
          | (go_at_call 52; refine (unhide (HD _ (unhide HK2))).mono ?_; rintro e w3 ⟨rfl, hk3⟩; have HK3 := hide ((unhide HK2).trans hk3); clear hk3))
        go_ret
        exact ⟨rfl, unhide HK3⟩

/-- A list of one expression. -/
theorem one_at {Z : Zone} {w : World} {g : Nat} {op n : Int} {s : Txt} {v : Value} {t : TypeId} {fr : Nat × Nat} {kids : EL} {up c : Nat} (hb : w.heap[g]? = some (.cells #[.int .i64 op, .int .i64 n, str s, v] t fr)) (hS : SlE Z w up v kids) (hc : 1 ≤ c) (up' : Nat) :
    SlE anyZ w up' (.slice (some ⟨g, 0, none⟩) 1 c) (.cons op n s kids .nil) := by
  obtain ⟨ao, cap, rfl, hl, hr⟩ := hS.any g
  refine ⟨_, c, rfl, hc, fun _ => ⟨g, 0, rfl, trivial, lt_of_block hb, trivial, ?_, ?_, ?_, ⟨ao, cap, ?_, hl, hr⟩, trivial⟩⟩
  all_goals (rw [cell_of_blk hb]; rfl)

end Go.Proofs.YtoempeobaknkcaaGreatDoor
