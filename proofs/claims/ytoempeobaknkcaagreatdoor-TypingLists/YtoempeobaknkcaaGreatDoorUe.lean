import Derived.Test.YtoempeobaknkcaaGreatDoorJyav
import Derived.Test.YtoempeobaknkcaaGreatDoorUc
namespace Go.Proofs.YtoempeobaknkcaaGreatDoor
open Go.RowKit Go.Maps

/-- Does a statement by itself read the field, write it? -/
def rd1 (op : Int) (f : Txt) (ex : EL) (x : Txt) : Bool := decide (0 < cntE ex x) || decide ((op = 2 ∨ op = 3 ∨ op = 4) ∧ f = x)
def wr1 (op : Int) (f : Txt) (x : Txt) : Bool := decide ((op = 1 ∨ op = 2 ∨ op = 3 ∨ op = 4 ∨ op = 5) ∧ f = x)

theorem rd1_no {op : Int} {f : Txt} {ex : EL} {x : Txt} (h : ¬ ((op = 2 ∨ op = 3 ∨ op = 4) ∧ f = x)) : rd1 op f ex x = decide (0 < cntE ex x) := by
  unfold rd1
  rw [decide_eq_false h, Bool.or_false]
theorem wr1_no {op : Int} {f x : Txt} (h : ¬ ((op = 1 ∨ op = 2 ∨ op = 3 ∨ op = 4 ∨ op = 5) ∧ f = x)) : wr1 op f x = false := by
  unfold wr1
  rw [decide_eq_false h]

set_option maxRecDepth 100000 in
set_option maxHeartbeats 4000000 in
theorem uses_v (Z : Zone) (op : Int) (f : Txt) (l : EL) (hlen' : l.size ≤ 4294967294) (x : Txt) (w : World) (up : Nat) (v tv ev : Value) (hS : SlE Z w up v l) (hv : ∃ tz tn tc eo en ec, tv = .slice tz tn tc ∧ ev = .slice eo en ec) :
    Calls Tryz.prog 26 #[stV op f v tv ev, str x] w fun e w' => e = .returned (.tuple #[.bool (rd1 op f l x), .bool (wr1 op f x)]) ∧ Keeps (fun _ => False) w w' := by
  have hlen : l.len ≤ 4294967294 := by have := EL.len_le l; omega
  obtain ⟨tz, tn, tc, eo, en, ec, rfl, rfl⟩ := hv
  obtain ⟨ao, cap, b, off, rfl, hcap, ha, hx⟩ := hS.open
  obtain ⟨HB, hxb, hxc⟩ := boxedT w #[.int .i64 op, str f, .slice ao l.len cap, .slice tz tn tc, .slice eo en ec] 53
  have c0 := hxc 0 (.int .i64 op) rfl
  have c1 := hxc 1 (str f) rfl
  have c2 := hxc 2 (.slice ao l.len cap) rfl
  have HX := hide hx
  have HA := hide ha
  clear hS hx ha hxc
  go_enter Tryz.func26, Tryz.ntmps26
  go_wp2_with fail
  go_loopw [6, 7] (fun d i wr => ∃ (rest : EL) (k : Nat) (r : Bool), d = .bool r ∧ i = .int .i64 k ∧ k + rest.len = l.len ∧ rest.size ≤ l.size ∧ Hid ((r || decide (0 < cntE rest x)) = decide (0 < cntE l x)) ∧ Keeps (fun _ => False) (w.alloc (.cells #[.int .i64 op, str f, .slice ao l.len cap, .slice tz tn tc, .slice eo en ec] 53)) wr ∧ ExIn Z wr rest b (off + k * 4)) (fun _ i _ => l.len - (intOf i).toNat)
  case atStart => exact ⟨l, 0, false, rfl, rfl, by omega, Nat.le_refl _, rfl, Keeps.refl _ _, by simpa using (unhide HX).keepF (unhide HB)⟩
  case round =>
    obtain ⟨rest, k, r, rfl, rfl, hkl, hrs, HWE, hkeep, hr⟩ := hrel
    have q0 := (hkeep.cell (o := 0) hxb id).trans c0
    have q1 := (hkeep.cell (o := 1) hxb id).trans c1
    have q2 := (hkeep.cell (o := 2) hxb id).trans c2
    have HK := hide hkeep
    clear hkeep
    cases rest with
    | nil =>
      simp only [EL.len, EL.size] at hkl hrs
      have HV : Hid (r = decide (0 < cntE l x)) := by have h := unhide HWE; exact hide (by simpa [cntE] using h)
      clear hr
      have i1 : ¬ (k : Int) < (l.len : Int) := by omega
      by_cases hf : f = x
      · subst hf
        by_cases ho : op = 2 ∨ op = 3 ∨ op = 4
        · rcases ho with rfl | rfl | rfl
          all_goals
            go_wp2_with fail
            refine bodyPost_ret (v := .tuple #[.bool true, .bool true]) (by simp [results, go_sem]) rfl ?_
            exact ⟨by simp [rd1, wr1], (unhide HB).trans (unhide HK)⟩
        · by_cases hp : op = 1 ∨ op = 5
          · rcases hp with rfl | rfl
            all_goals
              clear ho
              go_wp2_with fail
              refine bodyPost_ret (v := .tuple #[.bool r, .bool true]) (by simp [results, go_sem]) rfl ?_
              exact ⟨by rw [unhide HV]; simp [rd1, wr1], (unhide HB).trans (unhide HK)⟩
          · have o1 : (op == 1) = false := by simp; omega
            have o2 : (op == 2) = false := by simp; omega
            have o3 : (op == 3) = false := by simp; omega
            have o4 : (op == 4) = false := by simp; omega
            have o5 : (op == 5) = false := by simp; omega
            have HO : Hid (¬ (op = 2 ∨ op = 3 ∨ op = 4) ∧ ¬ (op = 1 ∨ op = 2 ∨ op = 3 ∨ op = 4 ∨ op = 5)) := ⟨ho, by omega⟩
            clear ho hp
            go_wp2_with fail
            refine bodyPost_ret (v := .tuple #[.bool r, .bool false]) (by simp [results, go_sem]) rfl ?_
            exact ⟨by rw [unhide HV]; rw [rd1_no (fun h => (unhide HO).1 h.1), wr1_no (fun h => (unhide HO).2 h.1)], (unhide HB).trans (unhide HK)⟩
      · have hfe : (f == x) = false := by simpa using hf
        have hfn : (f != x) = true := by simpa using hf
        have HF := hide hf
        clear hf
        go_wp2_with fail
        refine bodyPost_ret (v := .tuple #[.bool r, .bool false]) (by simp [results, go_sem]) rfl ?_
        exact ⟨by rw [unhide HV]; rw [rd1_no (fun h => (unhide HF) h.2), wr1_no (fun h => (unhide HF) h.2)], (unhide HB).trans (unhide HK)⟩
    | cons op' n' s' kids rest =>
      obtain ⟨h1, h2, h3, h4, h5, ⟨kao, kcap, h6, h7, h8⟩, h9⟩ := hr
      simp only [EL.len, EL.size] at hkl hrs
      obtain ⟨rfl, hp⟩ := (unhide HA) (by omega)
      have HKID : Hid (SlE Z wr b (.slice kao kids.len kcap) kids) := ⟨kao, kcap, rfl, h7, h8⟩
      have HR := hide h9
      have i1 : (k : Int) < (l.len : Int) := by omega
      have i0 : (0 : Int) ≤ (k : Int) := by omega
      have HKD := hide (names_v Z x (kids.size + 1) kids (by omega) (by omega) op' n' s' wr b (.slice kao kids.len kcap) (unhide HKID))
      have HWE2 : Hid ((r || (decide (0 < cntE (.cons op' n' s' kids .nil) x) || decide (0 < cntE rest x))) = decide (0 < cntE l x)) := by
        have h := unhide HWE
        rw [cnt_head] at h
        exact h
      generalize decide (0 < cntE (.cons op' n' s' kids .nil) x) = rr at HKD HWE2
      clear h2 h8 h9 HWE
      cases r with
      | true =>
        go_wp2_with (go_at_call 44; refine (unhide HKD).mono ?_; rintro e w1 ⟨rfl, hk1⟩; have HK1 := hide hk1; clear hk1)
        go_roundw
        case rel =>
          refine ⟨rest, k + 1, true, rfl, by go_num, by omega, by omega, by rw [← unhide HWE2]; rfl, (unhide HK).trans (unhide HK1), ?_⟩
          rw [show off + (k + 1) * 4 = off + k * 4 + 4 by omega]
          exact (unhide HR).keepF (unhide HK1)
        case measure => simp [intOf]; omega
      | false =>
        go_wp2_with (go_at_call 44; refine (unhide HKD).mono ?_; rintro e w1 ⟨rfl, hk1⟩; have HK1 := hide hk1; clear hk1)
        go_roundw
        case rel =>
          refine ⟨rest, k + 1, rr, rfl, by go_num, by omega, by omega, by rw [← unhide HWE2]; rfl, (unhide HK).trans (unhide HK1), ?_⟩
          rw [show off + (k + 1) * 4 = off + k * 4 + 4 by omega]
          exact (unhide HR).keepF (unhide HK1)
        case measure => simp [intOf]; omega
end Go.Proofs.YtoempeobaknkcaaGreatDoor
