import Derived.Test.YtoempeobaknkcaaGreatDoorJyaq
import Derived.BigQuiet
import Derived.Test.YtoempeobaknkcaaGreatDoorJyal
namespace Go.Proofs.YtoempeobaknkcaaGreatDoor
open Go.RowKit Go.Maps

set_option maxRecDepth 100000 in
set_option maxHeartbeats 4000000 in
theorem fieldsKept_v (S : List FieldA) (v sv : Value) (w : World) (h : FldsAt w v (S ++ roomsF 64)) (hS : FldsAt w sv S) (hn : S.length + 64 ≤ 4398046511104) :
    Calls Tryz.prog 17 #[v, .agg #[sv]] w fun e w' => e = .returned (.bool true) ∧ Keeps (fun _ => False) w w' := by
  have hlen : (S ++ roomsF 64).length = S.length + 64 := by simp [roomsF]
  obtain ⟨so, sc, rfl⟩ := RowAt.form hS
  obtain ⟨b, off, cap, rfl, hb, hc⟩ := h.cells (by omega)
  rw [hlen]
  have hm : ∀ k f, S[k]? = some f → w.cell? ⟨b, off + k * 3, none⟩ = some (str f.name) ∧ w.cell? ⟨b, off + k * 3 + 1, none⟩ = some (.int .i64 f.type) ∧ w.cell? ⟨b, off + k * 3 + 2, none⟩ = some (.bool f.opt) := fun k f hk =>
    hc k f (by rw [List.getElem?_append_left (List.getElem?_eq_some_iff.1 hk).1]; exact hk)
  have hr : ∀ k, k < 64 → w.cell? ⟨b, off + (S.length + k) * 3, none⟩ = some (.string ⟨#[114, 111, 111, 109]⟩) ∧ w.cell? ⟨b, off + (S.length + k) * 3 + 1, none⟩ = some (.int .i64 (100 + (k : Int))) := fun k hk => by
    have := hc (S.length + k) (roomF k) (by
      rw [List.getElem?_append_right (by omega), Nat.add_sub_cancel_left]
      simp [roomsF, hk])
    exact ⟨this.1, this.2.1⟩
  obtain ⟨HK0, hbs0, hbc⟩ := boxed w #[.slice so S.length sc] 24
  have s0 := hbc 0 (.slice so S.length sc) rfl
  have HM := hide hm
  have HR := hide hr
  have HS := hide hS
  have HNN := hide hn
  have HK := hide HK0
  clear hm hr hS hn hc h hlen hbc HK0
  go_enter Tryz.func17, Tryz.ntmps17
  go_wp2_with fail
  generalize w.alloc (.cells #[.slice so S.length sc] 24) = w1 at *
  go_loopw [6] (fun i wr => ∃ j : Nat, j ≤ S.length ∧ i = .int .i64 (j : Int) ∧ ∃ n, wr = w1.drewN n) (fun i _ => S.length - (intOf i).toNat)
  case atStart => exact ⟨0, Nat.zero_le _, rfl, 0, rfl⟩
  case round =>
    obtain ⟨j, hj, rfl, n, rfl⟩ := hrel
    have hnn := unhide HNN
    by_cases hlt : j < S.length
    · obtain ⟨f, hf⟩ : ∃ f, S[j]? = some f := ⟨_, List.getElem?_eq_getElem hlt⟩
      obtain ⟨b2, o2, c2, e2, hb2, hc2⟩ := (unhide HS).cells (by omega)
      simp only [Value.slice.injEq] at e2
      obtain ⟨rfl, _, rfl⟩ := e2
      obtain ⟨p0, p1, p2⟩ := unhide HM j f hf
      obtain ⟨q0, q1, q2⟩ := hc2 j f hf
      have p0 := ((unhide HK).cell hb id).trans p0
      have p1 := ((unhide HK).cell hb id).trans p1
      have p2 := ((unhide HK).cell hb id).trans p2
      have q0 := ((unhide HK).cell hb2 id).trans q0
      have q1 := ((unhide HK).cell hb2 id).trans q1
      have q2 := ((unhide HK).cell hb2 id).trans q2
      have i1 : (j : Int) < (S.length : Int) := by omega
      have i2 : (0 : Int) ≤ (j : Int) := by omega
      have i3 : (j : Int) < ((S.length + 64 : Nat) : Int) := by omega
      clear hc2 hf
      obtain ⟨fn, ft, fo⟩ := f
      simp only at *
      go_wp2_with fail
      go_quiet (fail)
      go_wp2
      go_roundw
      case rel => exact ⟨j + 1, by omega, by go_num, _, rfl⟩
      case measure => simp [intOf]; omega
    · obtain rfl : j = S.length := by omega
      have i1 : ¬ (S.length : Int) < (S.length : Int) := by omega
      go_wp2_with fail
      go_loopw [7] (fun i wr => ∃ j : Nat, j ≤ 64 ∧ i = .int .i64 (j : Int) ∧ ∃ n, wr = w1.drewN n) (fun i _ => 64 - (intOf i).toNat)
      case atStart => exact ⟨0, Nat.zero_le _, rfl, n, rfl⟩
      case round =>
        obtain ⟨j, hj, rfl, n, rfl⟩ := hrel
        by_cases hlt : j < 64
        · obtain ⟨p0, p1⟩ := unhide HR j hlt
          have p0 := ((unhide HK).cell hb id).trans p0
          have p1 := ((unhide HK).cell hb id).trans p1
          have i1 : (j : Int) < 64 := by omega
          have i2 : (0 : Int) ≤ (S.length : Int) + (j : Int) := by omega
          have i3 : (S.length : Int) + (j : Int) < ((S.length + 64 : Nat) : Int) := by omega
          go_wp2_with fail
          go_roundw
          case rel => exact ⟨j + 1, by omega, by go_num, n, rfl⟩
          case measure => simp [intOf]; omega
        · obtain rfl : j = 64 := by omega
          go_wp2_with fail
          go_ret
          exact ⟨rfl, (unhide HK).drewN _⟩
end Go.Proofs.YtoempeobaknkcaaGreatDoor
namespace Go.Proofs.YtoempeobaknkcaaGreatDoor
open Go.RowKit Go.Maps

theorem cnt_one (op n : Int) (s : Txt) (k r : EL) (x : Txt) : decide (0 < cntE (.cons op n s k r) x) = (decide ((op = 4 ∨ op = 5) ∧ s = x) || decide (0 < cntE k x) || decide (0 < cntE r x)) := by
  rw [Bool.eq_iff_iff]
  simp only [Bool.or_eq_true, decide_eq_true_eq]
  show 0 < (if (op = 4 ∨ op = 5) ∧ s = x then 1 else 0) + cntE k x + cntE r x ↔ _
  by_cases h : (op = 4 ∨ op = 5) ∧ s = x
  · rw [if_pos h]
    exact ⟨fun _ => Or.inl (Or.inl h), fun _ => by omega⟩
  · rw [if_neg h]
    refine ⟨fun h2 => ?_, fun h2 => ?_⟩
    · by_cases h3 : 0 < cntE k x
      · exact Or.inl (Or.inr h3)
      · exact Or.inr (by omega)
    · rcases h2 with (h2 | h2) | h2
      · exact absurd h2 h
      · omega
      · omega

theorem cnt_head (op n : Int) (s : Txt) (k r : EL) (x : Txt) : decide (0 < cntE (.cons op n s k r) x) = (decide (0 < cntE (.cons op n s k .nil) x) || decide (0 < cntE r x)) := by
  rw [cnt_one, cnt_one]
  have e0 : decide (0 < cntE EL.nil x) = false := by simp [cntE]
  rw [e0, Bool.or_false]

set_option maxRecDepth 100000 in
set_option maxHeartbeats 4000000 in
theorem names_v (Z : Zone) (x : Txt) (N : Nat) : ∀ (kids : EL), kids.size < N → kids.size ≤ 4294967294 → ∀ (op n : Int) (s : Txt) (w : World) (up : Nat) (v : Value), SlE Z w up v kids →
    Calls Tryz.prog 44 #[exV op n s v, str x] w fun e w' => e = .returned (.bool (decide (0 < cntE (.cons op n s kids .nil) x))) ∧ Keeps (fun _ => False) w w' := by
  induction N with
  | zero => intro l h; omega
  | succ N ih =>
    intro l hsz hlen' op n s w up v hS
    have hlen : l.len ≤ 4294967294 := by have := EL.len_le l; omega
    obtain ⟨ao, cap, b, off, rfl, hcap, ha, hx⟩ := hS.open
    obtain ⟨HB, hxb, hxc⟩ := boxedT w #[.int .i64 op, .int .i64 n, str s, .slice ao l.len cap] 57
    have c0 := hxc 0 (.int .i64 op) rfl
    have c2 := hxc 2 (str s) rfl
    have c3 := hxc 3 (.slice ao l.len cap) rfl
    have IH := hide ih
    have HX := hide hx
    have HA := hide ha
    clear hS ih hx ha hxc
    rw [cnt_one]
    by_cases hh : (op = 4 ∨ op = 5) ∧ s = x
    · rw [decide_eq_true hh, Bool.true_or, Bool.true_or]
      obtain ⟨ho, rfl⟩ := hh
      rcases ho with rfl | rfl
      all_goals
        go_enter Tryz.func44, Tryz.ntmps44
        go_wp2_with fail
        go_ret
        exact ⟨rfl, unhide HB⟩
    · rw [decide_eq_false hh, Bool.false_or]
      have e0 : decide (0 < cntE EL.nil x) = false := by simp [cntE]
      rw [e0, Bool.or_false]
      have HH := hide hh
      by_cases ho : op = 4 ∨ op = 5
      · have hs : (s == x) = false := by
          simp only [beq_eq_false_iff_ne, ne_eq]
          exact fun e => hh ⟨ho, e⟩
        clear hh
        rcases ho with rfl | rfl
        · go_enter Tryz.func44, Tryz.ntmps44
          go_wp2_with fail
          go_loopw [5] (fun i wr => ∃ (rest : EL) (k : Nat), i = .int .i64 k ∧ k + rest.len = l.len ∧ rest.size ≤ l.size ∧ Hid (decide (0 < cntE rest x) = decide (0 < cntE l x)) ∧ Keeps (fun _ => False) (w.alloc (.cells #[.int .i64 4, .int .i64 n, str s, .slice ao l.len cap] 57)) wr ∧ ExIn Z wr rest b (off + k * 4)) (fun i _ => l.len - (intOf i).toNat)
          case atStart => exact ⟨l, 0, rfl, by omega, Nat.le_refl _, rfl, Keeps.refl _ _, by simpa using (unhide HX).keepF (unhide HB)⟩
          case round =>
            obtain ⟨rest, k, rfl, hkl, hrs, HWE, hkeep, hr⟩ := hrel
            have q3 := (hkeep.cell (o := 3) hxb id).trans c3
            have HK := hide hkeep
            clear hkeep
            cases rest with
            | nil =>
              simp only [EL.len, EL.size] at hkl hrs
              clear hr
              have i1 : ¬ (k : Int) < (l.len : Int) := by omega
              go_wp2_with fail
              go_ret
              exact ⟨ret_bool (by rw [← unhide HWE]; simp [cntE]), (unhide HB).trans (unhide HK)⟩
            | cons op' n' s' kids rest =>
              obtain ⟨h1, h2, h3, h4, h5, ⟨kao, kcap, h6, h7, h8⟩, h9⟩ := hr
              simp only [EL.len, EL.size] at hkl hrs
              obtain ⟨rfl, hp⟩ := (unhide HA) (by omega)
              have HKID : Hid (SlE Z wr b (.slice kao kids.len kcap) kids) := ⟨kao, kcap, rfl, h7, h8⟩
              have HR := hide h9
              have i1 : (k : Int) < (l.len : Int) := by omega
              have i0 : (0 : Int) ≤ (k : Int) := by omega
              have HKD := hide (unhide IH kids (by omega) (by omega) op' n' s' wr b (.slice kao kids.len kcap) (unhide HKID))
              have HWE2 := hide ((cnt_head op' n' s' kids rest x).symm.trans (unhide HWE))
              generalize decide (0 < cntE (.cons op' n' s' kids .nil) x) = r at HKD HWE2
              clear h2 h8 h9 HWE
              cases r with
              | true =>
                go_wp2_with (go_at_call 44; refine (unhide HKD).mono ?_; rintro e w1 ⟨rfl, hk1⟩; have HK1 := hide hk1; clear hk1)
                go_ret
                exact ⟨ret_bool (by rw [← unhide HWE2]; rfl), ((unhide HB).trans (unhide HK)).trans (unhide HK1)⟩
              | false =>
                go_wp2_with (go_at_call 44; refine (unhide HKD).mono ?_; rintro e w1 ⟨rfl, hk1⟩; have HK1 := hide hk1; clear hk1)
                go_roundw
                case rel =>
                  refine ⟨rest, k + 1, by go_num, by omega, by omega, by rw [← unhide HWE2]; rfl, (unhide HK).trans (unhide HK1), ?_⟩
                  rw [show off + (k + 1) * 4 = off + k * 4 + 4 by omega]
                  exact (unhide HR).keepF (unhide HK1)
                case measure => simp [intOf]; omega
        · go_enter Tryz.func44, Tryz.ntmps44
          go_wp2_with fail
          go_loopw [5] (fun i wr => ∃ (rest : EL) (k : Nat), i = .int .i64 k ∧ k + rest.len = l.len ∧ rest.size ≤ l.size ∧ Hid (decide (0 < cntE rest x) = decide (0 < cntE l x)) ∧ Keeps (fun _ => False) (w.alloc (.cells #[.int .i64 5, .int .i64 n, str s, .slice ao l.len cap] 57)) wr ∧ ExIn Z wr rest b (off + k * 4)) (fun i _ => l.len - (intOf i).toNat)
          case atStart => exact ⟨l, 0, rfl, by omega, Nat.le_refl _, rfl, Keeps.refl _ _, by simpa using (unhide HX).keepF (unhide HB)⟩
          case round =>
            obtain ⟨rest, k, rfl, hkl, hrs, HWE, hkeep, hr⟩ := hrel
            have q3 := (hkeep.cell (o := 3) hxb id).trans c3
            have HK := hide hkeep
            clear hkeep
            cases rest with
            | nil =>
              simp only [EL.len, EL.size] at hkl hrs
              clear hr
              have i1 : ¬ (k : Int) < (l.len : Int) := by omega
              go_wp2_with fail
              go_ret
              exact ⟨ret_bool (by rw [← unhide HWE]; simp [cntE]), (unhide HB).trans (unhide HK)⟩
            | cons op' n' s' kids rest =>
              obtain ⟨h1, h2, h3, h4, h5, ⟨kao, kcap, h6, h7, h8⟩, h9⟩ := hr
              simp only [EL.len, EL.size] at hkl hrs
              obtain ⟨rfl, hp⟩ := (unhide HA) (by omega)
              have HKID : Hid (SlE Z wr b (.slice kao kids.len kcap) kids) := ⟨kao, kcap, rfl, h7, h8⟩
              have HR := hide h9
              have i1 : (k : Int) < (l.len : Int) := by omega
              have i0 : (0 : Int) ≤ (k : Int) := by omega
              have HKD := hide (unhide IH kids (by omega) (by omega) op' n' s' wr b (.slice kao kids.len kcap) (unhide HKID))
              have HWE2 := hide ((cnt_head op' n' s' kids rest x).symm.trans (unhide HWE))
              generalize decide (0 < cntE (.cons op' n' s' kids .nil) x) = r at HKD HWE2
              clear h2 h8 h9 HWE
              cases r with
              | true =>
                go_wp2_with (go_at_call 44; refine (unhide HKD).mono ?_; rintro e w1 ⟨rfl, hk1⟩; have HK1 := hide hk1; clear hk1)
                go_ret
                exact ⟨ret_bool (by rw [← unhide HWE2]; rfl), ((unhide HB).trans (unhide HK)).trans (unhide HK1)⟩
              | false =>
                go_wp2_with (go_at_call 44; refine (unhide HKD).mono ?_; rintro e w1 ⟨rfl, hk1⟩; have HK1 := hide hk1; clear hk1)
                go_roundw
                case rel =>
                  refine ⟨rest, k + 1, by go_num, by omega, by omega, by rw [← unhide HWE2]; rfl, (unhide HK).trans (unhide HK1), ?_⟩
                  rw [show off + (k + 1) * 4 = off + k * 4 + 4 by omega]
                  exact (unhide HR).keepF (unhide HK1)
                case measure => simp [intOf]; omega
      · have o4 : (op == 4) = false := by simp; omega
        have o5 : (op == 5) = false := by simp; omega
        clear hh
        go_enter Tryz.func44, Tryz.ntmps44
        go_wp2_with fail
        go_loopw [5] (fun i wr => ∃ (rest : EL) (k : Nat), i = .int .i64 k ∧ k + rest.len = l.len ∧ rest.size ≤ l.size ∧ Hid (decide (0 < cntE rest x) = decide (0 < cntE l x)) ∧ Keeps (fun _ => False) (w.alloc (.cells #[.int .i64 op, .int .i64 n, str s, .slice ao l.len cap] 57)) wr ∧ ExIn Z wr rest b (off + k * 4)) (fun i _ => l.len - (intOf i).toNat)
        case atStart => exact ⟨l, 0, rfl, by omega, Nat.le_refl _, rfl, Keeps.refl _ _, by simpa using (unhide HX).keepF (unhide HB)⟩
        case round =>
          obtain ⟨rest, k, rfl, hkl, hrs, HWE, hkeep, hr⟩ := hrel
          have q3 := (hkeep.cell (o := 3) hxb id).trans c3
          have HK := hide hkeep
          clear hkeep
          cases rest with
          | nil =>
            simp only [EL.len, EL.size] at hkl hrs
            clear hr
            have i1 : ¬ (k : Int) < (l.len : Int) := by omega
            go_wp2_with fail
            go_ret
            exact ⟨ret_bool (by rw [← unhide HWE]; simp [cntE]), (unhide HB).trans (unhide HK)⟩
          | cons op' n' s' kids rest =>
            obtain ⟨h1, h2, h3, h4, h5, ⟨kao, kcap, h6, h7, h8⟩, h9⟩ := hr
            simp only [EL.len, EL.size] at hkl hrs
            obtain ⟨rfl, hp⟩ := (unhide HA) (by omega)
            have HKID : Hid (SlE Z wr b (.slice kao kids.len kcap) kids) := ⟨kao, kcap, rfl, h7, h8⟩
            have HR := hide h9
            have i1 : (k : Int) < (l.len : Int) := by omega
            have i0 : (0 : Int) ≤ (k : Int) := by omega
            have HKD := hide (unhide IH kids (by omega) (by omega) op' n' s' wr b (.slice kao kids.len kcap) (unhide HKID))
            have HWE2 := hide ((cnt_head op' n' s' kids rest x).symm.trans (unhide HWE))
            generalize decide (0 < cntE (.cons op' n' s' kids .nil) x) = r at HKD HWE2
            clear h2 h8 h9 HWE
            cases r with
            | true =>
              go_wp2_with (go_at_call 44; refine (unhide HKD).mono ?_; rintro e w1 ⟨rfl, hk1⟩; have HK1 := hide hk1; clear hk1)
              go_ret
              exact ⟨ret_bool (by rw [← unhide HWE2]; rfl), ((unhide HB).trans (unhide HK)).trans (unhide HK1)⟩
            | false =>
              go_wp2_with (go_at_call 44; refine (unhide HKD).mono ?_; rintro e w1 ⟨rfl, hk1⟩; have HK1 := hide hk1; clear hk1)
              go_roundw
              case rel =>
                refine ⟨rest, k + 1, by go_num, by omega, by omega, by rw [← unhide HWE2]; rfl, (unhide HK).trans (unhide HK1), ?_⟩
                rw [show off + (k + 1) * 4 = off + k * 4 + 4 by omega]
                exact (unhide HR).keepF (unhide HK1)
              case measure => simp [intOf]; omega
end Go.Proofs.YtoempeobaknkcaaGreatDoor
