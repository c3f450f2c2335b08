import Derived.Test.YtijfnlfgehcpaaaGreatDoorYa
namespace Go.Proofs.YtijfnlfgehcpaaaGreatDoor
open Go.RowKit Go.Maps

set_option maxRecDepth 100000 in
set_option maxHeartbeats 2000000 in
/-- Does the list have that name? -/
theorem hasName_v (l : List Txt) (hl : l.length ≤ 1000) (nm : Txt) (lv : Value) (w : World) (h : RowAt w lv l.length (nmC l)) :
    Calls Tryz.prog 19 #[lv, str nm] w fun e w' => e = .returned (.bool (decide (nm ∈ l))) ∧ Keeps (fun _ => False) w w' := by
  obtain ⟨ao, cap, rfl⟩ := RowAt.form h
  have HA := hide h
  clear h
  obtain ⟨R, hR⟩ : ∃ R, decide (nm ∈ l) = R := ⟨_, rfl⟩
  rw [hR]
  have HRR := hide hR
  clear hR
  go_enter Tryz.func19, Tryz.ntmps19
  go_wp2_with fail
  go_loopw [5] (fun i wr => ∃ k : Nat, k ≤ l.length ∧ i = .int .i64 k ∧ Hid (decide (nm ∈ l.drop k) = R) ∧ Keeps (fun _ => False) w wr) (fun i _ => l.length - (intOf i).toNat)
  case atStart => exact ⟨0, Nat.zero_le _, rfl, HRR, Keeps.refl _ _⟩
  case round =>
    obtain ⟨k, hk, rfl, HT, hkp⟩ := hrel
    have HK := hide hkp
    by_cases hlt : k < l.length
    · obtain ⟨b, off, c1, e1, hbl, hc⟩ := (unhide HA).cells (by omega)
      simp at e1
      obtain ⟨rfl, rfl⟩ := e1
      obtain ⟨x, hx⟩ : ∃ x, l[k]? = some x := ⟨_, List.getElem?_eq_getElem hlt⟩
      have c0 := (hkp.cell hbl id).trans (hc k (str x) (by unfold nmC; rw [List.getElem?_map, hx]; rfl))
      have i1 : (k : Int) < (l.length : Int) := by omega
      have i0 : (0 : Int) ≤ (k : Int) := by omega
      have hdrop : l.drop k = x :: l.drop (k + 1) := by
        have := List.drop_eq_getElem_cons hlt
        rw [List.getElem?_eq_getElem hlt] at hx
        simp at hx
        rw [this, hx]
      have HD := hide hdrop
      clear hc hx hkp hdrop
      by_cases hq : x = nm
      · subst hq
        go_wp2_with fail
        go_ret
        refine ⟨?_, unhide HK⟩
        rw [← unhide HT, unhide HD]
        simp
      · have hne : (x == nm) = false := by simpa using hq
        go_wp2_with fail
        go_roundw
        case rel =>
          refine ⟨k + 1, by omega, by go_num, ?_, unhide HK⟩
          refine hide ?_
          rw [← unhide HT, unhide HD]
          simp [Ne.symm hq]
        case measure => simp [intOf]; omega
    · have i1 : ¬ (k : Int) < (l.length : Int) := by omega
      have hk2 : k = l.length := by omega
      clear hkp
      go_wp2_with fail
      go_ret
      refine ⟨?_, unhide HK⟩
      rw [← unhide HT, hk2]
      simp
set_option maxRecDepth 100000 in
set_option maxHeartbeats 2000000 in
/-- Is there a delete? -/
theorem deletes_v (Z : Zone) (N : Nat) : ∀ (l : SL), l.size < N → l.size ≤ 4294967294 → ∀ (w : World) (up : Nat) (v : Value), SlS Z w up v l →
    Calls Tryz.prog 18 #[v] w fun e w' => e = .returned (.bool (delS l)) ∧ Keeps (fun _ => False) w w' := by
  induction N with
  | zero => intro l h; omega
  | succ N ih =>
    intro l hsz hmax w up v hS
    obtain ⟨ao, cap, b, off, rfl, hcap, ha, hx⟩ := hS.open
    have hll := SL.len_le l
    have IH := hide ih
    have HX := hide hx
    have HA := hide ha
    clear hS ih hx ha
    go_enter Tryz.func18, Tryz.ntmps18
    go_wp2_with fail
    go_loopw [3] (fun i wr => ∃ (rest : SL) (k : Nat), i = .int .i64 k ∧ k + rest.len = l.len ∧ rest.size ≤ l.size ∧ Hid (delS rest = delS l) ∧ Keeps (fun _ => False) w wr ∧ StIn Z wr rest b (off + k * 5)) (fun i _ => l.len - (intOf i).toNat)
    case atStart => exact ⟨l, 0, rfl, by omega, Nat.le_refl _, rfl, Keeps.refl _ _, by simpa using unhide HX⟩
    case round =>
      obtain ⟨rest, k, rfl, hkl, hrs, HD, hkeep, hr⟩ := hrel
      cases rest with
      | nil =>
        simp only [SL.len, SL.size] at hkl hrs
        have HK := hide hkeep
        clear hkeep hr
        have i1 : ¬ (k : Int) < (l.len : Int) := by omega
        go_wp2_with fail
        go_ret
        exact ⟨by rw [← unhide HD]; rfl, unhide HK⟩
      | cons op f ex th el rest =>
        obtain ⟨h1, h2, h3, h4, ⟨xv, h5, hxs⟩, ⟨tao, tcap, h6, h7, h8⟩, ⟨eao, ecap, g6, g7, g8⟩, h9⟩ := hr
        simp only [SL.len, SL.size] at hkl hrs
        obtain ⟨rfl, hp⟩ := (unhide HA) (by omega)
        have HTH : Hid (SlS Z wr b (.slice tao th.len tcap) th) := ⟨tao, tcap, rfl, h7, h8⟩
        have HEL : Hid (SlS Z wr b (.slice eao el.len ecap) el) := ⟨eao, ecap, rfl, g7, g8⟩
        have HR := hide h9
        have HK := hide hkeep
        have i1 : (k : Int) < (l.len : Int) := by omega
        have i0 : (0 : Int) ≤ (k : Int) := by omega
        have HC1 := hide (unhide IH th (by omega) (by omega) wr b _ (unhide HTH))
        have HC2 := fun w' (hq : Keeps (fun _ => False) wr w') => hide (unhide IH el (by omega) (by omega) w' b _ ((unhide HEL).keepF hq))
        have HDD : Hid ((decide (op = 7) || delS th || delS el || delS rest) = delS l) := HD
        clear h2 h4 hkeep h8 g8 h9 hxs h5 HD
        generalize delS th = dt at *
        generalize delS el = de at *
        by_cases hq : op = 7
        · subst hq
          go_wp2_with fail
          go_ret
          exact ⟨by rw [← unhide HDD]; simp, unhide HK⟩
        · have hq' : (op == 7) = false := by simpa using hq
          cases dt with
          | true =>
            go_wp2_with (go_at_call 18; refine (unhide HC1).mono ?_; rintro e w1 ⟨rfl, hk1⟩; have HK1 := hide ((unhide HK).trans hk1); clear hk1)
            go_ret
            exact ⟨by rw [← unhide HDD]; simp, unhide HK1⟩
          | false =>
            go_wp2_with (clear h6; go_at_call 18; refine (unhide HC1).mono ?_; rintro e w1 ⟨rfl, hk1⟩; have HK1 := hide ((unhide HK).trans hk1); have HW1 := hide hk1; have q6 := (hk1.cell h1 id).trans g6; clear hk1)
            go_at_call 18
            refine (unhide (HC2 _ (unhide HW1))).mono ?_
            rintro e w2 ⟨rfl, hk2⟩
            have HK2 := hide ((unhide HK1).trans hk2)
            have HW2 := hide ((unhide HW1).trans hk2)
            clear hk2
            cases de with
            | true =>
              go_wp2_with fail
              go_ret
              exact ⟨by rw [← unhide HDD]; simp, unhide HK2⟩
            | false =>
              go_wp2_with fail
              go_roundw
              case rel =>
                refine ⟨rest, k + 1, by go_num, by omega, by omega, ?_, unhide HK2, ?_⟩
                · refine hide ?_
                  rw [← unhide HDD]
                  simp [hq]
                · rw [show off + (k + 1) * 5 = off + k * 5 + 5 by omega]
                  exact (unhide HR).keepF (unhide HW2)
              case measure => simp [intOf]; omega
end Go.Proofs.YtijfnlfgehcpaaaGreatDoor
