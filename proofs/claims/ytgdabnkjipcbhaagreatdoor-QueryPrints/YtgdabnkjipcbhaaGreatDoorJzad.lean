import Derived.Test.YtgdabnkjipcbhaaGreatDoorEf
namespace Go.Proofs.YtgdabnkjipcbhaaGreatDoor
open Go.RowKit Go.Maps

set_option maxRecDepth 100000 in
set_option maxHeartbeats 800000 in
theorem exprsWellMade_v (Z : Zone) (N : Nat) : ∀ (l : EL), l.size < N → l.size ≤ 2147483647 → ∀ (w : World) (up : Nat) (v : Value), Forms w → SlE Z w up v l →
    Calls Tryz.prog 66 #[v] w fun e w' => e = .returned (.bool (wellE l)) ∧ Keeps (fun _ => False) w w' := by
  induction N with
  | zero => intro l h; omega
  | succ N ih =>
    intro l hsz hlen' w up v hF hS
    have hlen : l.len ≤ 2147483647 := by have := EL.len_le l; omega
    obtain ⟨ao, cap, b, off, rfl, hcap, ha, hx⟩ := hS.open
    have IH := hide ih
    have HX := hide hx
    have HA := hide ha
    have HF := hide hF
    clear hS ih hx ha hF
    go_enter Tryz.func66, Tryz.ntmps66
    go_wp2_with fail
    go_loopw [7] (fun i wr => ∃ (rest : EL) (k : Nat), i = .int .i64 k ∧ k + rest.len = l.len ∧ rest.size ≤ l.size ∧ wellE rest = wellE l ∧ Keeps (fun _ => False) w wr ∧ ExIn Z wr rest b (off + k * 4)) (fun i _ => l.len - (intOf i).toNat)
    case atStart => exact ⟨l, 0, rfl, by omega, Nat.le_refl _, rfl, Keeps.refl _ _, by simpa using unhide HX⟩
    case round =>
      obtain ⟨rest, k, rfl, hkl, hrs, hwe, hkeep, hr⟩ := hrel
      cases rest with
      | nil =>
        simp only [EL.len, EL.size, wellE] at hkl hrs hwe
        have HK := hide hkeep
        clear hkeep hr
        have i1 : ¬ (k : Int) < (l.len : Int) := by omega
        have HWE := hide hwe
        clear hwe
        go_wp2_with fail
        go_ret
        exact ⟨ret_bool (by first | exact unhide HWE | exact (unhide HWE).symm), unhide HK⟩
      | cons op n s kids rest =>
        obtain ⟨h1, h2, h3, h4, h5, ⟨kao, kcap, h6, h7, h8⟩, h9⟩ := hr
        simp only [EL.len, EL.size, wellE] at hkl hrs hwe
        obtain ⟨rfl, hp⟩ := (unhide HA) (by omega)
        have HKID : Hid (SlE Z wr b (.slice kao kids.len kcap) kids) := ⟨kao, kcap, rfl, h7, h8⟩
        have HR := hide h9
        have HK := hide hkeep
        have HWE := hide hwe
        have i1 : (k : Int) < (l.len : Int) := by omega
        have i0 : (0 : Int) ≤ (k : Int) := by omega
        obtain ⟨HB, hxb, hxc⟩ := boxedT wr #[.int .i64 op, .int .i64 n, str s, .slice kao kids.len kcap] 54
        have q3 := hxc 3 (.slice kao kids.len kcap) rfl
        have HRT := hide (rootFits_v op n s kao kids.len kcap _ (((unhide HF).keepF (unhide HK)).keepF (unhide HB)))
        have HKD := fun (w' : World) (hk : Keeps (fun _ => False) wr w') => hide (unhide IH kids (by omega) (by omega) w' b (.slice kao kids.len kcap) (((unhide HF).keepF (unhide HK)).keepF hk) ((unhide HKID).keepF hk))
        clear hkeep h2 h8 h9 hwe hxc
        cases hrt : rootB op n s kids.len with
        | false =>
          rw [hrt] at HRT HWE
          rw [Bool.false_and] at HWE
          go_wp2_with (go_at_call 91; refine (unhide HRT).mono ?_; rintro e w1 ⟨rfl, hk1⟩)
          go_ret
          exact ⟨ret_bool (unhide HWE), ((unhide HK).trans (unhide HB)).trans hk1⟩
        | true =>
          rw [hrt] at HRT HWE
          rw [Bool.true_and] at HWE
          cases hkd : wellE kids with
          | false =>
            simp only [hkd] at HKD
            rw [hkd] at HWE
            rw [Bool.false_and] at HWE
            go_wp2_with (first
              | (go_at_call 91; refine (unhide HRT).mono ?_; rintro e w1 ⟨rfl, hk1⟩; have HK1 := hide ((unhide HB).trans hk1); have q4 := (hk1.cell (o := 3) hxb id).trans q3; clear hk1)
              | (go_at_call 66; refine (unhide (HKD _ (unhide HK1))).mono ?_; rintro e w2 ⟨rfl, hk2⟩; have HK2 := hide ((unhide HK1).trans hk2); clear hk2))
            go_ret
            exact ⟨ret_bool (unhide HWE), (unhide HK).trans (unhide HK2)⟩
          | true =>
            simp only [hkd] at HKD
            rw [hkd] at HWE
            rw [Bool.true_and] at HWE
            go_wp2_with (first
              | (go_at_call 91; refine (unhide HRT).mono ?_; rintro e w1 ⟨rfl, hk1⟩; have HK1 := hide ((unhide HB).trans hk1); have q4 := (hk1.cell (o := 3) hxb id).trans q3; clear hk1)
              | (go_at_call 66; refine (unhide (HKD _ (unhide HK1))).mono ?_; rintro e w2 ⟨rfl, hk2⟩; have HK2 := hide ((unhide HK1).trans hk2); clear hk2))
            go_roundw
            case rel =>
              refine ⟨rest, k + 1, by go_num, by omega, by omega, unhide HWE, (unhide HK).trans (unhide HK2), ?_⟩
              rw [show off + (k + 1) * 4 = off + k * 4 + 4 by omega]
              exact (unhide HR).keepF (unhide HK2)
            case measure => simp [intOf]; omega
end Go.Proofs.YtgdabnkjipcbhaaGreatDoor
namespace Go.Proofs.YtgdabnkjipcbhaaGreatDoor
open Go.RowKit Go.Maps

set_option maxRecDepth 100000 in
set_option maxHeartbeats 800000 in
theorem exprsDepth_v (Z : Zone) (N : Nat) : ∀ (l : EL), l.size < N → l.size ≤ 2147483647 → ∀ (w : World) (up : Nat) (v : Value), SlE Z w up v l →
    Calls Tryz.prog 67 #[v] w fun e w' => e = .returned (.int .i64 (depthE l)) ∧ Keeps (fun _ => False) w w' := by
  induction N with
  | zero => intro l h; omega
  | succ N ih =>
    intro l hsz hlen' w up v hS
    have hlen : l.len ≤ 2147483647 := by have := EL.len_le l; omega
    obtain ⟨ao, cap, b, off, rfl, hcap, ha, hx⟩ := hS.open
    have IH := hide ih
    have HX := hide hx
    have HA := hide ha
    have HDL := hide (depthE_le l)
    clear hS ih hx ha
    go_enter Tryz.func67, Tryz.ntmps67
    go_wp2_with fail
    go_loopw [3, 8] (fun d i wr => ∃ (rest : EL) (k m : Nat), d = .int .i64 m ∧ i = .int .i64 k ∧ k + rest.len = l.len ∧ rest.size ≤ l.size ∧ max m (depthE rest) = depthE l ∧ Keeps (fun _ => False) w wr ∧ ExIn Z wr rest b (off + k * 4)) (fun _ i _ => l.len - (intOf i).toNat)
    case atStart => exact ⟨l, 0, 0, rfl, rfl, by omega, Nat.le_refl _, by omega, Keeps.refl _ _, by simpa using unhide HX⟩
    case round =>
      obtain ⟨rest, k, m, rfl, rfl, hkl, hrs, hwe, hkeep, hr⟩ := hrel
      cases rest with
      | nil =>
        simp only [EL.len, EL.size, depthE] at hkl hrs hwe
        have HK := hide hkeep
        have HWE := hide hwe
        clear hkeep hr hwe
        have i1 : ¬ (k : Int) < (l.len : Int) := by omega
        go_wp2_with fail
        go_ret
        exact ⟨ret_int (by have := unhide HWE; omega), unhide HK⟩
      | cons op n s kids rest =>
        obtain ⟨h1, h2, h3, h4, h5, ⟨kao, kcap, h6, h7, h8⟩, h9⟩ := hr
        simp only [EL.len, EL.size, depthE] at hkl hrs hwe
        obtain ⟨rfl, hp⟩ := (unhide HA) (by omega)
        have HKID : Hid (SlE Z wr b (.slice kao kids.len kcap) kids) := ⟨kao, kcap, rfl, h7, h8⟩
        have HR := hide h9
        have HK := hide hkeep
        have HWE := hide hwe
        have i1 : (k : Int) < (l.len : Int) := by omega
        have i0 : (0 : Int) ≤ (k : Int) := by omega
        obtain ⟨HB, hxb, hxc⟩ := boxedT wr #[.int .i64 op, .int .i64 n, str s, .slice kao kids.len kcap] 54
        have q3 := hxc 3 (.slice kao kids.len kcap) rfl
        have HKD := fun (w' : World) (hk : Keeps (fun _ => False) wr w') => hide (unhide IH kids (by omega) (by omega) w' b (.slice kao kids.len kcap) ((unhide HKID).keepF hk))
        have hdk := depthE_le kids
        obtain ⟨D, hD⟩ : ∃ D, D = depthE kids := ⟨_, rfl⟩
        simp only [← hD] at HKD
        rw [← hD] at HWE hdk
        clear hkeep h2 h8 h9 hwe hxc
        go_wp2_with (go_at_call 67; refine (unhide (HKD _ (unhide HB))).mono ?_; rintro e w1 ⟨rfl, hk1⟩; have HK1 := hide ((unhide HB).trans hk1); clear hk1)
        go_roundw
        case rel =>
          refine ⟨rest, k + 1, max m (1 + depthE kids), congrArg (Value.int .i64) (by split <;> omega), by go_num, by omega, by omega, by have := unhide HWE; omega, (unhide HK).trans (unhide HK1), ?_⟩
          rw [show off + (k + 1) * 4 = off + k * 4 + 4 by omega]
          exact (unhide HR).keepF (unhide HK1)
        case measure => simp [intOf]; omega
end Go.Proofs.YtgdabnkjipcbhaaGreatDoor
namespace Go.Proofs.YtgdabnkjipcbhaaGreatDoor
open Go.RowKit Go.Maps

theorem wrap64_id {n : Int} (h : -9223372036854775808 ≤ n ∧ n ≤ 9223372036854775807) : wrap64 n = n := by unfold wrap64; omega

end Go.Proofs.YtgdabnkjipcbhaaGreatDoor
namespace Go.Proofs.YtgdabnkjipcbhaaGreatDoor
open Go.RowKit Go.Maps

end Go.Proofs.YtgdabnkjipcbhaaGreatDoor
namespace Go.Proofs.YtgdabnkjipcbhaaGreatDoor
open Go.RowKit Go.Maps

end Go.Proofs.YtgdabnkjipcbhaaGreatDoor
namespace Go.Proofs.YtgdabnkjipcbhaaGreatDoor
open Go.RowKit Go.Maps

end Go.Proofs.YtgdabnkjipcbhaaGreatDoor
namespace Go.Proofs.YtgdabnkjipcbhaaGreatDoor
open Go.RowKit Go.Maps

/-- Anywhere. -/
def anyZ : Zone := ⟨fun _ _ _ => True, fun _ _ => True, fun _ _ h => h⟩
theorem ExIn.any {Z : Zone} {w : World} : ∀ {l : EL} {b o : Nat}, ExIn Z w l b o → ExIn anyZ w l b o
  | .nil, _, _, _ => trivial
  | .cons op n s kids rest, b, o, ⟨h1, _, h3, h4, h5, ⟨ao, cap, h6, h7, h8⟩, h9⟩ =>
    ⟨h1, trivial, h3, h4, h5, ⟨ao, cap, h6, h7, fun h0 => by
      obtain ⟨b', o', e, _, hr⟩ := h8 h0
      exact ⟨b', o', e, trivial, hr.any⟩⟩, h9.any⟩
theorem SlE.any {Z : Zone} {w : World} {up : Nat} {v : Value} {l : EL} (h : SlE Z w up v l) (up' : Nat) : SlE anyZ w up' v l := by
  obtain ⟨ao, cap, e, hc, hr⟩ := h
  refine ⟨ao, cap, e, hc, fun h0 => ?_⟩
  obtain ⟨b, o, e1, _, hx⟩ := hr h0
  exact ⟨b, o, e1, trivial, hx.any⟩

/-- A list of one expression. -/
theorem one_at {Z : Zone} {w : World} {g : Nat} {op n : Int} {s : Txt} {v : Value} {t : TypeId} {fr : Nat × Nat} {kids : EL} {up c : Nat} (hb : w.heap[g]? = some (.cells #[.int .i64 op, .int .i64 n, str s, v] t fr)) (hS : SlE Z w up v kids) (hc : 1 ≤ c) (up' : Nat) :
    SlE anyZ w up' (.slice (some ⟨g, 0, none⟩) 1 c) (.cons op n s kids .nil) := by
  obtain ⟨ao, cap, rfl, hl, hr⟩ := hS.any g
  refine ⟨_, c, rfl, hc, fun _ => ⟨g, 0, rfl, trivial, lt_of_block hb, trivial, ?_, ?_, ?_, ⟨ao, cap, ?_, hl, hr⟩, trivial⟩⟩
  all_goals (rw [cell_of_blk hb]; rfl)

set_option maxRecDepth 100000 in
set_option maxHeartbeats 800000 in
theorem checkExpr_v (Z : Zone) (op n : Int) (s : Txt) (kids : EL) (hsz : kids.size + 1 ≤ 2147483647) (w : World) (up : Nat) (v : Value) (hF : Forms w) (hS : SlE Z w up v kids) :
    Calls Tryz.prog 44 #[exV op n s v] w fun e w' => e = .returned (.int .i64 (checkE (.cons op n s kids .nil))) ∧ Keeps (fun _ => False) w w' := by
  obtain ⟨ao, cap, rfl, hc⟩ := hS.head
  have HK : Hid (Keeps (fun _ => False) w ((w.alloc (.cells #[.int .i64 op, .int .i64 n, str s, .slice ao kids.len cap] 54)).alloc (.cells #[.int .i64 op, .int .i64 n, str s, .slice ao kids.len cap] 54))) := hide (((Keeps.refl _ w).alloc _).alloc _)
  have hg : ((w.alloc (.cells #[.int .i64 op, .int .i64 n, str s, .slice ao kids.len cap] 54)).alloc (.cells #[.int .i64 op, .int .i64 n, str s, .slice ao kids.len cap] 54)).heap[w.heap.size + 1]? = some (.cells #[.int .i64 op, .int .i64 n, str s, .slice ao kids.len cap] 54 (0, 0)) := by
    have h := heap_alloc_new (w.alloc (.cells #[.int .i64 op, .int .i64 n, str s, .slice ao kids.len cap] 54)) (.cells #[.int .i64 op, .int .i64 n, str s, .slice ao kids.len cap] 54)
    simpa using h
  have hone := one_at hg (hS.keepF (unhide HK)) (Nat.le_refl 1) 0
  have hsz' : (EL.cons op n s kids .nil).size ≤ 2147483647 := by simp only [EL.size]; omega
  have HW := hide (exprsWellMade_v anyZ ((EL.cons op n s kids .nil).size + 1) (.cons op n s kids .nil) (by omega) hsz' _ 0 _ (hF.keepF (unhide HK)) hone)
  have HD := fun (w' : World) (hk : Keeps (fun _ => False) _ w') => hide (exprsDepth_v anyZ ((EL.cons op n s kids .nil).size + 1) (.cons op n s kids .nil) (by omega) hsz' w' 0 _ (hone.keepF hk))
  unfold checkE
  clear hF hS hg hone hsz'
  generalize wellE (.cons op n s kids .nil) = bw at HW ⊢
  generalize depthE (.cons op n s kids .nil) = nd at HD ⊢
  cases bw with
  | false =>
    rw [if_pos rfl]
    go_enter Tryz.func44, Tryz.ntmps44
    go_wp2_with (go_at_call 66; refine (unhide HW).mono ?_; rintro e w1 ⟨rfl, hk1⟩)
    go_ret
    exact ⟨rfl, (unhide HK).trans hk1⟩
  | true =>
    rw [if_neg (by simp)]
    by_cases h12 : 12 < nd
    · rw [if_pos h12]
      have g12 : (12 : Int) < (nd : Int) := by omega
      go_enter Tryz.func44, Tryz.ntmps44
      go_wp2_with (first
        | (go_at_call 66; refine (unhide HW).mono ?_; rintro e w1 ⟨rfl, hk1⟩; have HK1 := hide hk1; clear hk1)
        | (go_at_call 67; refine (unhide (HD _ (unhide HK1))).mono ?_; rintro e w2 ⟨rfl, hk2⟩; have HK2 := hide ((unhide HK1).trans hk2); clear hk2))
      go_ret
      exact ⟨rfl, (unhide HK).trans (unhide HK2)⟩
    · rw [if_neg h12]
      have g12 : ¬ (12 : Int) < (nd : Int) := by omega
      go_enter Tryz.func44, Tryz.ntmps44
      go_wp2_with (first
        | (go_at_call 66; refine (unhide HW).mono ?_; rintro e w1 ⟨rfl, hk1⟩; have HK1 := hide hk1; clear hk1)
        | (go_at_call 67; refine (unhide (HD _ (unhide HK1))).mono ?_; rintro e w2 ⟨rfl, hk2⟩; have HK2 := hide ((unhide HK1).trans hk2); clear hk2))
      go_ret
      exact ⟨rfl, (unhide HK).trans (unhide HK2)⟩
end Go.Proofs.YtgdabnkjipcbhaaGreatDoor
namespace Go.Proofs.YtgdabnkjipcbhaaGreatDoor
open Go.RowKit Go.Maps

def letB (c : Int) : Bool := decide (97 ≤ c) && decide (c ≤ 122) || decide (65 ≤ c) && decide (c ≤ 90) || decide (c = 95)
/-- May this byte stand at this place of a name? -/
def okc (k : Nat) (n : Int) : Bool := letB n || (decide (k ≠ 0) && digitB n)
def okB : Nat → Txt → Bool
  | _, [] => true
  | k, c :: r => okc k (num c) && okB (k + 1) r
theorem okB_all : ∀ (r : Txt) (k : Nat), okB (k + 1) r = r.all (fun c => partB (num c))
  | [], _ => rfl
  | c :: r, k => by
    rw [okB, okB_all r (k + 1), List.all_cons]
    congr 1
    apply Bool.eq_iff_iff.2
    simp [okc, letB, digitB, partB]
    omega
theorem nameB_ok (x : Txt) (h1 : 1 ≤ x.length) (h8 : x.length ≤ 8) (hk : x ∉ kws) : nameB x = okB 0 x := by
  cases x with
  | nil => simp at h1
  | cons c r =>
    rw [nameB_form (c :: r) c rfl h8, okB, okB_all, List.all_cons, decide_eq_false hk, Bool.not_false, Bool.and_true, ← Bool.and_assoc]
    congr 1
    apply Bool.eq_iff_iff.2
    simp [okc, letB, digitB, partB]
    omega
theorem nameB_no (x : Txt) (h : x.length < 1 ∨ 8 < x.length ∨ x ∈ kws) : nameB x = false := by
  unfold nameB
  rcases h with h | h | h
  · cases x with
    | nil => rfl
    | cons c r => simp at h
  · have : decide (x.length ≤ 8) = false := by simp; omega
    rw [this]
    simp
  · rw [decide_eq_true h]
    simp

set_option maxRecDepth 100000 in
set_option maxHeartbeats 1600000 in
theorem isName_v (x : Txt) (w : World) : Calls Tryz.prog 99 #[str x] w fun e w' => e = .returned (.bool (nameB x)) ∧ w' = w := by
  by_cases h1 : x.length < 1
  · rw [nameB_no x (Or.inl h1)]
    have g1 : (x.length : Int) < 1 := by omega
    go_enter Tryz.func99, Tryz.ntmps99
    go_wp2_with fail
    go_ret
    exact ⟨rfl, rfl⟩
  by_cases h8 : 8 < x.length
  · rw [nameB_no x (Or.inr (Or.inl h8))]
    have g1 : ¬ (x.length : Int) < 1 := by omega
    have g8 : (8 : Int) < (x.length : Int) := by omega
    go_enter Tryz.func99, Tryz.ntmps99
    go_wp2_with fail
    go_ret
    exact ⟨rfl, rfl⟩
  have HQ := hide (refKeyword_v x (by omega))
  have g1 : ¬ (x.length : Int) < 1 := by omega
  have g8 : ¬ (8 : Int) < (x.length : Int) := by omega
  by_cases hk : x ∈ kws
  · rw [nameB_no x (Or.inr (Or.inr hk))]
    rw [decide_eq_true hk] at HQ
    go_enter Tryz.func99, Tryz.ntmps99
    go_wp2_with (go_at_call 109; refine (unhide HQ _).mono ?_; rintro e w' ⟨rfl, rfl⟩)
    go_ret
    exact ⟨rfl, rfl⟩
  rw [nameB_ok x (by omega) (by omega) hk]
  rw [decide_eq_false hk] at HQ
  go_enter Tryz.func99, Tryz.ntmps99
  go_wp2_with (go_at_call 109; refine (unhide HQ _).mono ?_; rintro e w' ⟨rfl, rfl⟩)
  go_loopw [3] (fun i wr => ∃ k : Nat, k ≤ x.length ∧ i = .int .i64 k ∧ okB k (x.drop k) = okB 0 x ∧ wr = w') (fun i _ => x.length - (intOf i).toNat)
  case atStart => exact ⟨0, Nat.zero_le _, rfl, rfl, rfl⟩
  case round =>
    obtain ⟨k, hkl, rfl, hok, rfl⟩ := hrel
    have HOK := hide hok
    clear hok
    cases hc : x[k]? with
    | none =>
      have := get_ge hc
      have i1 : ¬ (k : Int) < (x.length : Int) := by omega
      have HZ : Hid (okB 0 x = true) := by
        have h := unhide HOK
        rw [List.drop_eq_nil_of_le this] at h
        exact h.symm
      go_wp2_with fail
      go_ret
      exact ⟨ret_bool (unhide HZ).symm, rfl⟩
    | some c =>
      have hlt := get_lt hc
      have hs := str_at hc
      have i1 : (k : Int) < (x.length : Int) := by omega
      have i0 : (0 : Int) ≤ (k : Int) := by omega
      have HO : Hid ((okc k (num c) && okB (k + 1) (x.drop (k + 1))) = okB 0 x) := by
        have h := unhide HOK
        rw [drop_at hc, okB] at h
        exact h
      obtain ⟨n, hn⟩ : ∃ n, n = num c := ⟨_, rfl⟩
      clear HOK
      go_wp2_with fail
      all_goals first
        | (go_ret; refine ⟨ret_bool ?_, rfl⟩; rw [← unhide HO]; (suffices h : okc k (num c) = false by rw [h]; rfl); clear HO HQ hs hc; apply Bool.eq_false_iff.2; have hn2 : n = (c.toNat : Int) := hn; rw [← hn]; simp only [okc, letB, digitB, Bool.or_eq_true, Bool.and_eq_true, decide_eq_true_eq, ne_eq]; omega)
        | (go_ret; refine ⟨ret_bool ?_, rfl⟩; rw [← unhide HO]; (suffices h : okc k (num c) = false by rw [h]; rfl); clear HO HQ hs hc; apply Bool.eq_false_iff.2; have h57 : ¬ (c.toNat : Int) ≤ 57 := (by rcases (by assumption : (!((c.toNat : Int) == 95)) = true ∧ (((k : Int) == 0) = true ∨ (!decide ((c.toNat : Int) ≤ 57)) = true)) with ⟨_, h | h⟩ <;> simp at h <;> omega); have hn2 : n = (c.toNat : Int) := hn; rw [← hn]; simp only [okc, letB, digitB, Bool.or_eq_true, Bool.and_eq_true, decide_eq_true_eq, ne_eq]; omega)
        | (go_roundw
           case rel =>
             refine ⟨k + 1, by omega, by go_num, ?_, trivial⟩
             rw [← unhide HO]
             (suffices h : okc k (num c) = true by rw [h]; rfl)
             clear HO HQ hs hc
             first
               | (have hn2 : n = (c.toNat : Int) := hn; rw [← hn]; simp only [okc, letB, digitB, Bool.or_eq_true, Bool.and_eq_true, decide_eq_true_eq, ne_eq]; omega)
               | (exfalso; simp at *; omega)
               | (simp at *; have hn2 : n = (c.toNat : Int) := hn; rw [← hn]; simp only [okc, letB, digitB, Bool.or_eq_true, Bool.and_eq_true, decide_eq_true_eq, ne_eq]; omega)
           case measure => (simp [intOf]; omega))
end Go.Proofs.YtgdabnkjipcbhaaGreatDoor
namespace Go.Proofs.YtgdabnkjipcbhaaGreatDoor
open Go.RowKit Go.Maps

set_option maxRecDepth 100000 in
set_option maxHeartbeats 800000 in
theorem kids_v (op : Int) (w : World) : Calls Tryz.prog 78 #[.int .i64 op] w fun e w' => e = .returned (.int .i64 (kidsB op)) ∧ w' = w := by
  go_enter Tryz.func78, Tryz.ntmps78
  go_wp2_with fail
  all_goals (go_ret; refine ⟨ret_int ?_, rfl⟩; unfold kidsB; (repeat' split) <;> first | rfl | (exfalso; simp_all; done) | (exfalso; simp_all; omega) | (exfalso; omega))

set_option maxRecDepth 100000 in
set_option maxHeartbeats 1600000 in
theorem leaf_v (op n : Int) (s : Txt) (kv : Value) (w : World) (hkv : ∃ ao k cap, kv = .slice ao k cap) :
    Calls Tryz.prog 79 #[exV op n s kv] w fun e w' => e = .returned (.bool (leafB op n s)) ∧ Keeps (fun _ => False) w w' := by
  obtain ⟨ao, k, cap, rfl⟩ := hkv
  obtain ⟨HX, hxb, hxc⟩ := boxedT w #[.int .i64 op, .int .i64 n, str s, .slice ao k cap] 54
  have c0 := hxc 0 (.int .i64 op) rfl
  have c1 := hxc 1 (.int .i64 n) rfl
  have c2 := hxc 2 (str s) rfl
  have HN := hide (isName_v s)
  clear hxc
  unfold leafB
  by_cases h1 : op = 1
  · subst h1
    rw [if_pos rfl]
    go_enter Tryz.func79, Tryz.ntmps79
    go_wp2_with fail
    all_goals (go_ret; refine ⟨ret_bool ?_, (Keeps.refl _ w).alloc _⟩; clear HX c0 c1 c2 HN hxb; cases s <;> simp)
  rw [if_neg h1]
  by_cases h2 : op = 2
  · subst h2
    rw [if_pos rfl]
    go_enter Tryz.func79, Tryz.ntmps79
    go_wp2_with fail
    all_goals (go_ret; refine ⟨ret_bool ?_, (Keeps.refl _ w).alloc _⟩; clear HX c0 c1 c2 HN hxb; first | (cases s <;> simp_all; done) | (cases s <;> simp_all <;> (apply Bool.eq_iff_iff.2; simp; omega)))
  rw [if_neg h2]
  by_cases h3 : op = 3
  · subst h3
    rw [if_pos rfl]
    go_enter Tryz.func79, Tryz.ntmps79
    go_wp2_with fail
    all_goals (go_ret; refine ⟨ret_bool ?_, (Keeps.refl _ w).alloc _⟩; clear HX c0 c1 c2 HN hxb; first | (simp_all; done) | (simp_all; omega))
  rw [if_neg h3]
  by_cases h4 : op = 4
  · subst h4
    rw [if_pos (by omega)]
    go_enter Tryz.func79, Tryz.ntmps79
    go_wp2_with (go_at_call 99; refine (unhide HN _).mono ?_; rintro e w1 ⟨rfl, rfl⟩)
    all_goals (go_ret; refine ⟨ret_bool ?_, (Keeps.refl _ w).alloc _⟩; clear HX c0 c1 c2 HN hxb; simp_all)
  by_cases h5 : op = 5
  · subst h5
    rw [if_pos (by omega)]
    go_enter Tryz.func79, Tryz.ntmps79
    go_wp2_with (go_at_call 99; refine (unhide HN _).mono ?_; rintro e w1 ⟨rfl, rfl⟩)
    all_goals (go_ret; refine ⟨ret_bool ?_, (Keeps.refl _ w).alloc _⟩; clear HX c0 c1 c2 HN hxb; simp_all)
  rw [if_neg (by omega)]
  have d1 : (op == 1) = false := by simpa using h1
  have d2 : (op == 2) = false := by simpa using h2
  have d3 : (op == 3) = false := by simpa using h3
  have d4 : (op == 4) = false := by simpa using h4
  have d5 : (op == 5) = false := by simpa using h5
  clear h1 h2 h3 h4 h5
  go_enter Tryz.func79, Tryz.ntmps79
  go_wp2_with (go_at_call 99; refine (unhide HN _).mono ?_; rintro e w1 ⟨rfl, rfl⟩)
  all_goals (go_ret; refine ⟨ret_bool ?_, (Keeps.refl _ w).alloc _⟩; clear HX c0 c1 c2 HN hxb; cases s <;> simp_all)
end Go.Proofs.YtgdabnkjipcbhaaGreatDoor
namespace Go.Proofs.YtgdabnkjipcbhaaGreatDoor
open Go.RowKit Go.Maps

set_option maxRecDepth 100000 in
set_option maxHeartbeats 1600000 in
theorem wellExpr_v (Z : Zone) (N : Nat) : ∀ (kids : EL), kids.size < N → kids.size ≤ 2147483647 → ∀ (op n : Int) (s : Txt) (w : World) (up : Nat) (v : Value), SlE Z w up v kids →
    Calls Tryz.prog 49 #[exV op n s v] w fun e w' => e = .returned (.bool (rootB op n s kids.len && wellE kids)) ∧ Keeps (fun _ => False) w w' := by
  induction N with
  | zero => intro l h; omega
  | succ N ih =>
    intro l hsz hlen' op n s w up v hS
    have hlen : l.len ≤ 2147483647 := by have := EL.len_le l; omega
    obtain ⟨ao, cap, b, off, rfl, hcap, ha, hx⟩ := hS.open
    obtain ⟨HB, hxb, hxc⟩ := boxedT w #[.int .i64 op, .int .i64 n, str s, .slice ao l.len cap] 54
    have c0 := hxc 0 (.int .i64 op) rfl
    have c1 := hxc 1 (.int .i64 n) rfl
    have c2 := hxc 2 (str s) rfl
    have c3 := hxc 3 (.slice ao l.len cap) rfl
    have IH := hide ih
    have HX := hide hx
    have HA := hide ha
    have HLF := hide (leaf_v op n s (.slice ao l.len cap) (w.alloc (.cells #[.int .i64 op, .int .i64 n, str s, .slice ao l.len cap] 54)) ⟨_, _, _, rfl⟩)
    have HKI := hide (kids_v op (w.alloc (.cells #[.int .i64 op, .int .i64 n, str s, .slice ao l.len cap] 54)))
    clear hS ih hx ha hxc
    unfold rootB
    by_cases hk0 : 0 ≤ kidsB op
    · rw [decide_eq_true hk0, Bool.true_and]
      by_cases hkk : (l.len : Int) = kidsB op
      · rw [decide_eq_true hkk, Bool.true_and]
        generalize kidsB op = K at *
        subst hkk
        cases hlf : leafB op n s with
        | false =>
          rw [hlf] at HLF
          rw [Bool.false_and]
          go_enter Tryz.func49, Tryz.ntmps49
          go_wp2_with (first
            | (go_at_call 78; refine (unhide HKI).mono ?_; rintro e w1 ⟨rfl, rfl⟩)
            | (go_at_call 79; refine (unhide HLF).mono ?_; rintro e w2 ⟨rfl, hk2⟩))
          go_ret
          exact ⟨rfl, (unhide HB).trans hk2⟩
        | true =>
          rw [hlf] at HLF
          rw [Bool.true_and]
          go_enter Tryz.func49, Tryz.ntmps49
          go_wp2_with (first
            | (go_at_call 78; refine (unhide HKI).mono ?_; rintro e w1 ⟨rfl, rfl⟩)
            | (go_at_call 79; refine (unhide HLF).mono ?_; rintro e w2 ⟨rfl, hk2⟩; have HK2 := hide hk2; clear hk2))
          go_loopw [4] (fun i wr => ∃ (rest : EL) (k : Nat), i = .int .i64 k ∧ k + rest.len = l.len ∧ rest.size ≤ l.size ∧ wellE rest = wellE l ∧ Keeps (fun _ => False) (w.alloc (.cells #[.int .i64 op, .int .i64 n, str s, .slice ao l.len cap] 54)) wr ∧ ExIn Z wr rest b (off + k * 4)) (fun i _ => l.len - (intOf i).toNat)
          case atStart => exact ⟨l, 0, rfl, by omega, Nat.le_refl _, rfl, unhide HK2, by simpa using (unhide HX).keepF ((unhide HB).trans (unhide HK2))⟩
          case round =>
            obtain ⟨rest, k, rfl, hkl, hrs, hwe, hkeep, hr⟩ := hrel
            have q3 := (hkeep.cell (o := 3) hxb id).trans c3
            have HK := hide hkeep
            clear HK2 hkeep
            cases rest with
            | nil =>
              simp only [EL.len, EL.size, wellE] at hkl hrs hwe
              have HWE := hide hwe
              clear hr hwe
              have i1 : ¬ (k : Int) < (l.len : Int) := by omega
              go_wp2_with fail
              go_ret
              exact ⟨ret_bool (by first | exact unhide HWE | exact (unhide HWE).symm), (unhide HB).trans (unhide HK)⟩
            | cons op' n' s' kids rest =>
              obtain ⟨h1, h2, h3, h4, h5, ⟨kao, kcap, h6, h7, h8⟩, h9⟩ := hr
              simp only [EL.len, EL.size, wellE] at hkl hrs hwe
              obtain ⟨rfl, hp⟩ := (unhide HA) (by omega)
              have HKID : Hid (SlE Z wr b (.slice kao kids.len kcap) kids) := ⟨kao, kcap, rfl, h7, h8⟩
              have HR := hide h9
              have HWE := hide hwe
              have i1 : (k : Int) < (l.len : Int) := by omega
              have i0 : (0 : Int) ≤ (k : Int) := by omega
              have HKD := hide (unhide IH kids (by omega) (by omega) op' n' s' wr b (.slice kao kids.len kcap) (unhide HKID))
              clear h2 h8 h9 hwe
              rw [← Bool.and_assoc] at HWE
              cases hv : (rootB op' n' s' kids.len && wellE kids) with
              | false =>
                rw [hv] at HKD HWE
                go_wp2_with (go_at_call 49; refine (unhide HKD).mono ?_; rintro e w1 ⟨rfl, hk1⟩)
                go_ret
                exact ⟨ret_bool (by have := unhide HWE; simpa using this), ((unhide HB).trans (unhide HK)).trans hk1⟩
              | true =>
                rw [hv] at HKD HWE
                go_wp2_with (go_at_call 49; refine (unhide HKD).mono ?_; rintro e w1 ⟨rfl, hk1⟩; have HK1 := hide hk1; clear hk1)
                go_roundw
                case rel =>
                  refine ⟨rest, k + 1, by go_num, by omega, by omega, by have := unhide HWE; simpa using this, (unhide HK).trans (unhide HK1), ?_⟩
                  rw [show off + (k + 1) * 4 = off + k * 4 + 4 by omega]
                  exact (unhide HR).keepF (unhide HK1)
                case measure => simp [intOf]; omega
      · rw [decide_eq_false hkk, Bool.false_and, Bool.false_and]
        generalize kidsB op = K at *
        have d1 : ((l.len : Int) != K) = true := by simpa using hkk
        have d0 : ¬ K < 0 := by omega
        clear hkk
        go_enter Tryz.func49, Tryz.ntmps49
        go_wp2_with (go_at_call 78; refine (unhide HKI).mono ?_; rintro e w1 ⟨rfl, rfl⟩)
        all_goals (go_ret; exact ⟨rfl, unhide HB⟩)
    · rw [decide_eq_false hk0, Bool.false_and, Bool.false_and]
      generalize kidsB op = K at *
      have d0 : K < 0 := by omega
      go_enter Tryz.func49, Tryz.ntmps49
      go_wp2_with (go_at_call 78; refine (unhide HKI).mono ?_; rintro e w1 ⟨rfl, rfl⟩)
      all_goals (go_ret; exact ⟨rfl, unhide HB⟩)
end Go.Proofs.YtgdabnkjipcbhaaGreatDoor
