import Derived.Test.YtiinohibmcefkaaGreatDoorJai
import Derived.Test.YtiinohibmcefkaaGreatDoorKg
import Derived.Test.YtiinohibmcefkaaGreatDoorJag
import Derived.Test.YtiinohibmcefkaaGreatDoorJac
import Derived.Test.YtiinohibmcefkaaGreatDoorKh
import Derived.Test.YtiinohibmcefkaaGreatDoorJae
namespace Go.Proofs.YtiinohibmcefkaaGreatDoor
open Go.RowKit Go.Maps

/-- Anywhere. -/
def anyZ : Zone := ⟨fun _ _ _ => True, fun _ _ => True, fun _ _ h => h⟩
theorem ExIn.any {Z : Zone} {w : World} : ∀ {l : EL} {b o : Nat}, ExIn Z w l b o → ExIn anyZ w l b o
  | .nil, _, _, _ => trivial
  | .cons op n s kids rest, b, o, ⟨h1, _, h3, h4, h5, ⟨ao, cap, h6, h7, h8⟩, h9⟩ =>
    ⟨h1, trivial, h3, h4, h5, ⟨ao, cap, h6, h7, fun h0 => by
      obtain ⟨b', o', e, _, hr⟩ := h8 h0
      exact ⟨b', o', e, trivial, hr.any⟩⟩, h9.any⟩
theorem SlE.any {Z : Zone} {w : World} {up : Nat} {v : Value} {l : EL} (h : SlE Z w up v l) (up' : Nat) : SlE anyZ w up' v l := by
  obtain ⟨ao, cap, e, hc, hr⟩ := h
  refine ⟨ao, cap, e, hc, fun h0 => ?_⟩
  obtain ⟨b, o, e1, _, hx⟩ := hr h0
  exact ⟨b, o, e1, trivial, hx.any⟩

/-- A list of one expression. -/
theorem one_at {Z : Zone} {w : World} {g : Nat} {op n : Int} {s : Txt} {v : Value} {t : TypeId} {fr : Nat × Nat} {kids : EL} {up c : Nat} (hb : w.heap[g]? = some (.cells #[.int .i64 op, .int .i64 n, str s, v] t fr)) (hS : SlE Z w up v kids) (hc : 1 ≤ c) (up' : Nat) :
    SlE anyZ w up' (.slice (some ⟨g, 0, none⟩) 1 c) (.cons op n s kids .nil) := by
  obtain ⟨ao, cap, rfl, hl, hr⟩ := hS.any g
  refine ⟨_, c, rfl, hc, fun _ => ⟨g, 0, rfl, trivial, lt_of_block hb, trivial, ?_, ?_, ?_, ⟨ao, cap, ?_, hl, hr⟩, trivial⟩⟩
  all_goals (rw [cell_of_blk hb]; rfl)

end Go.Proofs.YtiinohibmcefkaaGreatDoor
namespace Go.Proofs.YtiinohibmcefkaaGreatDoor
open Go.RowKit Go.Maps

def letB (c : Int) : Bool := decide (97 ≤ c) && decide (c ≤ 122) || decide (65 ≤ c) && decide (c ≤ 90) || decide (c = 95)
/-- May this byte stand at this place of a name? -/
def okc (k : Nat) (n : Int) : Bool := letB n || (decide (k ≠ 0) && digitB n)
def okB : Nat → Txt → Bool
  | _, [] => true
  | k, c :: r => okc k (num c) && okB (k + 1) r
theorem okB_all : ∀ (r : Txt) (k : Nat), okB (k + 1) r = r.all (fun c => partB (num c))
  | [], _ => rfl
  | c :: r, k => by
    rw [okB, okB_all r (k + 1), List.all_cons]
    congr 1
    apply Bool.eq_iff_iff.2
    simp [okc, letB, digitB, partB]
    omega
theorem nameB_ok (x : Txt) (h1 : 1 ≤ x.length) (h8 : x.length ≤ 8) (hk : x ∉ kws) : nameB x = okB 0 x := by
  cases x with
  | nil => simp at h1
  | cons c r =>
    rw [nameB_form (c :: r) c rfl h8, okB, okB_all, List.all_cons, decide_eq_false hk, Bool.not_false, Bool.and_true, ← Bool.and_assoc]
    congr 1
    apply Bool.eq_iff_iff.2
    simp [okc, letB, digitB, partB]
    omega
theorem nameB_no (x : Txt) (h : x.length < 1 ∨ 8 < x.length ∨ x ∈ kws) : nameB x = false := by
  unfold nameB
  rcases h with h | h | h
  · cases x with
    | nil => rfl
    | cons c r => simp at h
  · have : decide (x.length ≤ 8) = false := by simp; omega
    rw [this]
    simp
  · rw [decide_eq_true h]
    simp

set_option maxRecDepth 100000 in
set_option maxHeartbeats 1600000 in
theorem isName_v (x : Txt) (w : World) : Calls Tryz.prog 218 #[str x] w fun e w' => e = .returned (.bool (nameB x)) ∧ w' = w := by
  by_cases h1 : x.length < 1
  · rw [nameB_no x (Or.inl h1)]
    have g1 : (x.length : Int) < 1 := by omega
    go_enter Tryz.func218, Tryz.ntmps218
    go_wp2_with fail
    go_ret
    exact ⟨rfl, rfl⟩
  by_cases h8 : 8 < x.length
  · rw [nameB_no x (Or.inr (Or.inl h8))]
    have g1 : ¬ (x.length : Int) < 1 := by omega
    have g8 : (8 : Int) < (x.length : Int) := by omega
    go_enter Tryz.func218, Tryz.ntmps218
    go_wp2_with fail
    go_ret
    exact ⟨rfl, rfl⟩
  have HQ := hide (refKeyword_v x (by omega))
  have g1 : ¬ (x.length : Int) < 1 := by omega
  have g8 : ¬ (8 : Int) < (x.length : Int) := by omega
  by_cases hk : x ∈ kws
  · rw [nameB_no x (Or.inr (Or.inr hk))]
    rw [decide_eq_true hk] at HQ
    go_enter Tryz.func218, Tryz.ntmps218
    go_wp2_with (go_at_call 221; refine (unhide HQ _).mono ?_; rintro e w' ⟨rfl, rfl⟩)
    go_ret
    exact ⟨rfl, rfl⟩
  rw [nameB_ok x (by omega) (by omega) hk]
  rw [decide_eq_false hk] at HQ
  go_enter Tryz.func218, Tryz.ntmps218
  go_wp2_with (go_at_call 221; refine (unhide HQ _).mono ?_; rintro e w' ⟨rfl, rfl⟩)
  go_loopw [3] (fun i wr => ∃ k : Nat, k ≤ x.length ∧ i = .int .i64 k ∧ okB k (x.drop k) = okB 0 x ∧ wr = w') (fun i _ => x.length - (intOf i).toNat)
  case atStart => exact ⟨0, Nat.zero_le _, rfl, rfl, rfl⟩
  case round =>
    obtain ⟨k, hkl, rfl, hok, rfl⟩ := hrel
    have HOK := hide hok
    clear hok
    cases hc : x[k]? with
    | none =>
      have := get_ge hc
      have i1 : ¬ (k : Int) < (x.length : Int) := by omega
      have HZ : Hid (okB 0 x = true) := by
        have h := unhide HOK
        rw [List.drop_eq_nil_of_le this] at h
        exact h.symm
      go_wp2_with fail
      go_ret
      exact ⟨ret_bool (unhide HZ).symm, rfl⟩
    | some c =>
      have hlt := get_lt hc
      have hs := str_at hc
      have i1 : (k : Int) < (x.length : Int) := by omega
      have i0 : (0 : Int) ≤ (k : Int) := by omega
      have HO : Hid ((okc k (num c) && okB (k + 1) (x.drop (k + 1))) = okB 0 x) := by
        have h := unhide HOK
        rw [drop_at hc, okB] at h
        exact h
      obtain ⟨n, hn⟩ : ∃ n, n = num c := ⟨_, rfl⟩
      clear HOK
      go_wp2_with fail
      all_goals first
        | (go_ret; refine ⟨ret_bool ?_, rfl⟩; rw [← unhide HO]; (suffices h : okc k (num c) = false by rw [h]; rfl); clear HO HQ hs hc; apply Bool.eq_false_iff.2; have hn2 : n = (c.toNat : Int) := hn; rw [← hn]; simp only [okc, letB, digitB, Bool.or_eq_true, Bool.and_eq_true, decide_eq_true_eq, ne_eq]; omega)
        | (go_ret; refine ⟨ret_bool ?_, rfl⟩; rw [← unhide HO]; (suffices h : okc k (num c) = false by rw [h]; rfl); clear HO HQ hs hc; apply Bool.eq_false_iff.2; have h57 : ¬ (c.toNat : Int) ≤ 57 := (by rcases (by assumption : (!((c.toNat : Int) == 95)) = true ∧ (((k : Int) == 0) = true ∨ (!decide ((c.toNat : Int) ≤ 57)) = true)) with ⟨_, h | h⟩ <;> simp at h <;> omega); have hn2 : n = (c.toNat : Int) := hn; rw [← hn]; simp only [okc, letB, digitB, Bool.or_eq_true, Bool.and_eq_true, decide_eq_true_eq, ne_eq]; omega)
        | (go_roundw
           case rel =>
             refine ⟨k + 1, by omega, by go_num, ?_, trivial⟩
             rw [← unhide HO]
             (suffices h : okc k (num c) = true by rw [h]; rfl)
             clear HO HQ hs hc
             first
               | (have hn2 : n = (c.toNat : Int) := hn; rw [← hn]; simp only [okc, letB, digitB, Bool.or_eq_true, Bool.and_eq_true, decide_eq_true_eq, ne_eq]; omega)
               | (exfalso; simp at *; omega)
               | (simp at *; have hn2 : n = (c.toNat : Int) := hn; rw [← hn]; simp only [okc, letB, digitB, Bool.or_eq_true, Bool.and_eq_true, decide_eq_true_eq, ne_eq]; omega)
           case measure => (simp [intOf]; omega))
end Go.Proofs.YtiinohibmcefkaaGreatDoor
namespace Go.Proofs.YtiinohibmcefkaaGreatDoor
open Go.RowKit Go.Maps

set_option maxRecDepth 100000 in
set_option maxHeartbeats 800000 in
theorem kids_v (op : Int) (w : World) : Calls Tryz.prog 197 #[.int .i64 op] w fun e w' => e = .returned (.int .i64 (kidsB op)) ∧ w' = w := by
  go_enter Tryz.func197, Tryz.ntmps197
  go_wp2_with fail
  all_goals (go_ret; refine ⟨ret_int ?_, rfl⟩; unfold kidsB; (repeat' split) <;> first | rfl | (exfalso; simp_all; done) | (exfalso; simp_all; omega) | (exfalso; omega))

set_option maxRecDepth 100000 in
set_option maxHeartbeats 1600000 in
theorem leaf_v (op n : Int) (s : Txt) (kv : Value) (w : World) (hkv : ∃ ao k cap, kv = .slice ao k cap) :
    Calls Tryz.prog 198 #[exV op n s kv] w fun e w' => e = .returned (.bool (leafB op n s)) ∧ Keeps (fun _ => False) w w' := by
  obtain ⟨ao, k, cap, rfl⟩ := hkv
  obtain ⟨HX, hxb, hxc⟩ := boxedT w #[.int .i64 op, .int .i64 n, str s, .slice ao k cap] 27
  have c0 := hxc 0 (.int .i64 op) rfl
  have c1 := hxc 1 (.int .i64 n) rfl
  have c2 := hxc 2 (str s) rfl
  have HN := hide (isName_v s)
  clear hxc
  unfold leafB
  by_cases h1 : op = 1
  · subst h1
    rw [if_pos rfl]
    go_enter Tryz.func198, Tryz.ntmps198
    go_wp2_with fail
    all_goals (go_ret; refine ⟨ret_bool ?_, (Keeps.refl _ w).alloc _⟩; clear HX c0 c1 c2 HN hxb; cases s <;> simp)
  rw [if_neg h1]
  by_cases h2 : op = 2
  · subst h2
    rw [if_pos rfl]
    go_enter Tryz.func198, Tryz.ntmps198
    go_wp2_with fail
    all_goals (go_ret; refine ⟨ret_bool ?_, (Keeps.refl _ w).alloc _⟩; clear HX c0 c1 c2 HN hxb; first | (cases s <;> simp_all; done) | (cases s <;> simp_all <;> (apply Bool.eq_iff_iff.2; simp; omega)))
  rw [if_neg h2]
  by_cases h3 : op = 3
  · subst h3
    rw [if_pos rfl]
    go_enter Tryz.func198, Tryz.ntmps198
    go_wp2_with fail
    all_goals (go_ret; refine ⟨ret_bool ?_, (Keeps.refl _ w).alloc _⟩; clear HX c0 c1 c2 HN hxb; first | (simp_all; done) | (simp_all; omega))
  rw [if_neg h3]
  by_cases h4 : op = 4
  · subst h4
    rw [if_pos (by omega)]
    go_enter Tryz.func198, Tryz.ntmps198
    go_wp2_with (go_at_call 218; refine (unhide HN _).mono ?_; rintro e w1 ⟨rfl, rfl⟩)
    all_goals (go_ret; refine ⟨ret_bool ?_, (Keeps.refl _ w).alloc _⟩; clear HX c0 c1 c2 HN hxb; simp_all)
  by_cases h5 : op = 5
  · subst h5
    rw [if_pos (by omega)]
    go_enter Tryz.func198, Tryz.ntmps198
    go_wp2_with (go_at_call 218; refine (unhide HN _).mono ?_; rintro e w1 ⟨rfl, rfl⟩)
    all_goals (go_ret; refine ⟨ret_bool ?_, (Keeps.refl _ w).alloc _⟩; clear HX c0 c1 c2 HN hxb; simp_all)
  rw [if_neg (by omega)]
  have d1 : (op == 1) = false := by simpa using h1
  have d2 : (op == 2) = false := by simpa using h2
  have d3 : (op == 3) = false := by simpa using h3
  have d4 : (op == 4) = false := by simpa using h4
  have d5 : (op == 5) = false := by simpa using h5
  clear h1 h2 h3 h4 h5
  go_enter Tryz.func198, Tryz.ntmps198
  go_wp2_with (go_at_call 218; refine (unhide HN _).mono ?_; rintro e w1 ⟨rfl, rfl⟩)
  all_goals (go_ret; refine ⟨ret_bool ?_, (Keeps.refl _ w).alloc _⟩; clear HX c0 c1 c2 HN hxb; cases s <;> simp_all)
end Go.Proofs.YtiinohibmcefkaaGreatDoor
namespace Go.Proofs.YtiinohibmcefkaaGreatDoor
open Go.RowKit Go.Maps

set_option maxRecDepth 100000 in
set_option maxHeartbeats 1600000 in
theorem wellExpr_v (Z : Zone) (N : Nat) : ∀ (kids : EL), kids.size < N → kids.size ≤ 4294967294 → ∀ (op n : Int) (s : Txt) (w : World) (up : Nat) (v : Value), SlE Z w up v kids →
    Calls Tryz.prog 147 #[exV op n s v] w fun e w' => e = .returned (.bool (rootB op n s kids.len && wellE kids)) ∧ Keeps (fun _ => False) w w' := by
  induction N with
  | zero => intro l h; omega
  | succ N ih =>
    intro l hsz hlen' op n s w up v hS
    have hlen : l.len ≤ 4294967294 := by have := EL.len_le l; omega
    obtain ⟨ao, cap, b, off, rfl, hcap, ha, hx⟩ := hS.open
    obtain ⟨HB, hxb, hxc⟩ := boxedT w #[.int .i64 op, .int .i64 n, str s, .slice ao l.len cap] 27
    have c0 := hxc 0 (.int .i64 op) rfl
    have c1 := hxc 1 (.int .i64 n) rfl
    have c2 := hxc 2 (str s) rfl
    have c3 := hxc 3 (.slice ao l.len cap) rfl
    have IH := hide ih
    have HX := hide hx
    have HA := hide ha
    have HLF := hide (leaf_v op n s (.slice ao l.len cap) (w.alloc (.cells #[.int .i64 op, .int .i64 n, str s, .slice ao l.len cap] 27)) ⟨_, _, _, rfl⟩)
    have HKI := hide (kids_v op (w.alloc (.cells #[.int .i64 op, .int .i64 n, str s, .slice ao l.len cap] 27)))
    clear hS ih hx ha hxc
    unfold rootB
    by_cases hk0 : 0 ≤ kidsB op
    · rw [decide_eq_true hk0, Bool.true_and]
      by_cases hkk : (l.len : Int) = kidsB op
      · rw [decide_eq_true hkk, Bool.true_and]
        generalize kidsB op = K at *
        subst hkk
        cases hlf : leafB op n s with
        | false =>
          rw [hlf] at HLF
          rw [Bool.false_and]
          go_enter Tryz.func147, Tryz.ntmps147
          go_wp2_with (first
            | (go_at_call 197; refine (unhide HKI).mono ?_; rintro e w1 ⟨rfl, rfl⟩)
            | (go_at_call 198; refine (unhide HLF).mono ?_; rintro e w2 ⟨rfl, hk2⟩))
          go_ret
          exact ⟨rfl, (unhide HB).trans hk2⟩
        | true =>
          rw [hlf] at HLF
          rw [Bool.true_and]
          go_enter Tryz.func147, Tryz.ntmps147
          go_wp2_with (first
            | (go_at_call 197; refine (unhide HKI).mono ?_; rintro e w1 ⟨rfl, rfl⟩)
            | (go_at_call 198; refine (unhide HLF).mono ?_; rintro e w2 ⟨rfl, hk2⟩; have HK2 := hide hk2; clear hk2))
          go_loopw [4] (fun i wr => ∃ (rest : EL) (k : Nat), i = .int .i64 k ∧ k + rest.len = l.len ∧ rest.size ≤ l.size ∧ wellE rest = wellE l ∧ Keeps (fun _ => False) (w.alloc (.cells #[.int .i64 op, .int .i64 n, str s, .slice ao l.len cap] 27)) wr ∧ ExIn Z wr rest b (off + k * 4)) (fun i _ => l.len - (intOf i).toNat)
          case atStart => exact ⟨l, 0, rfl, by omega, Nat.le_refl _, rfl, unhide HK2, by simpa using (unhide HX).keepF ((unhide HB).trans (unhide HK2))⟩
          case round =>
            obtain ⟨rest, k, rfl, hkl, hrs, hwe, hkeep, hr⟩ := hrel
            have q3 := (hkeep.cell (o := 3) hxb id).trans c3
            have HK := hide hkeep
            clear HK2 hkeep
            cases rest with
            | nil =>
              simp only [EL.len, EL.size, wellE] at hkl hrs hwe
              have HWE := hide hwe
              clear hr hwe
              have i1 : ¬ (k : Int) < (l.len : Int) := by omega
              go_wp2_with fail
              go_ret
              exact ⟨ret_bool (by first | exact unhide HWE | exact (unhide HWE).symm), (unhide HB).trans (unhide HK)⟩
            | cons op' n' s' kids rest =>
              obtain ⟨h1, h2, h3, h4, h5, ⟨kao, kcap, h6, h7, h8⟩, h9⟩ := hr
              simp only [EL.len, EL.size, wellE] at hkl hrs hwe
              obtain ⟨rfl, hp⟩ := (unhide HA) (by omega)
              have HKID : Hid (SlE Z wr b (.slice kao kids.len kcap) kids) := ⟨kao, kcap, rfl, h7, h8⟩
              have HR := hide h9
              have HWE := hide hwe
              have i1 : (k : Int) < (l.len : Int) := by omega
              have i0 : (0 : Int) ≤ (k : Int) := by omega
              have HKD := hide (unhide IH kids (by omega) (by omega) op' n' s' wr b (.slice kao kids.len kcap) (unhide HKID))
              clear h2 h8 h9 hwe
              rw [← Bool.and_assoc] at HWE
              cases hv : (rootB op' n' s' kids.len && wellE kids) with
              | false =>
                rw [hv] at HKD HWE
                go_wp2_with (go_at_call 147; refine (unhide HKD).mono ?_; rintro e w1 ⟨rfl, hk1⟩)
                go_ret
                exact ⟨ret_bool (by have := unhide HWE; simpa using this), ((unhide HB).trans (unhide HK)).trans hk1⟩
              | true =>
                rw [hv] at HKD HWE
                go_wp2_with (go_at_call 147; refine (unhide HKD).mono ?_; rintro e w1 ⟨rfl, hk1⟩; have HK1 := hide hk1; clear hk1)
                go_roundw
                case rel =>
                  refine ⟨rest, k + 1, by go_num, by omega, by omega, by have := unhide HWE; simpa using this, (unhide HK).trans (unhide HK1), ?_⟩
                  rw [show off + (k + 1) * 4 = off + k * 4 + 4 by omega]
                  exact (unhide HR).keepF (unhide HK1)
                case measure => simp [intOf]; omega
      · rw [decide_eq_false hkk, Bool.false_and, Bool.false_and]
        generalize kidsB op = K at *
        have d1 : ((l.len : Int) != K) = true := by simpa using hkk
        have d0 : ¬ K < 0 := by omega
        clear hkk
        go_enter Tryz.func147, Tryz.ntmps147
        go_wp2_with (go_at_call 197; refine (unhide HKI).mono ?_; rintro e w1 ⟨rfl, rfl⟩)
        all_goals (go_ret; exact ⟨rfl, unhide HB⟩)
    · rw [decide_eq_false hk0, Bool.false_and, Bool.false_and]
      generalize kidsB op = K at *
      have d0 : K < 0 := by omega
      go_enter Tryz.func147, Tryz.ntmps147
      go_wp2_with (go_at_call 197; refine (unhide HKI).mono ?_; rintro e w1 ⟨rfl, rfl⟩)
      all_goals (go_ret; exact ⟨rfl, unhide HB⟩)
end Go.Proofs.YtiinohibmcefkaaGreatDoor
namespace Go.Proofs.YtiinohibmcefkaaGreatDoor
open Go.RowKit Go.Maps

set_option maxRecDepth 100000 in
set_option maxHeartbeats 1600000 in
theorem depthExpr_v (Z : Zone) (N : Nat) : ∀ (kids : EL), kids.size < N → kids.size ≤ 4294967294 → ∀ (op n : Int) (s : Txt) (w : World) (up : Nat) (v : Value), SlE Z w up v kids →
    Calls Tryz.prog 148 #[exV op n s v] w fun e w' => e = .returned (.int .i64 ((1 + depthE kids : Nat) : Int)) ∧ Keeps (fun _ => False) w w' := by
  induction N with
  | zero => intro l h; omega
  | succ N ih =>
    intro l hsz hlen' op n s w up v hS
    have hlen : l.len ≤ 4294967294 := by have := EL.len_le l; omega
    have hdl := depthE_le l
    obtain ⟨ao, cap, b, off, rfl, hcap, ha, hx⟩ := hS.open
    obtain ⟨HB, hxb, hxc⟩ := boxedT w #[.int .i64 op, .int .i64 n, str s, .slice ao l.len cap] 27
    have c3 := hxc 3 (.slice ao l.len cap) rfl
    have IH := hide ih
    have HX := hide hx
    have HA := hide ha
    clear hS ih hx ha hxc
    go_enter Tryz.func148, Tryz.ntmps148
    go_wp2_with fail
    go_loopw [3, 4] (fun d i wr => ∃ (rest : EL) (k m : Nat), d = .int .i64 m ∧ i = .int .i64 k ∧ k + rest.len = l.len ∧ rest.size ≤ l.size ∧ max m (depthE rest) = depthE l ∧ Keeps (fun _ => False) (w.alloc (.cells #[.int .i64 op, .int .i64 n, str s, .slice ao l.len cap] 27)) wr ∧ ExIn Z wr rest b (off + k * 4)) (fun _ i _ => l.len - (intOf i).toNat)
    case atStart => exact ⟨l, 0, 0, rfl, rfl, by omega, Nat.le_refl _, by omega, Keeps.refl _ _, by simpa using (unhide HX).keepF (unhide HB)⟩
    case round =>
      obtain ⟨rest, k, m, rfl, rfl, hkl, hrs, hwe, hkeep, hr⟩ := hrel
      have q3 := (hkeep.cell (o := 3) hxb id).trans c3
      have HK := hide hkeep
      clear hkeep
      cases rest with
      | nil =>
        simp only [EL.len, EL.size, depthE] at hkl hrs hwe
        clear hr
        have i1 : ¬ (k : Int) < (l.len : Int) := by omega
        go_wp2_with fail
        go_ret
        exact ⟨ret_int (by omega), (unhide HB).trans (unhide HK)⟩
      | cons op' n' s' kids rest =>
        obtain ⟨h1, h2, h3, h4, h5, ⟨kao, kcap, h6, h7, h8⟩, h9⟩ := hr
        simp only [EL.len, EL.size, depthE] at hkl hrs hwe
        obtain ⟨rfl, hp⟩ := (unhide HA) (by omega)
        have HKID : Hid (SlE Z wr b (.slice kao kids.len kcap) kids) := ⟨kao, kcap, rfl, h7, h8⟩
        have HR := hide h9
        have HWE := hide hwe
        have i1 : (k : Int) < (l.len : Int) := by omega
        have i0 : (0 : Int) ≤ (k : Int) := by omega
        have HKD := hide (unhide IH kids (by omega) (by omega) op' n' s' wr b (.slice kao kids.len kcap) (unhide HKID))
        have hdk := depthE_le kids
        generalize hD : 1 + depthE kids = D at HKD HWE
        clear h2 h8 h9 hwe
        by_cases hmd : (m : Int) < (D : Int)
        · go_wp2_with (go_at_call 148; refine (unhide HKD).mono ?_; rintro e w1 ⟨rfl, hk1⟩; have HK1 := hide hk1; clear hk1)
          go_roundw
          case rel =>
            refine ⟨rest, k + 1, D, rfl, by go_num, by omega, by omega, by have := unhide HWE; omega, (unhide HK).trans (unhide HK1), ?_⟩
            rw [show off + (k + 1) * 4 = off + k * 4 + 4 by omega]
            exact (unhide HR).keepF (unhide HK1)
          case measure => simp [intOf]; omega
        · go_wp2_with (go_at_call 148; refine (unhide HKD).mono ?_; rintro e w1 ⟨rfl, hk1⟩; have HK1 := hide hk1; clear hk1)
          go_roundw
          case rel =>
            refine ⟨rest, k + 1, m, rfl, by go_num, by omega, by omega, by have := unhide HWE; omega, (unhide HK).trans (unhide HK1), ?_⟩
            rw [show off + (k + 1) * 4 = off + k * 4 + 4 by omega]
            exact (unhide HR).keepF (unhide HK1)
          case measure => simp [intOf]; omega
end Go.Proofs.YtiinohibmcefkaaGreatDoor
namespace Go.Proofs.YtiinohibmcefkaaGreatDoor
open Go.RowKit Go.Maps

set_option maxRecDepth 100000 in
set_option maxHeartbeats 800000 in
theorem eqExpr_same (op n : Int) (s : Txt) (ka kb ca cb : Nat) (oa ob : Option Addr) (w : World)
    (hK : ∀ w', Keeps (fun _ => False) w w' → Calls Tryz.prog 56 #[.slice oa ka ca, .slice ob kb cb] w' fun e w'' => e = .returned (.bool true) ∧ Keeps (fun _ => False) w' w'') :
    Calls Tryz.prog 95 #[exV op n s (.slice oa ka ca), exV op n s (.slice ob kb cb)] w fun e w' => e = .returned (.bool true) ∧ Keeps (fun _ => False) w w' := by
  have HK := hide hK
  have HB : Hid (Keeps (fun _ => False) w ((w.alloc (.cells #[.int .i64 op, .int .i64 n, str s, .slice oa ka ca] 27)).alloc (.cells #[.int .i64 op, .int .i64 n, str s, .slice ob kb cb] 27))) := hide (((Keeps.refl _ w).alloc _).alloc _)
  clear hK
  go_enter Tryz.func95, Tryz.ntmps95
  go_wp2_with (go_at_call 56; refine (unhide HK _ (unhide HB)).mono ?_; rintro e w1 ⟨rfl, hk1⟩)
  go_ret
  exact ⟨rfl, (unhide HB).trans hk1⟩

set_option maxRecDepth 100000 in
set_option maxHeartbeats 1600000 in
theorem eqExprs_same (Z Y : Zone) (N : Nat) : ∀ (l : EL), l.size < N → l.size ≤ 4294967294 → ∀ (w : World) (ua ub : Nat) (va vb : Value), SlE Z w ua va l → SlE Y w ub vb l →
    Calls Tryz.prog 56 #[va, vb] w fun e w' => e = .returned (.bool true) ∧ Keeps (fun _ => False) w w' := by
  induction N with
  | zero => intro l h; omega
  | succ N ih =>
    intro l hsz hlen' w ua ub va vb hS hT
    have hlen : l.len ≤ 4294967294 := by have := EL.len_le l; omega
    obtain ⟨ao, ac, a, ai, rfl, hac, haa, hax⟩ := hS.open
    obtain ⟨bo, bc, b, bi, rfl, hbc, hba, hbx⟩ := hT.open
    have IH := hide ih
    have HX := hide hax
    have HY := hide hbx
    have HA := hide haa
    have HB := hide hba
    clear hS hT ih hax hbx haa hba
    go_enter Tryz.func56, Tryz.ntmps56
    go_wp2_with fail
    go_loopw [5] (fun i wr => ∃ (rest : EL) (k : Nat), i = .int .i64 k ∧ k + rest.len = l.len ∧ rest.size ≤ l.size ∧ Keeps (fun _ => False) w wr ∧ ExIn Z wr rest a (ai + k * 4) ∧ ExIn Y wr rest b (bi + k * 4)) (fun i _ => l.len - (intOf i).toNat)
    case atStart => exact ⟨l, 0, rfl, by omega, Nat.le_refl _, Keeps.refl _ _, by simpa using unhide HX, by simpa using unhide HY⟩
    case round =>
      obtain ⟨rest, k, rfl, hkl, hrs, hkeep, hr, hq⟩ := hrel
      have HK := hide hkeep
      clear hkeep
      cases rest with
      | nil =>
        simp only [EL.len, EL.size] at hkl hrs
        clear hr hq
        have i1 : ¬ (k : Int) < (l.len : Int) := by omega
        go_wp2_with fail
        go_ret
        exact ⟨rfl, unhide HK⟩
      | cons op n s kids rest =>
        obtain ⟨h1, h2, h3, h4, h5, ⟨kao, kac, h6, h7, h8⟩, h9⟩ := hr
        obtain ⟨g1, g2, g3, g4, g5, ⟨kbo, kbc, g6, g7, g8⟩, g9⟩ := hq
        simp only [EL.len, EL.size] at hkl hrs
        obtain ⟨rfl, hp⟩ := (unhide HA) (by omega)
        obtain ⟨rfl, hp'⟩ := (unhide HB) (by omega)
        have hka : SlE Z wr a (.slice kao kids.len kac) kids := ⟨kao, kac, rfl, h7, h8⟩
        have hkb : SlE Y wr b (.slice kbo kids.len kbc) kids := ⟨kbo, kbc, rfl, g7, g8⟩
        have HR := hide h9
        have HQ := hide g9
        have i1 : (k : Int) < (l.len : Int) := by omega
        have i0 : (0 : Int) ≤ (k : Int) := by omega
        have HE := hide (fun (m : KW wr) => kw_of m (eqExpr_same op n s kids.len kids.len kac kbc kao kbo m.wd (fun w' hk => unhide IH kids (by omega) (by omega) w' a b _ _ (hka.keepF (m.kept.trans hk)) (hkb.keepF (m.kept.trans hk)))))
        have f0 : ∀ m : KW wr, m.wd.cell? ⟨a, ai + k * 4, none⟩ = some (.int .i64 op) := fun m => (m.kept.cell h1 id).trans h3
        have f1 : ∀ m : KW wr, m.wd.cell? ⟨a, ai + k * 4 + 1, none⟩ = some (.int .i64 n) := fun m => (m.kept.cell h1 id).trans h4
        have f2 : ∀ m : KW wr, m.wd.cell? ⟨a, ai + k * 4 + 2, none⟩ = some (str s) := fun m => (m.kept.cell h1 id).trans h5
        have f3 : ∀ m : KW wr, m.wd.cell? ⟨a, ai + k * 4 + 3, none⟩ = some (.slice kao kids.len kac) := fun m => (m.kept.cell h1 id).trans h6
        have e0 : ∀ m : KW wr, m.wd.cell? ⟨b, bi + k * 4, none⟩ = some (.int .i64 op) := fun m => (m.kept.cell g1 id).trans g3
        have e1 : ∀ m : KW wr, m.wd.cell? ⟨b, bi + k * 4 + 1, none⟩ = some (.int .i64 n) := fun m => (m.kept.cell g1 id).trans g4
        have e2 : ∀ m : KW wr, m.wd.cell? ⟨b, bi + k * 4 + 2, none⟩ = some (str s) := fun m => (m.kept.cell g1 id).trans g5
        have e3 : ∀ m : KW wr, m.wd.cell? ⟨b, bi + k * 4 + 3, none⟩ = some (.slice kbo kids.len kbc) := fun m => (m.kept.cell g1 id).trans g6
        clear h2 h8 h9 g2 g8 g9 hka hkb
        go_wp2_with fail
        refine region_kept (by kernel_rfl) (by kernel_rfl) ?_
        repeat (go_big_quiet_step ((go_at_call 95; exact unhide HE _)))
        refine wpQuiet_nil ?_
        rintro _ ⟨nq, rfl⟩
        have HK1 := hide nq.kept
        go_wp2_with fail
        go_roundw
        case rel =>
          refine ⟨rest, k + 1, by go_num, by omega, by omega, (unhide HK).trans (unhide HK1), ?_, ?_⟩
          · rw [show ai + (k + 1) * 4 = ai + k * 4 + 4 by omega]
            exact (unhide HR).keepF (unhide HK1)
          · rw [show bi + (k + 1) * 4 = bi + k * 4 + 4 by omega]
            exact (unhide HQ).keepF (unhide HK1)
        case measure => simp [intOf]; omega

end Go.Proofs.YtiinohibmcefkaaGreatDoor
namespace Go.Proofs.YtiinohibmcefkaaGreatDoor
open Go.RowKit Go.Maps

theorem Tryz.info113 : (Tryz.prog.info? 113).map (fun i => (i.zero, i.size, i.bytes)) = some (some (kindV ⟨0, false⟩), 2, 16) := by kernel_rfl
/-- A list of kinds, made new. -/
theorem run_mkK (n : Nat) (hn : n ≤ 1000) (w : World) : ∃ c : Array Value, c.size = n * 2 ∧ (Instr.makeSlice 159 (.int .i64 (n : Int)) (.int .i64 (n : Int))).run Tryz.prog w = .ok (.slice (some ⟨w.heap.size, 0, none⟩) n n) (w.alloc (.cells c 113)) := by
  obtain ⟨i0, hi, hz0, hz1, hz2⟩ := info_parts Tryz.info113
  have q := run_make (P := Tryz.prog) w 159 113 i0 _ Tryz.underlying159 hi hz0 .i64 .i64 (n : Int) (n : Int) (by omega) (by omega) (by rw [hz2]; omega) (by omega)
  rw [hz1] at q
  have e : ((n : Int)).toNat = n := by omega
  rw [e] at q
  exact ⟨_, by rw [size_madeCells], q⟩
/-- This function value is that rule. -/
def RuleV (w : World) (j : Nat) (r : RuleA) (fv : Value) : Prop := match r with
  | .takes is ts => ∃ tb ib tv, fv = .func (.func 207) #[] #[.pointer (some ⟨tb, 0, none⟩), .pointer (some ⟨ib, 0, none⟩)] ∧ ib < w.heap.size ∧ tb < w.heap.size ∧ w.cell? ⟨ib, 0, none⟩ = some (.int .i64 is) ∧ w.cell? ⟨tb, 0, none⟩ = some tv ∧ IntsAt w tv ts
  | .compares ts => ∃ tb tv, fv = .func (.func 213) #[] #[.pointer (some ⟨tb, 0, none⟩)] ∧ tb < w.heap.size ∧ w.cell? ⟨tb, 0, none⟩ = some tv ∧ IntsAt w tv ts
  | .field => fv = .func (.func 176) #[.pointer (some ⟨j, 0, none⟩)] #[]
  | .has => fv = .func (.func 177) #[.pointer (some ⟨j, 0, none⟩)] #[]
  | .orElse => fv = .func (.func 179) #[] #[]
  | .pick => fv = .func (.func 180) #[] #[]
theorem RuleV.keepF {w w' : World} {j : Nat} {r : RuleA} {fv : Value} (h : RuleV w j r fv) (hk : Keeps (fun _ => False) w w') : RuleV w' j r fv := by
  cases r with
  | takes is ts =>
    obtain ⟨tb, ib, tv, e, h1, h2, h3, h4, h5⟩ := h
    exact ⟨tb, ib, tv, e, Nat.lt_of_lt_of_le h1 hk.size, Nat.lt_of_lt_of_le h2 hk.size, (hk.cell h1 id).trans h3, (hk.cell h2 id).trans h4, h5.keepF hk⟩
  | compares ts =>
    obtain ⟨tb, tv, e, h2, h4, h5⟩ := h
    exact ⟨tb, tv, e, Nat.lt_of_lt_of_le h2 hk.size, (hk.cell h2 id).trans h4, h5.keepF hk⟩
  | field => exact h
  | has => exact h
  | orElse => exact h
  | pick => exact h
/-- A judge over a schema. -/
structure JudgeAt (w : World) (j mb nn tab : Nat) (S : List FieldA) : Prop where
  map : MapAt w j mb nn S
  lt : tab < w.heap.size
  exprs : w.cell? ⟨j, 1, none⟩ = some (.slice (some ⟨tab, 0, none⟩) 26 26)
  rules : ∀ (m : Nat) (r : RuleA), (ruleL[m]?).join = some r → ∃ fv, w.cell? ⟨tab, m, none⟩ = some fv ∧ RuleV w j r fv
theorem JudgeAt.keepF {w w' : World} {j mb nn tab : Nat} {S : List FieldA} (h : JudgeAt w j mb nn tab S) (hk : Keeps (fun _ => False) w w') : JudgeAt w' j mb nn tab S :=
  ⟨h.map.keepF hk, Nat.lt_of_lt_of_le h.lt hk.size, (hk.cell h.map.lt id).trans h.exprs, fun m r hr => by
    obtain ⟨fv, h1, h2⟩ := h.rules m r hr
    exact ⟨fv, (hk.cell h.lt id).trans h1, h2.keepF hk⟩⟩
/-- The kinds of the kids, so far. -/
theorem kindsP_step (S : List FieldA) (op n : Int) (s : Txt) (kids rest : EL) (done : List KA) (all : List KA × Int)
    (h : all = if (kindsP S (.cons op n s kids rest)).2 ≠ 0 then ([], (kindsP S (.cons op n s kids rest)).2) else (done ++ (kindsP S (.cons op n s kids rest)).1, 0)) :
    ((kindP S op s kids).2 ≠ 0 → all = ([], (kindP S op s kids).2)) ∧ ((kindP S op s kids).2 = 0 → all = if (kindsP S rest).2 ≠ 0 then ([], (kindsP S rest).2) else (done ++ [(kindP S op s kids).1] ++ (kindsP S rest).1, 0)) := by
  rw [kindsP_cons] at h
  constructor
  · intro h0
    rw [if_pos h0] at h
    simpa [h0] using h
  · intro h0
    have e : ∀ A B : List KA × Int, (if (kindP S op s kids).2 ≠ 0 then A else B) = B := fun A B => if_neg (by simp [h0])
    simp only [e] at h
    by_cases h1 : (kindsP S rest).2 = 0
    · simp [h1] at h ⊢
      exact h
    · rw [if_pos h1]
      simpa [h1] using h
end Go.Proofs.YtiinohibmcefkaaGreatDoor
namespace Go.Proofs.YtiinohibmcefkaaGreatDoor
open Go.RowKit Go.Maps

/-- What the reference's rule asks of the kids, and its own type. -/
def wantL (op : Int) : List (Int × Bool) × Int :=
  if op = 7 then ([(2, false)], 2) else if op = 8 then ([(1, false)], 1) else if op = 9 ∨ op = 10 ∨ op = 11 ∨ op = 21 ∨ op = 22 then ([(1, false), (1, false)], 1)
  else if op = 12 ∨ op = 13 ∨ op = 14 ∨ op = 15 then ([(-1, false), (-2, false)], 2) else if op = 16 ∨ op = 17 then ([(0, false), (-2, false)], 2) else if op = 18 ∨ op = 19 then ([(2, false), (2, false)], 2)
  else if op = 20 then ([(0, true), (-2, false)], -2) else if op = 23 then ([(3, false)], 1) else if op = 24 then ([(3, false), (3, false)], 3) else ([(2, false), (0, false), (-3, false)], -3)
def askedB (w t : Int) (ks : List KA) : Bool := if w = 0 then true else if w = -1 then (decide (t = 1) || decide (t = 3)) else if w = -2 then decide (t = (kth ks 0).t) else if w = -3 then decide (t = (kth ks 1).t) else decide (t = w)
def wantsI (ks : List KA) : List KA → List (Int × Bool) → Int
  | k :: r, w :: ws => if askedB w.1 k.t ks = false then 91 else if w.2 ≠ k.o then 92 else wantsI ks r ws
  | _, _ => 0
def tyR (ty : Int) (ks : List KA) : Int := if ty = -2 then (kth ks 0).t else if ty = -3 then (kth ks 1).t else ty
def refRule (op : Int) (ks : List KA) : KA × Int := if wantsI ks ks (wantL op).1 ≠ 0 then (⟨0, false⟩, wantsI ks ks (wantL op).1) else (⟨tyR (wantL op).2 ks, false⟩, 0)
/-- No kind where there is an error. -/
def zeroK (p : KA × Int) : KA × Int := if p.2 ≠ 0 then (⟨0, false⟩, p.2) else p
def okT (t : Int) : Prop := t = 1 ∨ t = 2 ∨ t = 3
theorem okT_fin {t : Int} (h : okT t) : ∃ i : Fin 3, t = (i.val : Int) + 1 := by
  rcases h with h | h | h
  · exact ⟨0, by simp [h]⟩
  · exact ⟨1, by simp [h]⟩
  · exact ⟨2, by simp [h]⟩
def one1 (op : Int) : Prop := ∀ (a : Fin 3) (oa : Bool), refRule op [⟨(a.val : Int) + 1, oa⟩] = zeroK (ruleP [] op [] [⟨(a.val : Int) + 1, oa⟩])
def two2 (op : Int) : Prop := ∀ (a : Fin 3) (oa : Bool) (b : Fin 3) (ob : Bool), refRule op [⟨(a.val : Int) + 1, oa⟩, ⟨(b.val : Int) + 1, ob⟩] = zeroK (ruleP [] op [] [⟨(a.val : Int) + 1, oa⟩, ⟨(b.val : Int) + 1, ob⟩])
def three3 (op : Int) : Prop := ∀ (a : Fin 3) (oa : Bool) (b : Fin 3) (ob : Bool) (c : Fin 3) (oc : Bool), refRule op [⟨(a.val : Int) + 1, oa⟩, ⟨(b.val : Int) + 1, ob⟩, ⟨(c.val : Int) + 1, oc⟩] = zeroK (ruleP [] op [] [⟨(a.val : Int) + 1, oa⟩, ⟨(b.val : Int) + 1, ob⟩, ⟨(c.val : Int) + 1, oc⟩])
instance (op : Int) : Decidable (one1 op) := by unfold one1; infer_instance
instance (op : Int) : Decidable (two2 op) := by unfold two2; infer_instance
instance (op : Int) : Decidable (three3 op) := by unfold three3; infer_instance
set_option maxRecDepth 100000 in
theorem ones : one1 7 ∧ one1 8 ∧ one1 23 := by decide
set_option maxRecDepth 100000 in
theorem twos : ∀ i : Fin 16, i.val ≠ 14 → two2 ((i.val : Int) + 9) := by decide
set_option maxRecDepth 100000 in
theorem threes : three3 25 := by decide
def RuleA.named : RuleA → Bool
  | .field => true
  | .has => true
  | _ => false
theorem rule_nofield (S : List FieldA) (op : Int) (s : Txt) (ks : List KA) (h1 : 7 ≤ op) (h2 : op ≤ 25) : ruleP S op s ks = ruleP [] op [] ks := by
  obtain ⟨m, rfl⟩ := Int.eq_ofNat_of_zero_le (show 0 ≤ op by omega)
  have h : ∀ i : Fin 26, 7 ≤ i.val → ((ruleL[i.val]?).join).map RuleA.named = some false := by decide
  have := h ⟨m, by omega⟩ (by show 7 ≤ m; omega)
  unfold ruleP
  simp only [Int.toNat_natCast]
  cases hr : (ruleL[m]?).join with
  | none => rfl
  | some r =>
    simp only [hr] at this
    cases r with
    | field => cases this
    | has => cases this
    | takes => rfl
    | compares => rfl
    | orElse => rfl
    | pick => rfl
theorem ref_rule (S : List FieldA) (op : Int) (s : Txt) (ks : List KA) (h1 : 7 ≤ op) (h2 : op ≤ 25) (hk : (ks.length : Int) = kidsB op) (hT : ∀ k ∈ ks, okT k.t) : refRule op ks = zeroK (ruleP S op s ks) := by
  rw [rule_nofield S op s ks h1 h2]
  unfold kidsB at hk
  rw [if_neg (by omega)] at hk
  by_cases hA : op = 7 ∨ op = 8 ∨ op = 23
  · rw [if_pos hA] at hk
    match ks, hk with
    | [a], _ =>
      obtain ⟨i, hi⟩ := okT_fin (hT a (by simp))
      obtain ⟨t, o⟩ := a
      subst hi
      rcases hA with rfl | rfl | rfl
      · exact ones.1 i o
      · exact ones.2.1 i o
      · exact ones.2.2 i o
    | [], hk => exact absurd hk (by simp)
    | _ :: _ :: _, hk => exact absurd hk (by simp; omega)
  rw [if_neg hA] at hk
  by_cases hB : op = 25
  · subst hB
    rw [if_neg (by omega), if_pos rfl] at hk
    match ks, hk with
    | [a, b, c], _ =>
      obtain ⟨i, hi⟩ := okT_fin (hT a (by simp))
      obtain ⟨j, hj⟩ := okT_fin (hT b (by simp))
      obtain ⟨k, hk⟩ := okT_fin (hT c (by simp))
      obtain ⟨t, o⟩ := a
      obtain ⟨t', o'⟩ := b
      obtain ⟨t'', o''⟩ := c
      subst hi hj hk
      exact threes i o j o' k o''
    | [], hk => exact absurd hk (by simp)
    | [_], hk => exact absurd hk (by simp)
    | [_, _], hk => exact absurd hk (by simp)
    | _ :: _ :: _ :: _ :: _, hk => exact absurd hk (by simp; omega)
  · rw [if_pos (by omega)] at hk
    match ks, hk with
    | [a, b], _ =>
      obtain ⟨i, hi⟩ := okT_fin (hT a (by simp))
      obtain ⟨j, hj⟩ := okT_fin (hT b (by simp))
      obtain ⟨t, o⟩ := a
      obtain ⟨t', o'⟩ := b
      subst hi hj
      obtain ⟨m, rfl⟩ := Int.eq_ofNat_of_zero_le (show 0 ≤ op by omega)
      have := twos ⟨m - 9, by omega⟩ (by show m - 9 ≠ 14; omega) i o j o'
      rw [show ((m - 9 : Nat) : Int) + 9 = (m : Int) by omega] at this
      exact this
    | [], hk => exact absurd hk (by simp)
    | [_], hk => exact absurd hk (by simp)
    | _ :: _ :: _ :: _, hk => exact absurd hk (by simp; omega)
/-- The kinds of what fits have types. -/
theorem wide_okT {t : Int} (h : 0 ≤ wideB t) : okT t := by
  unfold wideB at h
  unfold okT
  repeat' split at h
  all_goals omega
theorem field_okT {S : List FieldA} (h : schemaB S = true) {s : Txt} {f : FieldA} (hf : fieldOf S s = some f) : okT f.type := by
  have hm := List.mem_of_find?_eq_some hf
  have h3 : S.all fieldOK = true := by
    unfold schemaB at h
    simp only [Bool.and_eq_true] at h
    exact h.1.1.2
  have := List.all_eq_true.1 h3 f hm
  unfold fieldOK at this
  simp only [Bool.and_eq_true, decide_eq_true_eq] at this
  exact wide_okT this.2
end Go.Proofs.YtiinohibmcefkaaGreatDoor
namespace Go.Proofs.YtiinohibmcefkaaGreatDoor
open Go.RowKit Go.Maps

theorem name_short {s : Txt} (h : nameB s = true) : s.length ≤ 8 := by
  unfold nameB at h
  simp only [Bool.and_eq_true, decide_eq_true_eq] at h
  exact h.1.1.1.2
theorem kidsB_range (op : Int) (h : 0 ≤ kidsB op) : ∃ m : Nat, op = m ∧ 1 ≤ m ∧ m ≤ 25 ∧ kidsB op ≤ 3 := by
  have h3 : kidsB op ≤ 3 := by
    unfold kidsB
    repeat' split
    all_goals omega
  unfold kidsB at h
  have h25 : 1 ≤ op ∧ op ≤ 25 := by
    repeat' split at h
    all_goals omega
  exact ⟨op.toNat, by omega, by omega, by omega, h3⟩
theorem kindsP_err (S : List FieldA) : ∀ l : EL, (kindsP S l).2 ≠ 0 → kindsP S l = ([], (kindsP S l).2)
  | .nil, h => absurd rfl h
  | .cons op n s kids rest, h => by
    rw [kindsP_cons] at h ⊢
    by_cases h1 : (kindP S op s kids).2 = 0
    · by_cases h2 : (kindsP S rest).2 = 0
      · simp [h1, h2] at h
      · simp [h1, h2]
    · simp [h1]
theorem root_open {op n : Int} {s : Txt} {k : Nat} (h : rootB op n s k = true) : ∃ (m : Nat) (r : RuleA), op = m ∧ m ≤ 25 ∧ (ruleL[m]?).join = some r ∧ r.kids = k ∧ k ≤ 3 ∧ (r.named = true → s.length ≤ 8) := by
  unfold rootB at h
  simp only [Bool.and_eq_true, decide_eq_true_eq] at h
  obtain ⟨h1, h2, h3⟩ := h
  obtain ⟨m, rfl, hm1, hm2, hm3⟩ := kidsB_range op h1
  obtain ⟨r, hr, hk⟩ := ruleL_kids m hm1 hm2
  refine ⟨m, r, rfl, hm2, hr, by omega, by omega, fun hn => ?_⟩
  have hq : ∀ i : Fin 26, ((ruleL[i.val]?).join).map RuleA.named = some true → i.val = 4 ∨ i.val = 5 := by decide
  have h45 := hq ⟨m, by omega⟩ (by show ((ruleL[m]?).join).map RuleA.named = some true; rw [hr]; exact congrArg some hn)
  have h45' : (m : Int) = 4 ∨ (m : Int) = 5 := by
    rcases h45 with h | h
    · exact Or.inl (by have : m = 4 := h; omega)
    · exact Or.inr (by have : m = 5 := h; omega)
  unfold leafB at h3
  rw [if_neg (by omega), if_neg (by omega), if_neg (by omega), if_pos h45'] at h3
  simp only [Bool.and_eq_true, decide_eq_true_eq] at h3
  exact name_short h3.2
/-- One kind more in its place. -/
theorem ks_step {w1 : World} {b : Nat} {c : Array Value} {k n : Nat} {done : List KA} (T : Int) (O : Bool) (hb : w1.heap[b]? = some (.cells c 113 (0, 0))) (hc : c.size = n * 2) (hk : k < n) (hl : done.length = k)
    (hd : ∀ (i : Nat) (f : KA), done[i]? = some f → c[i * 2]? = some (.int .i64 f.t) ∧ c[i * 2 + 1]? = some (.bool f.o)) :
    ∃ c2 : Array Value, ((w1.setCell ⟨b, k * 2, none⟩ (.int .i64 T)).setCell ⟨b, k * 2 + 1, none⟩ (.bool O)).heap[b]? = some (.cells c2 113 (0, 0)) ∧ c2.size = n * 2 ∧ ∀ (i : Nat) (f : KA), (done ++ [⟨T, O⟩])[i]? = some f → c2[i * 2]? = some (.int .i64 f.t) ∧ c2[i * 2 + 1]? = some (.bool f.o) := by
  refine ⟨_, heap_setCell_at (heap_setCell_at hb _) _, by simp [hc], fun i f hf => ?_⟩
  rw [List.getElem?_append] at hf
  split at hf
  · rename_i hi
    obtain ⟨h1, h2⟩ := hd i f hf
    exact ⟨by rw [Array.getElem?_setIfInBounds_ne (by omega), Array.getElem?_setIfInBounds_ne (by omega)]; exact h1, by rw [Array.getElem?_setIfInBounds_ne (by omega), Array.getElem?_setIfInBounds_ne (by omega)]; exact h2⟩
  · rename_i hi
    have hik : i = k := by
      have := (List.getElem?_eq_some_iff.1 hf).1
      simp at this
      omega
    subst hik
    rw [hl, Nat.sub_self] at hf
    simp at hf
    subst hf
    exact ⟨by simp [hc, show i * 2 < n * 2 by omega], by simp [hc, show i * 2 + 1 < n * 2 by omega]⟩
theorem ks_all {w1 : World} {b : Nat} {c : Array Value} {n : Nat} {ks : List KA} (hb : w1.heap[b]? = some (.cells c 113 (0, 0))) (hl : ks.length = n)
    (hd : ∀ (i : Nat) (f : KA), ks[i]? = some f → c[i * 2]? = some (.int .i64 f.t) ∧ c[i * 2 + 1]? = some (.bool f.o)) : KsAt w1 (.slice (some ⟨b, 0, none⟩) n n) ks := by
  subst hl
  refine ⟨⟨_, _, rfl⟩, fun _ => ⟨b, 0, _, rfl, lt_of_block hb, fun j x hx => ?_⟩, fun ao m cap e => by simp at e; omega⟩
  rw [cell_of_blk hb, Nat.zero_add]
  have hj := (List.getElem?_eq_some_iff.1 hx).1
  rw [kcs_length] at hj
  obtain ⟨f, hf⟩ : ∃ f, ks[j / 2]? = some f := ⟨_, List.getElem?_eq_getElem (by omega)⟩
  obtain ⟨h1, h2⟩ := hd _ _ hf
  rcases Nat.mod_two_eq_zero_or_one j with h | h
  · have e : j = j / 2 * 2 := by omega
    rw [e] at hx ⊢
    have := kcs_get ks (j / 2) f 0 hf (by omega)
    rw [Nat.add_zero, hx] at this
    rw [h1, this]; rfl
  · have e : j = j / 2 * 2 + 1 := by omega
    rw [e] at hx ⊢
    have := kcs_get ks (j / 2) f 1 hf (by omega)
    rw [hx] at this
    rw [h2, this]; rfl
theorem list2 {ks : List KA} (h : ks.length = 2) : ∃ a b, ks = [a, b] := by
  match ks, h with
  | [a, b], _ => exact ⟨a, b, rfl⟩
theorem list3 {ks : List KA} (h : ks.length = 3) : ∃ a b c, ks = [a, b, c] := by
  match ks, h with
  | [a, b, c], _ => exact ⟨a, b, c, rfl⟩
theorem ruleP_fit {S : List FieldA} {m : Nat} {r : RuleA} {s : Txt} {ks : List KA} (h : (ruleL[m]?).join = some r) : ruleP S (m : Int) s ks = r.fit S s ks := by
  unfold ruleP
  rw [Int.toNat_natCast, h]

end Go.Proofs.YtiinohibmcefkaaGreatDoor
namespace Go.Proofs.YtiinohibmcefkaaGreatDoor
open Go.RowKit Go.Maps

def RuleA.isOK : RuleA → Bool
  | .takes is _ => decide (is = 1) || (decide (is = 2) || decide (is = 3))
  | _ => true
theorem rule_is {m : Nat} {r : RuleA} (hr : (ruleL[m]?).join = some r) : r.isOK = true := by
  have h : ∀ i : Fin 26, (match ((ruleL[i.val]?).join).map RuleA.isOK with | some x => x | none => true) = true := by decide
  by_cases hm : m < 26
  · have := h ⟨m, hm⟩
    simp only [hr, Option.map_some] at this
    exact this
  · have : ruleL[m]? = none := List.getElem?_eq_none (by show 26 ≤ m; omega)
    rw [this] at hr
    cases hr
theorem kth_mem {ks : List KA} {i : Nat} (h : i < ks.length) : kth ks i ∈ ks := by
  have e : kth ks i = ks[i] := by simp [kth, List.getD, List.getElem?_eq_getElem h]
  rw [e]
  exact List.getElem_mem h
theorem rule_okT {S : List FieldA} (hS : schemaB S = true) {op n : Int} {s : Txt} {ks : List KA} (hr : rootB op n s ks.length = true) (hk : ∀ k ∈ ks, okT k.t) (h0 : (ruleP S op s ks).2 = 0) : okT (ruleP S op s ks).1.t := by
  obtain ⟨m, r, rfl, _, hrl, hkids, _, _⟩ := root_open hr
  have his := rule_is hrl
  rw [ruleP_fit hrl] at h0 ⊢
  cases r with
  | takes is ts =>
    simp only [RuleA.fit, takesK] at h0 ⊢
    by_cases h : takesI ks ts = 0
    · rw [if_pos h]
      simp only [RuleA.isOK, Bool.or_eq_true, decide_eq_true_eq] at his
      exact his
    · rw [if_neg h] at h0
      exact absurd h0 h
  | field =>
    simp only [RuleA.fit, namedK] at h0 ⊢
    cases hf : fieldOf S s with
    | none => rw [hf] at h0; exact absurd h0 (by decide)
    | some f => exact field_okT hS hf
  | has => exact Or.inr (Or.inl rfl)
  | compares ts => exact Or.inr (Or.inl rfl)
  | orElse =>
    have : 2 = ks.length := hkids
    exact hk (kth ks 0) (kth_mem (by omega))
  | pick =>
    have : 3 = ks.length := hkids
    exact hk (kth ks 1) (kth_mem (by omega))
theorem kinds_okT {S : List FieldA} (hS : schemaB S = true) : ∀ l : EL, wellE l = true → (kindsP S l).2 = 0 → ∀ k ∈ (kindsP S l).1, okT k.t
  | .nil, _, _, k, hk => by simp [kindsP] at hk
  | .cons op n s kids rest, hw, h0, k, hk => by
    have ih1 := kinds_okT hS kids
    have ih2 := kinds_okT hS rest
    simp only [wellE, Bool.and_eq_true] at hw
    obtain ⟨hr, hwk, hwr⟩ := hw
    rw [kindsP_cons] at h0 hk
    by_cases h1 : (kindP S op s kids).2 = 0
    · by_cases h2 : (kindsP S rest).2 = 0
      · simp [h1, h2] at hk
        rcases hk with rfl | hk
        · unfold kindP at h1 ⊢
          by_cases h3 : (kindsP S kids).2 = 0
          · simp only [h3, ne_eq, not_true_eq_false, if_false] at h1 ⊢
            exact rule_okT hS (n := n) (by rw [kindsP_len S kids h3]; exact hr) (ih1 hwk h3) h1
          · rw [if_pos h3] at h1
            exact absurd h1 h3
        · exact ih2 hwr h2 k hk
      · simp [h1, h2] at h0
    · simp [h1] at h0
theorem wantL_len : ∀ m : Nat, 7 ≤ m → m ≤ 25 → ((wantL m).1.length : Int) = kidsB m := by
  have h : ∀ i : Fin 26, 7 ≤ i.val → ((wantL i.val).1.length : Int) = kidsB i.val := by decide
  intro m h1 h2
  exact h ⟨m, by omega⟩ h1
/-- What a rule asks of the kids is there. -/
def wantFits (ws : List (Int × Bool)) (n : Nat) : Bool := ws.all fun p => (decide (p.1 ≠ -2) || decide (0 < n)) && (decide (p.1 ≠ -3) || decide (1 < n))
theorem wantL_fits : ∀ m : Nat, 7 ≤ m → m ≤ 25 → wantFits (wantL m).1 (wantL m).1.length = true ∧ ((wantL m).2 = -2 → 0 < (wantL m).1.length) ∧ ((wantL m).2 = -3 → 1 < (wantL m).1.length) := by
  have h : ∀ i : Fin 26, 7 ≤ i.val → wantFits (wantL i.val).1 (wantL i.val).1.length = true ∧ ((wantL i.val).2 = -2 → 0 < (wantL i.val).1.length) ∧ ((wantL i.val).2 = -3 → 1 < (wantL i.val).1.length) := by decide
  intro m h1 h2
  exact h ⟨m, by omega⟩ h1
theorem wantsI_step {all ks : List KA} {ws : List (Int × Bool)} {j : Nat} {k : KA} {p : Int × Bool} (hk : ks[j]? = some k) (ht : ws[j]? = some p) : wantsI all (ks.drop j) (ws.drop j) = if askedB p.1 k.t all = false then 91 else if p.2 ≠ k.o then 92 else wantsI all (ks.drop (j + 1)) (ws.drop (j + 1)) := by
  obtain ⟨h1, e1⟩ := List.getElem?_eq_some_iff.1 hk
  obtain ⟨h2, e2⟩ := List.getElem?_eq_some_iff.1 ht
  rw [List.drop_eq_getElem_cons h1, List.drop_eq_getElem_cons h2, e1, e2]
  rfl
end Go.Proofs.YtiinohibmcefkaaGreatDoor
namespace Go.Proofs.YtiinohibmcefkaaGreatDoor
open Go.RowKit Go.Maps

/-- The number of a field. -/
def idxF (S : List FieldA) (nm : Txt) : Option Nat := S.findIdx? fun f => decide (f.name = nm)
end Go.Proofs.YtiinohibmcefkaaGreatDoor
namespace Go.Proofs.YtiinohibmcefkaaGreatDoor
open Go.RowKit Go.Maps

/-- A row as the closures take it. -/
def Rw (S : List FieldA) (h : Bool) (vals : List ValA) : Prop := (h = true → vals.length = S.length) ∧ ∀ v ∈ vals, v.s.length ≤ 20
/-- Where a field stands in the records. -/
def placeP (S : List FieldA) (nm : Txt) : Nat := (idxF S nm).getD 0
/-- What a field is worth on a row. -/
def fieldV (S : List FieldA) (h : Bool) (vals : List ValA) (nm : Txt) : ValA := ((if h then vals else zeros S)[placeP S nm]?).getD zV
def kV (ks : List ValA) (i : Nat) : ValA := ks.getD i zV
/-- An operation on the values of its kids. -/
def opV (op : Int) (ks : List ValA) : ValA :=
  if op = 7 then truV (decide ((kV ks 0).n = 0)) else if op = 8 then numV (wrap64 (-(kV ks 0).n))
  else if op = 9 then numV (wrap64 ((kV ks 0).n + (kV ks 1).n)) else if op = 10 then numV (wrap64 ((kV ks 0).n - (kV ks 1).n)) else if op = 11 then numV (wrap64 ((kV ks 0).n * (kV ks 1).n))
  else if op = 12 then truV (decide (ordV (kV ks 0) (kV ks 1) < 0)) else if op = 13 then truV (decide (ordV (kV ks 0) (kV ks 1) ≤ 0))
  else if op = 14 then truV (decide (0 < ordV (kV ks 0) (kV ks 1))) else if op = 15 then truV (decide (0 ≤ ordV (kV ks 0) (kV ks 1)))
  else if op = 16 then truV (decide (kV ks 0 = kV ks 1)) else if op = 17 then truV (!decide (kV ks 0 = kV ks 1))
  else if op = 18 then truV (decide ((kV ks 0).n = 1) && decide ((kV ks 1).n = 1)) else if op = 19 then truV (decide ((kV ks 0).n = 1) || decide ((kV ks 1).n = 1))
  else if op = 20 then (if (kV ks 0).kind = 0 then kV ks 1 else kV ks 0)
  else if op = 21 then numV (min (kV ks 0).n (kV ks 1).n) else if op = 22 then numV (max (kV ks 0).n (kV ks 1).n)
  else if op = 23 then numV ((kV ks 0).s.length : Int) else if op = 24 then bytV (catT (kV ks 0).s (kV ks 1).s)
  else if (kV ks 0).n = 1 then kV ks 1 else kV ks 2
def leafV (S : List FieldA) (h : Bool) (vals : List ValA) (op n : Int) (s : Txt) : ValA :=
  if op = 1 then numV n else if op = 2 then truV (decide (n = 1)) else if op = 3 then bytV s else if op = 4 then fieldV S h vals s
  else if op = 5 then truV (!decide ((fieldV S h vals s).kind = 0)) else truV h
/-- The values of expressions on a row. -/
def valsP (S : List FieldA) (h : Bool) (vals : List ValA) : EL → List ValA
  | .nil => []
  | .cons op n s kids rest => (if op ≤ 6 then leafV S h vals op n s else opV op (valsP S h vals kids)) :: valsP S h vals rest
def nodeV (S : List FieldA) (op n : Int) (s : Txt) (kids : EL) (h : Bool) (vals : List ValA) : ValA := if op ≤ 6 then leafV S h vals op n s else opV op (valsP S h vals kids)
theorem valsP_cons (S : List FieldA) (h : Bool) (vals : List ValA) (op n : Int) (s : Txt) (kids rest : EL) : valsP S h vals (.cons op n s kids rest) = nodeV S op n s kids h vals :: valsP S h vals rest := rfl
theorem valsP_len (S : List FieldA) (h : Bool) (vals : List ValA) : ∀ l : EL, (valsP S h vals l).length = l.len
  | .nil => rfl
  | .cons op n s kids rest => by rw [valsP_cons, List.length_cons, valsP_len S h vals rest]; rfl
theorem idxF_lt {S : List FieldA} {nm : Txt} {i : Nat} (h : idxF S nm = some i) : i < S.length := by
  unfold idxF at h
  have := List.findIdx?_eq_some_iff_getElem.1 h
  exact this.1
theorem placeP_lt {S : List FieldA} (nm : Txt) (h : 0 < S.length) : placeP S nm < S.length := by
  unfold placeP
  cases hi : idxF S nm with
  | none => simpa using h
  | some i => exact idxF_lt hi
theorem zeros_short {S : List FieldA} : ∀ v ∈ zeros S, v.s.length ≤ 20 := by
  intro v hv
  obtain ⟨f, _, rfl⟩ := List.mem_map.1 hv
  unfold zeroV
  split <;> simp
theorem get_short {l : List ValA} (h : ∀ v ∈ l, v.s.length ≤ 20) (i : Nat) : ((l[i]?).getD zV).s.length ≤ 20 := by
  cases hi : l[i]? with
  | none => simp [zV]
  | some v => exact h v (List.mem_of_getElem? hi)
theorem kV_short {l : List ValA} (h : ∀ v ∈ l, v.s.length ≤ 20) (i : Nat) : (kV l i).s.length ≤ 20 := by
  unfold kV
  rw [List.getD_eq_getElem?_getD]
  exact get_short h i
theorem fieldV_short {S : List FieldA} {h : Bool} {vals : List ValA} (hr : Rw S h vals) (nm : Txt) : (fieldV S h vals nm).s.length ≤ 20 := by
  unfold fieldV
  cases h with
  | true => exact get_short hr.2 _
  | false => exact get_short zeros_short _
theorem tru_short (b : Bool) : (truV b).s.length ≤ 20 := by simp [truV]
theorem num_short (n : Int) : (numV n).s.length ≤ 20 := by simp [numV]
theorem byt_short {s : Txt} (h : s.length ≤ 20) : (bytV s).s.length ≤ 20 := h
theorem ite_short {c : Prop} [Decidable c] {a b : ValA} (ha : c → a.s.length ≤ 20) (hb : ¬ c → b.s.length ≤ 20) : (if c then a else b).s.length ≤ 20 := by
  split
  · exact ha ‹_›
  · exact hb ‹_›
theorem opV_short (op : Int) {ks : List ValA} (h : ∀ v ∈ ks, v.s.length ≤ 20) : (opV op ks).s.length ≤ 20 := by
  have k0 := kV_short h 0
  have k1 := kV_short h 1
  have k2 := kV_short h 2
  unfold opV
  repeat' first | exact tru_short _ | exact num_short _ | exact byt_short (cat_len _ _) | exact k0 | exact k1 | exact k2 | (refine ite_short (fun _ => ?_) (fun _ => ?_))
theorem leafV_short {S : List FieldA} {h : Bool} {vals : List ValA} (hr : Rw S h vals) (op n : Int) {s : Txt} (hs : op = 3 → s.length ≤ 20) : (leafV S h vals op n s).s.length ≤ 20 := by
  unfold leafV
  repeat' first | exact tru_short _ | exact num_short _ | exact byt_short (hs ‹_›) | exact fieldV_short hr _ | (refine ite_short (fun _ => ?_) (fun _ => ?_))
theorem root_text {op n : Int} {s : Txt} {k : Nat} (h : rootB op n s k = true) : op = 3 → s.length ≤ 20 := by
  rintro rfl
  unfold rootB at h
  simp only [Bool.and_eq_true] at h
  have := h.2.2
  unfold leafB at this
  simp only [show ¬ (3 : Int) = 1 by decide, show ¬ (3 : Int) = 2 by decide, if_false, if_true, Bool.and_eq_true, decide_eq_true_eq] at this
  exact this.2
theorem valsP_short {S : List FieldA} {h : Bool} {vals : List ValA} (hr : Rw S h vals) : ∀ l : EL, wellE l = true → ∀ v ∈ valsP S h vals l, v.s.length ≤ 20
  | .nil, _ => by intro v hv; simp [valsP] at hv
  | .cons op n s kids rest, hw => by
    simp only [wellE, Bool.and_eq_true] at hw
    intro v hv
    rw [valsP_cons] at hv
    rcases List.mem_cons.1 hv with rfl | hv
    · unfold nodeV
      split
      · exact leafV_short hr _ _ (root_text hw.1)
      · exact opV_short _ (valsP_short hr kids hw.2.1)
    · exact valsP_short hr rest hw.2.2 v hv
theorem gone_rw (S : List FieldA) : Rw S false [] := ⟨by simp, by simp⟩
end Go.Proofs.YtiinohibmcefkaaGreatDoor
