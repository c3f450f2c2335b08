import Derived.Test.YtjhppnecadnekaaDoorKl
import Derived.Test.YtjhppnecadnekaaDoorJo
namespace Go.Proofs.YtjhppnecadnekaaDoor
open Go.RowKit Go.Maps

def RuleA.isOK : RuleA → Bool
  | .takes is _ => decide (is = 1) || (decide (is = 2) || decide (is = 3))
  | _ => true
theorem rule_is {m : Nat} {r : RuleA} (hr : (ruleL[m]?).join = some r) : r.isOK = true := by
  have h : ∀ i : Fin 26, (match ((ruleL[i.val]?).join).map RuleA.isOK with | some x => x | none => true) = true := by decide
  by_cases hm : m < 26
  · have := h ⟨m, hm⟩
    simp only [hr, Option.map_some] at this
    exact this
  · have : ruleL[m]? = none := List.getElem?_eq_none (by show 26 ≤ m; omega)
    rw [this] at hr
    cases hr
theorem kth_mem {ks : List KA} {i : Nat} (h : i < ks.length) : kth ks i ∈ ks := by
  have e : kth ks i = ks[i] := by simp [kth, List.getD, List.getElem?_eq_getElem h]
  rw [e]
  exact List.getElem_mem h
theorem rule_okT {S : List FieldA} (hS : schemaB S = true) {op n : Int} {s : Txt} {ks : List KA} (hr : rootB op n s ks.length = true) (hk : ∀ k ∈ ks, okT k.t) (h0 : (ruleP S op s ks).2 = 0) : okT (ruleP S op s ks).1.t := by
  obtain ⟨m, r, rfl, _, hrl, hkids, _, _⟩ := root_open hr
  have his := rule_is hrl
  rw [ruleP_fit hrl] at h0 ⊢
  cases r with
  | takes is ts =>
    simp only [RuleA.fit, takesK] at h0 ⊢
    by_cases h : takesI ks ts = 0
    · rw [if_pos h]
      simp only [RuleA.isOK, Bool.or_eq_true, decide_eq_true_eq] at his
      exact his
    · rw [if_neg h] at h0
      exact absurd h0 h
  | field =>
    simp only [RuleA.fit, namedK] at h0 ⊢
    cases hf : fieldOf S s with
    | none => rw [hf] at h0; exact absurd h0 (by decide)
    | some f => exact field_okT hS hf
  | has => exact Or.inr (Or.inl rfl)
  | compares ts => exact Or.inr (Or.inl rfl)
  | orElse =>
    have : 2 = ks.length := hkids
    exact hk (kth ks 0) (kth_mem (by omega))
  | pick =>
    have : 3 = ks.length := hkids
    exact hk (kth ks 1) (kth_mem (by omega))
theorem kinds_okT {S : List FieldA} (hS : schemaB S = true) : ∀ l : EL, wellE l = true → (kindsP S l).2 = 0 → ∀ k ∈ (kindsP S l).1, okT k.t
  | .nil, _, _, k, hk => by simp [kindsP] at hk
  | .cons op n s kids rest, hw, h0, k, hk => by
    have ih1 := kinds_okT hS kids
    have ih2 := kinds_okT hS rest
    simp only [wellE, Bool.and_eq_true] at hw
    obtain ⟨hr, hwk, hwr⟩ := hw
    rw [kindsP_cons] at h0 hk
    by_cases h1 : (kindP S op s kids).2 = 0
    · by_cases h2 : (kindsP S rest).2 = 0
      · simp [h1, h2] at hk
        rcases hk with rfl | hk
        · unfold kindP at h1 ⊢
          by_cases h3 : (kindsP S kids).2 = 0
          · simp only [h3, ne_eq, not_true_eq_false, if_false] at h1 ⊢
            exact rule_okT hS (n := n) (by rw [kindsP_len S kids h3]; exact hr) (ih1 hwk h3) h1
          · rw [if_pos h3] at h1
            exact absurd h1 h3
        · exact ih2 hwr h2 k hk
      · simp [h1, h2] at h0
    · simp [h1] at h0
theorem wantL_len : ∀ m : Nat, 7 ≤ m → m ≤ 25 → ((wantL m).1.length : Int) = kidsB m := by
  have h : ∀ i : Fin 26, 7 ≤ i.val → ((wantL i.val).1.length : Int) = kidsB i.val := by decide
  intro m h1 h2
  exact h ⟨m, by omega⟩ h1
/-- What a rule asks of the kids is there. -/
def wantFits (ws : List (Int × Bool)) (n : Nat) : Bool := ws.all fun p => (decide (p.1 ≠ -2) || decide (0 < n)) && (decide (p.1 ≠ -3) || decide (1 < n))
theorem wantL_fits : ∀ m : Nat, 7 ≤ m → m ≤ 25 → wantFits (wantL m).1 (wantL m).1.length = true ∧ ((wantL m).2 = -2 → 0 < (wantL m).1.length) ∧ ((wantL m).2 = -3 → 1 < (wantL m).1.length) := by
  have h : ∀ i : Fin 26, 7 ≤ i.val → wantFits (wantL i.val).1 (wantL i.val).1.length = true ∧ ((wantL i.val).2 = -2 → 0 < (wantL i.val).1.length) ∧ ((wantL i.val).2 = -3 → 1 < (wantL i.val).1.length) := by decide
  intro m h1 h2
  exact h ⟨m, by omega⟩ h1
theorem wantsI_step {all ks : List KA} {ws : List (Int × Bool)} {j : Nat} {k : KA} {p : Int × Bool} (hk : ks[j]? = some k) (ht : ws[j]? = some p) : wantsI all (ks.drop j) (ws.drop j) = if askedB p.1 k.t all = false then 91 else if p.2 ≠ k.o then 92 else wantsI all (ks.drop (j + 1)) (ws.drop (j + 1)) := by
  obtain ⟨h1, e1⟩ := List.getElem?_eq_some_iff.1 hk
  obtain ⟨h2, e2⟩ := List.getElem?_eq_some_iff.1 ht
  rw [List.drop_eq_getElem_cons h1, List.drop_eq_getElem_cons h2, e1, e2]
  rfl
end Go.Proofs.YtjhppnecadnekaaDoor
