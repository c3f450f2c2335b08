import Derived.Test.YtljoacpaehmbdaaGreatDoorJac
namespace Go.Proofs.YtljoacpaehmbdaaGreatDoor
open Go.RowKit Go.Maps

/-- What the reference's rule asks of the kids, and its own type. -/
def wantL (op : Int) : List (Int × Bool) × Int :=
  if op = 7 then ([(2, false)], 2) else if op = 8 then ([(1, false)], 1) else if op = 9 ∨ op = 10 ∨ op = 11 ∨ op = 21 ∨ op = 22 then ([(1, false), (1, false)], 1)
  else if op = 12 ∨ op = 13 ∨ op = 14 ∨ op = 15 then ([(-1, false), (-2, false)], 2) else if op = 16 ∨ op = 17 then ([(0, false), (-2, false)], 2) else if op = 18 ∨ op = 19 then ([(2, false), (2, false)], 2)
  else if op = 20 then ([(0, true), (-2, false)], -2) else if op = 23 then ([(3, false)], 1) else if op = 24 then ([(3, false), (3, false)], 3) else ([(2, false), (0, false), (-3, false)], -3)
def askedB (w t : Int) (ks : List KA) : Bool := if w = 0 then true else if w = -1 then (decide (t = 1) || decide (t = 3)) else if w = -2 then decide (t = (kth ks 0).t) else if w = -3 then decide (t = (kth ks 1).t) else decide (t = w)
def wantsI (ks : List KA) : List KA → List (Int × Bool) → Int
  | k :: r, w :: ws => if askedB w.1 k.t ks = false then 91 else if w.2 ≠ k.o then 92 else wantsI ks r ws
  | _, _ => 0
def tyR (ty : Int) (ks : List KA) : Int := if ty = -2 then (kth ks 0).t else if ty = -3 then (kth ks 1).t else ty
def refRule (op : Int) (ks : List KA) : KA × Int := if wantsI ks ks (wantL op).1 ≠ 0 then (⟨0, false⟩, wantsI ks ks (wantL op).1) else (⟨tyR (wantL op).2 ks, false⟩, 0)
/-- No kind where there is an error. -/
def zeroK (p : KA × Int) : KA × Int := if p.2 ≠ 0 then (⟨0, false⟩, p.2) else p
def okT (t : Int) : Prop := t = 1 ∨ t = 2 ∨ t = 3
theorem okT_fin {t : Int} (h : okT t) : ∃ i : Fin 3, t = (i.val : Int) + 1 := by
  rcases h with h | h | h
  · exact ⟨0, by simp [h]⟩
  · exact ⟨1, by simp [h]⟩
  · exact ⟨2, by simp [h]⟩
def one1 (op : Int) : Prop := ∀ (a : Fin 3) (oa : Bool), refRule op [⟨(a.val : Int) + 1, oa⟩] = zeroK (ruleP [] op [] [⟨(a.val : Int) + 1, oa⟩])
def two2 (op : Int) : Prop := ∀ (a : Fin 3) (oa : Bool) (b : Fin 3) (ob : Bool), refRule op [⟨(a.val : Int) + 1, oa⟩, ⟨(b.val : Int) + 1, ob⟩] = zeroK (ruleP [] op [] [⟨(a.val : Int) + 1, oa⟩, ⟨(b.val : Int) + 1, ob⟩])
def three3 (op : Int) : Prop := ∀ (a : Fin 3) (oa : Bool) (b : Fin 3) (ob : Bool) (c : Fin 3) (oc : Bool), refRule op [⟨(a.val : Int) + 1, oa⟩, ⟨(b.val : Int) + 1, ob⟩, ⟨(c.val : Int) + 1, oc⟩] = zeroK (ruleP [] op [] [⟨(a.val : Int) + 1, oa⟩, ⟨(b.val : Int) + 1, ob⟩, ⟨(c.val : Int) + 1, oc⟩])
instance (op : Int) : Decidable (one1 op) := by unfold one1; infer_instance
instance (op : Int) : Decidable (two2 op) := by unfold two2; infer_instance
instance (op : Int) : Decidable (three3 op) := by unfold three3; infer_instance
set_option maxRecDepth 100000 in
theorem ones : one1 7 ∧ one1 8 ∧ one1 23 := by decide
set_option maxRecDepth 100000 in
theorem twos : ∀ i : Fin 16, i.val ≠ 14 → two2 ((i.val : Int) + 9) := by decide
set_option maxRecDepth 100000 in
theorem threes : three3 25 := by decide
def RuleA.named : RuleA → Bool
  | .field => true
  | .has => true
  | _ => false
theorem rule_nofield (S : List FieldA) (op : Int) (s : Txt) (ks : List KA) (h1 : 7 ≤ op) (h2 : op ≤ 25) : ruleP S op s ks = ruleP [] op [] ks := by
  obtain ⟨m, rfl⟩ := Int.eq_ofNat_of_zero_le (show 0 ≤ op by omega)
  have h : ∀ i : Fin 26, 7 ≤ i.val → ((ruleL[i.val]?).join).map RuleA.named = some false := by decide
  have := h ⟨m, by omega⟩ (by show 7 ≤ m; omega)
  unfold ruleP
  simp only [Int.toNat_natCast]
  cases hr : (ruleL[m]?).join with
  | none => rfl
  | some r =>
    simp only [hr] at this
    cases r with
    | field => cases this
    | has => cases this
    | takes => rfl
    | compares => rfl
    | orElse => rfl
    | pick => rfl
theorem ref_rule (S : List FieldA) (op : Int) (s : Txt) (ks : List KA) (h1 : 7 ≤ op) (h2 : op ≤ 25) (hk : (ks.length : Int) = kidsB op) (hT : ∀ k ∈ ks, okT k.t) : refRule op ks = zeroK (ruleP S op s ks) := by
  rw [rule_nofield S op s ks h1 h2]
  unfold kidsB at hk
  rw [if_neg (by omega)] at hk
  by_cases hA : op = 7 ∨ op = 8 ∨ op = 23
  · rw [if_pos hA] at hk
    match ks, hk with
    | [a], _ =>
      obtain ⟨i, hi⟩ := okT_fin (hT a (by simp))
      obtain ⟨t, o⟩ := a
      subst hi
      rcases hA with rfl | rfl | rfl
      · exact ones.1 i o
      · exact ones.2.1 i o
      · exact ones.2.2 i o
    | [], hk => exact absurd hk (by simp)
    | _ :: _ :: _, hk => exact absurd hk (by simp; omega)
  rw [if_neg hA] at hk
  by_cases hB : op = 25
  · subst hB
    rw [if_neg (by omega), if_pos rfl] at hk
    match ks, hk with
    | [a, b, c], _ =>
      obtain ⟨i, hi⟩ := okT_fin (hT a (by simp))
      obtain ⟨j, hj⟩ := okT_fin (hT b (by simp))
      obtain ⟨k, hk⟩ := okT_fin (hT c (by simp))
      obtain ⟨t, o⟩ := a
      obtain ⟨t', o'⟩ := b
      obtain ⟨t'', o''⟩ := c
      subst hi hj hk
      exact threes i o j o' k o''
    | [], hk => exact absurd hk (by simp)
    | [_], hk => exact absurd hk (by simp)
    | [_, _], hk => exact absurd hk (by simp)
    | _ :: _ :: _ :: _ :: _, hk => exact absurd hk (by simp; omega)
  · rw [if_pos (by omega)] at hk
    match ks, hk with
    | [a, b], _ =>
      obtain ⟨i, hi⟩ := okT_fin (hT a (by simp))
      obtain ⟨j, hj⟩ := okT_fin (hT b (by simp))
      obtain ⟨t, o⟩ := a
      obtain ⟨t', o'⟩ := b
      subst hi hj
      obtain ⟨m, rfl⟩ := Int.eq_ofNat_of_zero_le (show 0 ≤ op by omega)
      have := twos ⟨m - 9, by omega⟩ (by show m - 9 ≠ 14; omega) i o j o'
      rw [show ((m - 9 : Nat) : Int) + 9 = (m : Int) by omega] at this
      exact this
    | [], hk => exact absurd hk (by simp)
    | [_], hk => exact absurd hk (by simp)
    | _ :: _ :: _ :: _, hk => exact absurd hk (by simp; omega)
/-- The kinds of what fits have types. -/
theorem wide_okT {t : Int} (h : 0 ≤ wideB t) : okT t := by
  unfold wideB at h
  unfold okT
  repeat' split at h
  all_goals omega
theorem field_okT {S : List FieldA} (h : schemaB S = true) {s : Txt} {f : FieldA} (hf : fieldOf S s = some f) : okT f.type := by
  have hm := List.mem_of_find?_eq_some hf
  have h3 : S.all fieldOK = true := by
    unfold schemaB at h
    simp only [Bool.and_eq_true] at h
    exact h.1.1.2
  have := List.all_eq_true.1 h3 f hm
  unfold fieldOK at this
  simp only [Bool.and_eq_true, decide_eq_true_eq] at this
  exact wide_okT this.2
end Go.Proofs.YtljoacpaehmbdaaGreatDoor
