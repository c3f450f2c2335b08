import Derived.Test.YtklkhegeeglfbaaGreatDoorJs
import Derived.Test.YtklkhegeeglfbaaGreatDoorJzae
import Derived.Test.YtklkhegeeglfbaaGreatDoorJu
import Derived.Lib.ParseIntB
import Derived.Lib.SlTrimSet
import Derived.RegionTactic
namespace Go.Proofs.YtklkhegeeglfbaaGreatDoor
open Go.RowKit Go.Maps

/-- The values that a text tells, field by field, and the place behind them. -/
def prsLoop : List FieldA → Txt → Nat → Bool → Option (List ValA × Nat)
  | [], _, a, _ => some ([], a)
  | f :: rest, t, a, sm =>
    if sm = true ∧ beginsB t a [44] = false then some (zeros (f :: rest), a)
    else if beginsB t (if sm then a + 1 else a) (f.name ++ [61]) = false then (prsLoop rest t a sm).map fun p => (zeroV f :: p.1, p.2)
    else if (valueAtB f t ((if sm then a + 1 else a) + f.name.length + 1)).2 < 0 then none
    else (prsLoop rest t (valueAtB f t ((if sm then a + 1 else a) + f.name.length + 1)).2.toNat true).map fun p => ((valueAtB f t ((if sm then a + 1 else a) + f.name.length + 1)).1 :: p.1, p.2)
def parseB (l : List FieldA) (t : Txt) : List ValA × Int :=
  if schemaB l = false then ([], 60)
  else if beginsB t 0 [123] = false then ([], 63)
  else match prsLoop l t 1 false with
    | none => ([], 63)
    | some (r, a) => if t.drop a = [125] then (r, 0) else ([], 63)
/-- What stands for all, behind the values R. -/
def prsRest (l : List FieldA) (t : Txt) (k a : Nat) (sm : Bool) (R : List ValA) : Option (List ValA × Nat) := (prsLoop (l.drop k) t a sm).map fun p => (R ++ p.1, p.2)

theorem prsRest_stop {l : List FieldA} {t : Txt} {k a : Nat} {R : List ValA} {f : FieldA} (hf : l[k]? = some f) (h : beginsB t a [44] = false) : prsRest l t k a true R = some (R ++ zeros (l.drop k), a) := by
  unfold prsRest
  rw [drop_at hf, prsLoop, if_pos ⟨rfl, h⟩]
  rfl
theorem prsRest_skip {l : List FieldA} {t : Txt} {k a fr : Nat} {sm : Bool} {R : List ValA} {f : FieldA} (hf : l[k]? = some f) (h1 : ¬ (sm = true ∧ beginsB t a [44] = false)) (hfr : (if sm then a + 1 else a) = fr) (h2 : beginsB t fr (f.name ++ [61]) = false) : prsRest l t k a sm R = prsRest l t (k + 1) a sm (R ++ [zeroV f]) := by
  unfold prsRest
  rw [drop_at hf, prsLoop, if_neg h1, hfr, if_pos h2, Option.map_map]
  congr 1
  funext p
  simp
theorem prsRest_none {l : List FieldA} {t : Txt} {k a fr : Nat} {sm : Bool} {R : List ValA} {f : FieldA} (hf : l[k]? = some f) (h1 : ¬ (sm = true ∧ beginsB t a [44] = false)) (hfr : (if sm then a + 1 else a) = fr) (h2 : beginsB t fr (f.name ++ [61]) = true) (h3 : (valueAtB f t (fr + f.name.length + 1)).2 < 0) : prsRest l t k a sm R = none := by
  unfold prsRest
  rw [drop_at hf, prsLoop, if_neg h1, hfr, if_neg (by simp [h2]), if_pos h3]
  rfl
theorem prsRest_some {l : List FieldA} {t : Txt} {k a fr : Nat} {sm : Bool} {R : List ValA} {f : FieldA} (hf : l[k]? = some f) (h1 : ¬ (sm = true ∧ beginsB t a [44] = false)) (hfr : (if sm then a + 1 else a) = fr) (h2 : beginsB t fr (f.name ++ [61]) = true) (h3 : ¬ (valueAtB f t (fr + f.name.length + 1)).2 < 0) : prsRest l t k a sm R = prsRest l t (k + 1) (valueAtB f t (fr + f.name.length + 1)).2.toNat true (R ++ [(valueAtB f t (fr + f.name.length + 1)).1]) := by
  unfold prsRest
  rw [drop_at hf, prsLoop, if_neg h1, hfr, if_neg (by simp [h2]), if_neg h3, Option.map_map]
  congr 1
  funext p
  simp
theorem prsRest_zero (l : List FieldA) (t : Txt) (a : Nat) (sm : Bool) : prsRest l t 0 a sm [] = prsLoop l t a sm := by
  unfold prsRest
  rw [List.drop_zero]
  cases prsLoop l t a sm <;> simp
theorem prsRest_end (l : List FieldA) (t : Txt) (a : Nat) (sm : Bool) (R : List ValA) : prsRest l t l.length a sm R = some (R, a) := by
  unfold prsRest
  rw [List.drop_length, prsLoop]
  simp
theorem valueAtB_le (f : FieldA) (t : Txt) (a : Nat) (ha : a ≤ t.length) : -1 ≤ (valueAtB f t a).2 ∧ (valueAtB f t a).2 ≤ (t.length : Int) := by
  have h1 := unquoteB_n (t.drop a)
  rw [List.length_drop] at h1
  have h2 : endB t a ≤ t.length := scan_le _ _ _ ha
  unfold valueAtB
  repeat' split
  all_goals simp
  all_goals omega
theorem beginsB_le {t : Txt} {a : Nat} {p : Txt} (h : beginsB t a p = true) : a + p.length ≤ t.length := by
  unfold beginsB at h
  simp only [Bool.and_eq_true, decide_eq_true_eq] at h
  exact h.1

end Go.Proofs.YtklkhegeeglfbaaGreatDoor
namespace Go.Proofs.YtklkhegeeglfbaaGreatDoor
open Go.RowKit Go.Maps

theorem pum_app (M : Nat) : ∀ (l r : Txt) (acc a : Nat), Lib.parseUintM M acc l = .ok a → Lib.parseUintM M acc (l ++ r) = Lib.parseUintM M a r
  | [], r, acc, a, h => by simp only [Lib.parseUintM, Lib.NumEnd.ok.injEq] at h; rw [List.nil_append, h]
  | c :: l, r, acc, a, h => by
    simp only [Lib.parseUintM] at h
    rw [List.cons_append, Lib.parseUintM]
    split at h
    · rename_i h1
      rw [if_pos h1]
      split at h
      · cases h
      · rename_i h2
        rw [if_neg h2]
        split at h
        · cases h
        · rename_i h3
          rw [if_neg h3]
          exact pum_app M l r _ a h
    · cases h
theorem pum_decN : ∀ u : Nat, u ≤ 18446744073709551615 → Lib.parseUintM 18446744073709551615 0 (decN u) = .ok u := by
  intro u
  induction u using Nat.strongRecOn with
  | ind u ih =>
    intro h
    by_cases h0 : u = 0
    · subst h0; rw [decN_zero]; rfl
    · rw [decN_pos (by omega), pum_app _ _ _ _ _ (ih (u / 10) (by omega) (by omega)), Lib.parseUintM]
      have hd : (UInt8.ofNat (48 + u % 10)).toNat = 48 + u % 10 := by rw [UInt8.toNat_ofNat']; omega
      rw [hd, if_pos (by omega), if_neg (by omega), if_neg (by omega), Lib.parseUintM]
      congr 1
      omega
theorem decN_head {u : Nat} (h : 0 < u) : ∃ c r, decN u = c :: r ∧ 48 ≤ c.toNat ∧ c.toNat ≤ 57 := by
  induction u using Nat.strongRecOn with
  | ind u ih =>
    rw [decN_pos h]
    by_cases h1 : u / 10 = 0
    · rw [h1, decN_zero]
      exact ⟨_, _, rfl, by rw [UInt8.toNat_ofNat']; omega, by rw [UInt8.toNat_ofNat']; omega⟩
    · obtain ⟨c, r, e, h2⟩ := ih (u / 10) (by omega) (by omega)
      exact ⟨c, r ++ _, by rw [e]; rfl, h2⟩
/-- What a number is written as is read as this number. -/
theorem parseInt_decimal (n : Int) (h0 : -9223372036854775808 ≤ n) (h1 : n ≤ 9223372036854775807) : Lib.parseIntB 64 (decimal n) = .ok n := by
  by_cases hz : n = 0
  · subst hz; decide +kernel
  obtain ⟨u, hu⟩ : ∃ u, u = n.natAbs := ⟨_, rfl⟩
  have hu0 : 0 < u := by omega
  obtain ⟨c, r, e, hc⟩ := decN_head hu0
  have hp := pum_decN u (by omega)
  have hne : decN u ≠ [] := by rw [e]; simp
  have hpu : Lib.parseUintB 64 (decN u) = .ok u := by unfold Lib.parseUintB; rw [if_neg hne]; exact hp
  unfold decimal
  rw [if_neg hz, ← hu]
  by_cases hn : n < 0
  · rw [if_pos hn]
    unfold Lib.parseIntB
    simp only [show (45 : UInt8).toNat = 45 from rfl, if_true, or_true, hpu]
    rw [if_neg (by simp), if_neg (by simp; omega)]
    congr 1
    omega
  · rw [if_neg hn, e]
    unfold Lib.parseIntB
    have q1 : (c.toNat = 43) = False := by simp; omega
    have q2 : (c.toNat = 45) = False := by simp; omega
    rw [e] at hpu
    simp only [q1, q2, or_self, if_false, hpu, not_false_eq_true, true_and, false_and]
    rw [if_neg (by simp; omega)]
    congr 1
    omega
def numC (c : UInt8) : Bool := decide (num c = 45) || decide (48 ≤ num c) && decide (num c ≤ 57)
def trueT : Txt := [116, 114, 117, 101]
def falseT : Txt := [102, 97, 108, 115, 101]
/-- The value of a type at the head of a text, and what stands behind it, as the program reads it. -/
def pvP (ty : Int) (t : Txt) : Option (ValA × Txt) :=
  if ty = 1 then (if (numberB (t.takeWhile numC)).2 then some (⟨1, (numberB (t.takeWhile numC)).1, []⟩, t.dropWhile numC) else none)
  else if ty = 2 then (if trueT.isPrefixOf t then some (⟨2, 1, []⟩, t.drop 4) else if falseT.isPrefixOf t then some (⟨2, 0, []⟩, t.drop 5) else none)
  else if (unquoteB t).2.2 ≠ 0 then none else some (⟨3, 0, (unquoteB t).1⟩, t.drop (unquoteB t).2.1)
def preP (f : FieldA) (sm : Bool) : Txt := (if sm then [44] else []) ++ f.name ++ [61]
/-- The values that a text tells, field by field, and what stands behind them, as the program reads it. -/
def parP : List FieldA → Txt → Bool → Option (List ValA × Txt)
  | [], r, _ => some ([], r)
  | f :: fs, r, sm =>
    if (preP f sm).isPrefixOf r then (match pvP f.type (r.drop (preP f sm).length) with
      | none => none
      | some (v, r') => (parP fs r' true).map fun p => (v :: p.1, p.2))
    else (parP fs r sm).map fun p => (zeroV f :: p.1, p.2)
def finB (t : Txt) (o : Option (List ValA × Nat)) : Option (List ValA) := match o with
  | none => none
  | some (r, a) => if t.drop a = [125] then some r else none
def finP (o : Option (List ValA × Txt)) : Option (List ValA) := match o with
  | none => none
  | some (r, a) => if a = [125] then some r else none

/-- A byte that ends an item. -/
def midC (x : UInt8) : Bool := x != 44 && x != 125
def EndT (r : Txt) : Prop := r = [] ∨ ∃ c s, r = c :: s ∧ (c = 44 ∨ c = 125)
theorem midC_end {r : Txt} (h : EndT r) : r.takeWhile midC = [] := by
  rcases h with rfl | ⟨c, s, rfl, h | h⟩
  · rfl
  · subst h; rfl
  · subst h; rfl
theorem tw_app {p : UInt8 → Bool} : ∀ {d r : Txt}, (∀ x ∈ d, p x = true) → (d ++ r).takeWhile p = d ++ r.takeWhile p
  | [], r, _ => rfl
  | c :: d, r, h => by rw [List.cons_append, List.takeWhile_cons, if_pos (h c (by simp)), tw_app (fun x hx => h x (List.mem_cons_of_mem _ hx))]; rfl
theorem dw_app {p : UInt8 → Bool} : ∀ {d r : Txt}, (∀ x ∈ d, p x = true) → (d ++ r).dropWhile p = r.dropWhile p
  | [], r, _ => rfl
  | c :: d, r, h => by rw [List.cons_append, List.dropWhile_cons, if_pos (h c (by simp)), dw_app (fun x hx => h x (List.mem_cons_of_mem _ hx))]
theorem seg_of {d r : Txt} (h : ∀ x ∈ d, midC x = true) (hr : EndT r) : (d ++ r).takeWhile midC = d := by rw [tw_app h, midC_end hr, List.append_nil]
theorem not_end {r : Txt} (h : ¬ EndT r) : r ≠ [125] ∧ ([44] : Txt).isPrefixOf r = false := by
  constructor
  · rintro rfl; exact h (.inr ⟨125, [], rfl, .inr rfl⟩)
  · cases r with
    | nil => exact absurd (.inl rfl) h
    | cons c s =>
      have : c ≠ 44 := fun e => h (.inr ⟨c, s, rfl, .inl e⟩)
      have h2 : (44 : UInt8) ≠ c := fun e => this e.symm
      simp [List.isPrefixOf, h2]
theorem pre_false {f : FieldA} {r : Txt} (h : ([44] : Txt).isPrefixOf r = false) : (preP f true).isPrefixOf r = false := by
  cases r with
  | nil => simp [preP]
  | cons c s =>
    have h2 : (44 == c) = false := by simpa [List.isPrefixOf] using h
    simp [preP, List.isPrefixOf, h2]
theorem parP_stuck {r : Txt} (h : ([44] : Txt).isPrefixOf r = false) : ∀ fs : List FieldA, parP fs r true = some (zeros fs, r)
  | [] => rfl
  | f :: fs => by
    rw [parP, pre_false h]
    simp only [Bool.false_eq_true, if_false, parP_stuck h fs]
    rfl
theorem tw_dw (p : UInt8 → Bool) (l : Txt) : l = l.takeWhile p ++ l.dropWhile p := (List.takeWhile_append_dropWhile).symm
theorem tw_mem {p : UInt8 → Bool} {l : Txt} : ∀ x ∈ l.takeWhile p, p x = true := fun x hx => List.all_eq_true.1 (List.all_takeWhile (p := p) (l := l)) x hx
theorem dw_end (T : Txt) : EndT (T.dropWhile midC) := by
  cases h : T.dropWhile midC with
  | nil => exact .inl rfl
  | cons c s =>
    have := List.head_dropWhile_not (p := midC) (l := T) (by rw [h]; simp)
    simp only [h, List.head_cons, midC, Bool.and_eq_false_iff, bne_eq_false_iff_eq] at this
    exact .inr ⟨c, s, rfl, this⟩
theorem dec_numC : ∀ d : Fin 10, numC (UInt8.ofNat (48 + d.val)) = true := by decide +kernel
theorem decN_numC (u : Nat) : ∀ x ∈ decN u, numC x = true := by
  induction u using Nat.strongRecOn with
  | ind u ih =>
    by_cases h : u = 0
    · subst h; rw [decN_zero]; simp
    · rw [decN_pos (by omega)]
      intro x hx
      rcases List.mem_append.1 hx with h1 | h1
      · exact ih (u / 10) (by omega) x h1
      · simp only [List.mem_singleton] at h1
        subst h1
        exact dec_numC ⟨u % 10, by omega⟩
theorem decimal_numC (n : Int) : ∀ x ∈ decimal n, numC x = true := by
  unfold decimal
  split
  · intro x hx; simp only [List.mem_singleton] at hx; subst hx; decide
  · split
    · intro x hx
      rcases List.mem_cons.1 hx with rfl | h
      · decide
      · exact decN_numC _ x h
    · exact decN_numC _
theorem numC_mid (x : UInt8) (h : numC x = true) : midC x = true := by
  unfold midC
  simp only [Bool.and_eq_true, bne_iff_ne]
  constructor
  · rintro rfl; simp [numC, num] at h
  · rintro rfl; simp [numC, num] at h
theorem numC_end {r : Txt} (h : EndT r) : r.takeWhile numC = [] ∧ r.dropWhile numC = r := by
  rcases h with rfl | ⟨c, s, rfl, h | h⟩
  · exact ⟨rfl, rfl⟩
  · subst h; exact ⟨rfl, rfl⟩
  · subst h; exact ⟨rfl, rfl⟩
theorem prefix_app {p : Txt} : ∀ {r : Txt}, p.isPrefixOf r = true → r = p ++ r.drop p.length := by
  intro r h
  rw [List.isPrefixOf_iff_prefix] at h
  obtain ⟨s, rfl⟩ := h
  simp
/-- What the program reads as a value where the document does, and what it reads where the document reads none leads nowhere. -/
theorem value_eq (f : FieldA) (hf : f.type = 1 ∨ f.type = 2 ∨ f.type = 3) (t : Txt) (a : Nat) :
    if (valueAtB f t a).2 < 0 then (∀ v r, pvP f.type (t.drop a) = some (v, r) → ¬ EndT r)
    else pvP f.type (t.drop a) = some ((valueAtB f t a).1, t.drop (valueAtB f t a).2.toNat) := by
  obtain ⟨T, hT⟩ : ∃ T, t.drop a = T := ⟨_, rfl⟩
  have hseg : (t.drop a).take (endB t a - a) = T.takeWhile midC := by
    unfold endB scan
    rw [hT, Nat.add_sub_cancel_left]
    show T.take (T.takeWhile midC).length = _
    conv => lhs; arg 2; rw [tw_dw midC T]
    rw [List.take_left]
  have hrest : t.drop (endB t a) = T.dropWhile midC := by
    unfold endB scan
    rw [← List.drop_drop, hT]
    show T.drop (T.takeWhile midC).length = _
    conv => lhs; arg 2; rw [tw_dw midC T]
    rw [List.drop_left]
  obtain ⟨D, hD⟩ : ∃ D, valueAtB f t a = D := ⟨_, rfl⟩
  rw [hD]
  unfold valueAtB at hD
  rw [hseg, hT] at hD
  rw [hT]
  have neg1 : ∀ x : ValA, (x, (-1 : Int)).2 < 0 := fun _ => by show (-1 : Int) < 0; decide
  have nat1 : ∀ (x : ValA) (n : Nat), ¬ (x, (n : Int)).2 < 0 := fun _ n => by show ¬ (n : Int) < 0; omega
  rcases hf with h | h | h
  · rw [if_neg (by omega), if_neg (by omega)] at hD
    cases hn : (numberB (T.takeWhile midC)).2 with
    | true =>
      rw [hn, if_pos rfl] at hD
      subst hD
      rw [if_neg (nat1 _ _)]
      obtain ⟨he, _, _⟩ := numberB_ok _ hn
      have hc : ∀ x ∈ T.takeWhile midC, numC x = true := by rw [← he]; exact decimal_numC _
      have hx := numC_end (dw_end T)
      have e1 : T.takeWhile numC = T.takeWhile midC := by
        conv => lhs; rw [tw_dw midC T]
        rw [tw_app hc, hx.1, List.append_nil]
      have e2 : T.dropWhile numC = T.dropWhile midC := by
        conv => lhs; rw [tw_dw midC T]
        rw [dw_app hc, hx.2]
      unfold pvP
      rw [if_pos h, e1, e2, hn, if_pos rfl]
      simp only [Int.toNat_natCast, hrest]
    | false =>
      rw [hn, if_neg (by simp)] at hD
      subst hD
      rw [if_pos (neg1 _)]
      intro v r hv he
      unfold pvP at hv
      rw [if_pos h] at hv
      split at hv
      · rename_i hok
        simp only [Option.some.injEq, Prod.mk.injEq] at hv
        have e1 : T.takeWhile midC = T.takeWhile numC := by
          conv => lhs; rw [tw_dw numC T]
          exact seg_of (fun x hx => numC_mid x (tw_mem x hx)) (by rw [hv.2]; exact he)
        rw [e1, hok] at hn
        cases hn
      · cases hv
  · rw [if_neg (by omega), if_pos h] at hD
    have kt : ∀ x ∈ trueT, midC x = true := by decide
    have kf : ∀ x ∈ falseT, midC x = true := by decide
    by_cases h1 : T.takeWhile midC = trueT
    · rw [if_pos (show T.takeWhile midC = [116, 114, 117, 101] from h1)] at hD
      subst hD
      rw [if_neg (nat1 _ _)]
      unfold pvP
      have e : T = trueT ++ T.dropWhile midC := by rw [← h1]; exact tw_dw midC T
      rw [if_neg (by omega), if_pos h, if_pos (by rw [e]; simp [List.isPrefixOf_iff_prefix])]
      simp only [Int.toNat_natCast, hrest]
      congr 2
      conv => lhs; rw [e]
      rfl
    · rw [if_neg (show ¬ T.takeWhile midC = [116, 114, 117, 101] from h1)] at hD
      by_cases h2 : T.takeWhile midC = falseT
      · rw [if_pos (show T.takeWhile midC = [102, 97, 108, 115, 101] from h2)] at hD
        subst hD
        rw [if_neg (nat1 _ _)]
        unfold pvP
        have e : T = falseT ++ T.dropWhile midC := by rw [← h2]; exact tw_dw midC T
        rw [if_neg (by omega), if_pos h, if_neg (by rw [e]; simp [trueT, falseT, List.isPrefixOf]), if_pos (by rw [e]; simp [List.isPrefixOf_iff_prefix])]
        simp only [Int.toNat_natCast, hrest]
        congr 2
        conv => lhs; rw [e]
        rfl
      · rw [if_neg (show ¬ T.takeWhile midC = [102, 97, 108, 115, 101] from h2)] at hD
        subst hD
        rw [if_pos (neg1 _)]
        intro v r hv he
        unfold pvP at hv
        rw [if_neg (by omega), if_pos h] at hv
        split at hv
        · rename_i hp
          simp only [Option.some.injEq, Prod.mk.injEq] at hv
          have e := prefix_app hp
          have : T.takeWhile midC = trueT := by
            rw [e]
            exact seg_of kt (by rw [show T.drop trueT.length = r from hv.2]; exact he)
          exact h1 this
        · split at hv
          · rename_i hp
            simp only [Option.some.injEq, Prod.mk.injEq] at hv
            have e := prefix_app hp
            have : T.takeWhile midC = falseT := by
              rw [e]
              exact seg_of kf (by rw [show T.drop falseT.length = r from hv.2]; exact he)
            exact h2 this
          · cases hv
  · rw [if_pos h] at hD
    have e3 : pvP f.type T = if (unquoteB T).2.2 ≠ 0 then none else some (⟨3, 0, (unquoteB T).1⟩, T.drop (unquoteB T).2.1) := by
      unfold pvP
      rw [if_neg (by omega), if_neg (by omega)]
    rw [e3]
    by_cases hu : (unquoteB T).2.2 ≠ 0
    · rw [if_pos hu] at hD
      subst hD
      rw [if_pos (neg1 _), if_pos hu]
      intro v r hv; cases hv
    · rw [if_neg hu] at hD
      subst hD
      rw [if_neg (nat1 _ _), if_neg hu]
      simp only [Int.toNat_natCast]
      rw [← List.drop_drop, hT]
theorem begins_prefix (t : Txt) (a : Nat) (p : Txt) (ha : a ≤ t.length) : beginsB t a p = p.isPrefixOf (t.drop a) := by
  unfold beginsB
  apply Bool.eq_iff_iff.2
  rw [Bool.and_eq_true, decide_eq_true_eq, decide_eq_true_eq, List.isPrefixOf_iff_prefix, List.prefix_iff_eq_take]
  constructor
  · rintro ⟨h1, h2⟩; exact h2.symm
  · intro h
    refine ⟨?_, h.symm⟩
    have := congrArg List.length h
    rw [List.length_take, List.length_drop] at this
    omega
theorem finB_map (t : Txt) (x : ValA) (o : Option (List ValA × Nat)) : finB t (o.map fun p => (x :: p.1, p.2)) = (finB t o).map (x :: ·) := by
  cases o with
  | none => rfl
  | some p => unfold finB; simp only [Option.map_some]; split <;> rfl
theorem finP_map (x : ValA) (o : Option (List ValA × Txt)) : finP (o.map fun p => (x :: p.1, p.2)) = (finP o).map (x :: ·) := by
  cases o with
  | none => rfl
  | some p => unfold finP; simp only [Option.map_some]; split <;> rfl
theorem par_eq (t : Txt) : ∀ (l : List FieldA), (∀ f ∈ l, f.type = 1 ∨ f.type = 2 ∨ f.type = 3) → ∀ (a : Nat) (sm : Bool), a ≤ t.length → finB t (prsLoop l t a sm) = finP (parP l (t.drop a) sm)
  | [], _, a, sm, _ => rfl
  | f :: fs, hty, a, sm, ha => by
    have ih := par_eq t fs (fun g hg => hty g (List.mem_cons_of_mem _ hg))
    have hf := hty f (by simp)
    by_cases h1 : sm = true ∧ beginsB t a [44] = false
    · obtain ⟨rfl, h2⟩ := h1
      rw [prsLoop, if_pos ⟨rfl, h2⟩]
      rw [begins_prefix t a [44] ha] at h2
      rw [parP_stuck h2 (f :: fs)]
      rfl
    · obtain ⟨fr, hfr⟩ : ∃ fr, (if sm = true then a + 1 else a) = fr := ⟨_, rfl⟩
      have hk : fr ≤ t.length ∧ beginsB t fr (f.name ++ [61]) = (preP f sm).isPrefixOf (t.drop a) ∧ t.drop (fr + f.name.length + 1) = (t.drop a).drop (preP f sm).length := by
        cases sm with
        | false =>
          have : fr = a := by rw [← hfr]; rfl
          subst this
          refine ⟨ha, ?_, ?_⟩
          · rw [begins_prefix _ _ _ ha]; rfl
          · rw [List.drop_drop]; simp [preP, Nat.add_assoc]
        | true =>
          have : fr = a + 1 := by rw [← hfr]; rfl
          subst this
          have hb : beginsB t a [44] = true := by
            cases hx : beginsB t a [44] with
            | true => rfl
            | false => exact absurd ⟨rfl, hx⟩ h1
          have hl : a + 1 ≤ t.length := beginsB_le hb
          rw [begins_prefix t a [44] ha] at hb
          have hd := prefix_app hb
          rw [List.drop_drop, show ([44] : Txt).length = 1 from rfl] at hd
          refine ⟨hl, ?_, ?_⟩
          · rw [begins_prefix _ _ _ hl, hd]
            simp [preP]
          · rw [List.drop_drop]
            congr 1
            simp [preP]
            omega
      obtain ⟨hk1, hk2, hk3⟩ := hk
      rw [prsLoop, if_neg h1, hfr, parP, ← hk3, hk2]
      cases hp : (preP f sm).isPrefixOf (t.drop a) with
      | false =>
        rw [if_pos rfl, if_neg (by simp), finB_map, finP_map, ih a sm ha]
      | true =>
        rw [hp] at hk2
        have hle := beginsB_le hk2
        simp only [List.length_append, List.length_singleton] at hle
        rw [if_neg (by simp), if_pos rfl]
        have hv := value_eq f hf t (fr + f.name.length + 1)
        have hbd := valueAtB_le f t (fr + f.name.length + 1) (by omega)
        obtain ⟨D, hD⟩ : ∃ D, valueAtB f t (fr + f.name.length + 1) = D := ⟨_, rfl⟩
        rw [hD] at hv hbd ⊢
        by_cases hneg : D.2 < 0
        · rw [if_pos hneg] at hv ⊢
          cases hq : pvP f.type (t.drop (fr + f.name.length + 1)) with
          | none => rfl
          | some p =>
            obtain ⟨v, r⟩ := p
            obtain ⟨n1, n2⟩ := not_end (hv v r hq)
            simp only [parP_stuck n2 fs]
            simp only [finB, finP, Option.map_some, if_neg n1]
        · rw [if_neg hneg] at hv ⊢
          rw [hv]
          simp only
          rw [finB_map, finP_map, ih _ true (by omega)]
theorem parse_eq (l : List FieldA) (hs : schemaB l = true) (t : Txt) : parseB l t = match (if ([123] : Txt).isPrefixOf t then finP (parP l (t.drop 1) false) else none) with
    | none => ([], 63)
    | some r => (r, 0) := by
  have hty : ∀ f ∈ l, f.type = 1 ∨ f.type = 2 ∨ f.type = 3 := by
    intro f hf
    unfold schemaB at hs
    simp only [Bool.and_eq_true] at hs
    have := List.all_eq_true.1 hs.1.1.2 f hf
    unfold fieldOK wideB at this
    simp only [Bool.and_eq_true, decide_eq_true_eq] at this
    have h2 := this.2
    repeat' split at h2
    all_goals omega
  unfold parseB
  rw [if_neg (by simp [hs]), begins_prefix t 0 [123] (by omega), List.drop_zero]
  cases hp : ([123] : Txt).isPrefixOf t with
  | false => simp
  | true =>
    have hl : 1 ≤ t.length := by
      cases t with
      | nil => simp at hp
      | cons c r => simp
    rw [if_neg (by simp), if_pos rfl, ← par_eq t l hty 1 false hl]
    cases prsLoop l t 1 false with
    | none => rfl
    | some p =>
      obtain ⟨r, a⟩ := p
      simp only [finB]
      by_cases h : t.drop a = [125]
      · simp only [if_pos h]
      · simp only [if_neg h]

theorem parseInt_range {l : Txt} {v : Int} (h : Lib.parseIntB 64 l = .ok v) : -9223372036854775808 ≤ v ∧ v ≤ 9223372036854775807 := by
  unfold Lib.parseIntB at h
  cases l with
  | nil => cases h
  | cons c r =>
    simp only at h
    split at h
    · cases h
    · cases h
    · rename_i u _
      split at h
      · cases h
      · split at h
        · cases h
        · rename_i h1 h2
          simp only [Lib.NumEnd.ok.injEq] at h
          subst h
          split
          · rename_i h3
            have : ¬ 2 ^ 63 < u := fun e => h2 ⟨h3, e⟩
            omega
          · rename_i h3
            have : ¬ 2 ^ 63 ≤ u := fun e => h1 ⟨h3, e⟩
            omega
/-- A text is taken as a number just if it is read as one that is written so. -/
theorem number_iff (d : Txt) : (∃ v, Lib.parseIntB 64 d = .ok v ∧ decimal v = d ∧ numberB d = (v, true)) ∨ ((numberB d).2 = false ∧ ∀ v, Lib.parseIntB 64 d = .ok v → decimal v ≠ d) := by
  cases hn : (numberB d).2 with
  | true =>
    obtain ⟨h1, h2, h3⟩ := numberB_ok d hn
    left
    have h4 := parseInt_decimal _ h2 h3
    rw [h1] at h4
    exact ⟨_, h4, h1, Prod.ext rfl hn⟩
  | false =>
    right
    refine ⟨rfl, fun v hv e => ?_⟩
    obtain ⟨r1, r2⟩ := parseInt_range hv
    have := numberB_decimal v r1 r2
    rw [e] at this
    rw [this] at hn
    cases hn
theorem numC_set : ∀ n : Fin 256, ([45, 48, 49, 50, 51, 52, 53, 54, 55, 56, 57] : Txt).contains (UInt8.ofNat n.val) = numC (UInt8.ofNat n.val) := by decide +kernel
theorem numC_of (c : UInt8) : ([45, 48, 49, 50, 51, 52, 53, 54, 55, 56, 57] : Txt).contains c = numC c := by
  have := numC_set ⟨c.toNat, c.toNat_lt⟩
  simpa only [UInt8.ofNat_toNat] using this
theorem trimLeft_v (s : Txt) (w : World) : Calls Tryz.prog 100 #[str s, str [45, 48, 49, 50, 51, 52, 53, 54, 55, 56, 57]] w fun e w' => e = .returned (str (s.dropWhile numC)) ∧ Keeps (fun _ => False) w w' := by
  have h := Any.strings_TrimLeft_laid Tryz.lays161 (by kernel_rfl) ⟨s.toArray⟩ ⟨#[45, 48, 49, 50, 51, 52, 53, 54, 55, 56, 57]⟩ w (by decide) (ascii_of_all (by decide))
  refine h.mono fun e w' ⟨he, hb⟩ => ⟨?_, keeps_below hb⟩
  rw [he]
  unfold Lib.trimLeftS
  have e2 : (fun x => ([45, 48, 49, 50, 51, 52, 53, 54, 55, 56, 57] : Txt).contains x) = numC := funext numC_of
  show Ending.returned (Value.string ⟨(s.dropWhile (fun x => ([45, 48, 49, 50, 51, 52, 53, 54, 55, 56, 57] : Txt).contains x)).toArray⟩) = _
  rw [e2]
end Go.Proofs.YtklkhegeeglfbaaGreatDoor
namespace Go.Proofs.YtklkhegeeglfbaaGreatDoor
open Go.RowKit Go.Maps

/-- What a reading of a value answers. -/
def TakenP (e : Ending) (o : Option (ValA × Txt)) : Prop := ∃ (x : ValA) (r : Txt) (ok : Bool), e = .returned (.tuple #[.agg #[.int .i64 x.kind, .int .i64 x.n, str x.s], str r, .bool ok]) ∧ ok = o.isSome ∧ ∀ y s, o = some (y, s) → x = y ∧ r = s
theorem TakenP.no {x : ValA} {r : Txt} {o : Option (ValA × Txt)} (h : o = none) : TakenP (.returned (.tuple #[.agg #[.int .i64 x.kind, .int .i64 x.n, str x.s], str r, .bool false])) o := by
  subst h
  exact ⟨x, r, false, rfl, rfl, fun y s e => by cases e⟩
theorem TakenP.yes {x : ValA} {r : Txt} {o : Option (ValA × Txt)} (h : o = some (x, r)) : TakenP (.returned (.tuple #[.agg #[.int .i64 x.kind, .int .i64 x.n, str x.s], str r, .bool true])) o := by
  subst h
  refine ⟨x, r, true, rfl, rfl, fun y s e => ?_⟩
  simp only [Option.some.injEq, Prod.mk.injEq] at e
  exact e
theorem parseInt_err (d : Txt) (hd : d.length ≤ 281474976710656) (w : World) (hE : Env w) (h : ∀ v, Lib.parseIntB 64 d ≠ .ok v) :
    Calls Tryz.prog 101 #[str d, .int .i64 10, .int .i64 64] w fun e w' => (∃ n te pv, e = .returned (.tuple #[.int .i64 n, .iface te pv])) ∧ Keeps (fun _ => False) w w' := by
  cases hp : Lib.parseIntB 64 d with
  | ok v => exact absurd hp (h v)
  | «syntax» =>
    obtain ⟨ev, h1, h2⟩ := hE.synt
    exact (Tryz.strconv_ParseInt_10_at64_syntax ⟨d.toArray⟩ hd hp ev w h1 h2).mono fun e w' ⟨N, he, _, _, hb⟩ => ⟨⟨_, _, _, he⟩, keeps_below hb⟩
  | range =>
    obtain ⟨ev, h1, h2⟩ := hE.rang
    exact (Tryz.strconv_ParseInt_10_at64_range ⟨d.toArray⟩ hd hp ev w h1 h2).mono fun e w' ⟨N, he, _, _, hb⟩ => ⟨⟨_, _, _, he⟩, keeps_below hb⟩
theorem parseInt_ok (d : Txt) (hd : d.length ≤ 281474976710656) (w : World) (v : Int) (h : Lib.parseIntB 64 d = .ok v) :
    Calls Tryz.prog 101 #[str d, .int .i64 10, .int .i64 64] w fun e w' => e = .returned (.tuple #[.int .i64 v, .nilIface]) ∧ Keeps (fun _ => False) w w' := by
  refine (Tryz.strconv_ParseInt_10_at64_ok ⟨d.toArray⟩ (by show d.length ≤ _; omega) v h w).mono fun e w' ⟨he, hw⟩ => ⟨he, ?_⟩
  rcases hw with rfl | ⟨t, rfl⟩
  · exact Keeps.refl _ _
  · exact ⟨rfl, rfl, rfl, by rw [Lib.bytesWorld_size]; omega, fun k hk _ => Lib.bytesWorld_at_old w 5 _ k hk⟩
/-- The result's cell, that a walk writes at its end. -/
theorem cell69 {w w5 : World} (h : Keeps (fun _ => False) (w.alloc (.cells #[.int .i64 0, .int .i64 0, str []] 40)) w5) :
    w5.heap[w.heap.size]? = some (.cells #[.int .i64 0, .int .i64 0, str []] 40 (0, 0)) := by
  rw [h.block _ (by simp) id]
  exact heap_alloc_new w _

set_option maxRecDepth 100000 in
set_option maxHeartbeats 2000000 in
theorem parseInt_v (t : Txt) (w : World) (hE : Env w) (ht : t.length ≤ 1099511627776) :
    Calls Tryz.prog 85 #[str t] w fun e w' => TakenP e (pvP 1 t) ∧ Keeps (fun _ => False) w w' := by
  have HKB : Hid (Keeps (fun _ => False) w (w.alloc (.cells #[.int .i64 0, .int .i64 0, str []] 40))) := (Keeps.refl _ _).alloc _
  have HTL := hide (trimLeft_v t (w.alloc (.cells #[.int .i64 0, .int .i64 0, str []] 40)))
  obtain ⟨d, HDD⟩ : ∃ d : Txt, Hid (t.takeWhile numC = d) := ⟨_, hide rfl⟩
  obtain ⟨r, HRR⟩ : ∃ r : Txt, Hid (t.dropWhile numC = r) := ⟨_, hide rfl⟩
  have HTE : Hid (t = d ++ r) := by show _ = _; rw [← unhide HDD, ← unhide HRR]; exact tw_dw numC t
  have hlen : t.length = d.length + r.length := by conv => lhs; rw [unhide HTE]
                                                   rw [List.length_append]
  have hx : (ByteArray.mk t.toArray).extract 0 d.length = ⟨d.toArray⟩ := by rw [ext_str, List.drop_zero, Nat.sub_zero, unhide HTE, List.take_left]
  rw [unhide HRR] at HTL
  have HPV : Hid (pvP 1 t = if (numberB d).2 then some (⟨1, (numberB d).1, []⟩, r) else none) := by show _ = _; unfold pvP; rw [if_pos rfl, unhide HDD, unhide HRR]
  have HEN := hide (hE.keepF (unhide HKB))
  have hl1 : d.length ≤ 1099511627776 := by omega
  have hl2 : r.length ≤ 1099511627776 := by omega
  have hsub : (t.length : Int) - (r.length : Int) = (d.length : Int) := by omega
  have hle : (d.length : Int) ≤ (t.length : Int) := by omega
  have HLEN := hide hlen
  clear hE hlen
  go_enter Tryz.func85, Tryz.ntmps85
  go_wp2_with fail
  refine (unhide HTL).mono ?_
  rintro e w2 ⟨rfl, hk2⟩
  have HK2 := hide hk2
  have HEN2 := hide ((unhide HEN).keepF hk2)
  clear hk2 HTL
  rcases number_iff d with ⟨v, hp, hdv, hnb⟩ | ⟨hnb, hno⟩
  · have HQ := hide (parseInt_ok d (by omega) w2 v hp)
    obtain ⟨r1, r2⟩ := parseInt_range hp
    have HP : Hid (pvP 1 t = some (⟨1, v, []⟩, r)) := by show _ = _; rw [unhide HPV, hnb]; rfl
    have HDV := hide hdv
    clear hp hdv hnb
    go_wp2_with fail
    refine (unhide HQ).mono ?_
    rintro e w3 ⟨rfl, hk3⟩
    have HF := hide (formatInt_v v r1 r2 w3 ((unhide HEN2).keepF hk3).pow)
    rw [unhide HDV] at HF
    have HK3 := hide ((unhide HK2).trans hk3)
    clear hk3 HQ
    go_wp2_with fail
    refine (unhide HF).mono ?_
    rintro e w4 ⟨rfl, hk4⟩
    have HK4 := hide ((unhide HK3).trans hk4)
    have hb4 := cell69 (unhide HK4)
    have hs := set3 hb4 (.int .i64 1) (.int .i64 v) (str [])
    have f0 := frozen_of_blk hb4 0
    have f1 := frozen_of_blk hb4 1
    have f2 := frozen_of_blk hb4 2
    have q0 : w4.cell? ⟨w.heap.size, 0, none⟩ = some (.int .i64 0) := by rw [cell_of_blk hb4]; rfl
    have q1 : w4.cell? ⟨w.heap.size, 1, none⟩ = some (.int .i64 0) := by rw [cell_of_blk hb4]; rfl
    have q2 : w4.cell? ⟨w.heap.size, 2, none⟩ = some (str []) := by rw [cell_of_blk hb4]; rfl
    obtain ⟨⟨c0, c1, c2⟩, hks⟩ := hs
    have HK5 := hide (((unhide HKB).trans (unhide HK4)).narrow (F := fun q => q = w.heap.size) hks (fun q e => by omega))
    have hlt4 := lt_of_block hb4
    clear hk4 hb4 hks HF
    go_wp2_with fail
    refine bodyPost_ret (v := .tuple #[.agg #[.int .i64 1, .int .i64 v, str []], str r, .bool true]) (by simp [results, go_sem, c0, c1, c2]) rfl ?_
    exact ⟨TakenP.yes (x := ⟨1, v, []⟩) (unhide HP), unhide HK5⟩
  · have HP : Hid (pvP 1 t = none) := by show _ = _; rw [unhide HPV, hnb]; rfl
    by_cases hok : ∃ v, Lib.parseIntB 64 d = .ok v
    · obtain ⟨v, hp⟩ := hok
      have HQ := hide (parseInt_ok d (by omega) w2 v hp)
      obtain ⟨r1, r2⟩ := parseInt_range hp
      obtain ⟨E, HEE⟩ : ∃ E : Txt, Hid (decimal v = E) := ⟨_, hide rfl⟩
      have hne : (E == d) = false := by rw [← unhide HEE]; simpa using hno v hp
      clear hp hno hnb
      go_wp2_with fail
      refine (unhide HQ).mono ?_
      rintro e w3 ⟨rfl, hk3⟩
      have HF := hide (formatInt_v v r1 r2 w3 ((unhide HEN2).keepF hk3).pow)
      rw [unhide HEE] at HF
      have HK3 := hide ((unhide HK2).trans hk3)
      clear hk3 HQ
      go_wp2_with fail
      refine (unhide HF).mono ?_
      rintro e w4 ⟨rfl, hk4⟩
      have HK4 := hide ((unhide HK3).trans hk4)
      clear hk4 HF
      have hb4 := cell69 (unhide HK4)
      have hs := set3 hb4 (.int .i64 0) (.int .i64 0) (str [])
      have f0 := frozen_of_blk hb4 0
      have f1 := frozen_of_blk hb4 1
      have f2 := frozen_of_blk hb4 2
      have q0 : w4.cell? ⟨w.heap.size, 0, none⟩ = some (.int .i64 0) := by rw [cell_of_blk hb4]; rfl
      have q1 : w4.cell? ⟨w.heap.size, 1, none⟩ = some (.int .i64 0) := by rw [cell_of_blk hb4]; rfl
      have q2 : w4.cell? ⟨w.heap.size, 2, none⟩ = some (str []) := by rw [cell_of_blk hb4]; rfl
      obtain ⟨⟨c0, c1, c2⟩, hks⟩ := hs
      have HK5 := hide (((unhide HKB).trans (unhide HK4)).narrow (F := fun q => q = w.heap.size) hks (fun q e => by omega))
      have hlt4 := lt_of_block hb4
      clear hb4 hks
      go_wp2_with fail
      refine bodyPost_ret (v := .tuple #[.agg #[.int .i64 0, .int .i64 0, str []], str [], .bool false]) (by simp [results, go_sem, c0, c1, c2]) rfl ?_
      exact ⟨TakenP.no (x := ⟨0, 0, []⟩) (r := []) (unhide HP), unhide HK5⟩
    · have HQ := hide (parseInt_err d (by omega) w2 (unhide HEN2) (fun v hv => hok ⟨v, hv⟩))
      clear hok hno hnb
      go_wp2_with fail
      refine (unhide HQ).mono ?_
      rintro e w3 ⟨⟨n, te, pv, rfl⟩, hk3⟩
      have HK4 := hide ((unhide HK2).trans hk3)
      clear hk3 HQ
      have hb4 := cell69 (unhide HK4)
      have hs := set3 hb4 (.int .i64 0) (.int .i64 0) (str [])
      have f0 := frozen_of_blk hb4 0
      have f1 := frozen_of_blk hb4 1
      have f2 := frozen_of_blk hb4 2
      have q0 : w3.cell? ⟨w.heap.size, 0, none⟩ = some (.int .i64 0) := by rw [cell_of_blk hb4]; rfl
      have q1 : w3.cell? ⟨w.heap.size, 1, none⟩ = some (.int .i64 0) := by rw [cell_of_blk hb4]; rfl
      have q2 : w3.cell? ⟨w.heap.size, 2, none⟩ = some (str []) := by rw [cell_of_blk hb4]; rfl
      obtain ⟨⟨c0, c1, c2⟩, hks⟩ := hs
      have HK5 := hide (((unhide HKB).trans (unhide HK4)).narrow (F := fun q => q = w.heap.size) hks (fun q e => by omega))
      have hlt4 := lt_of_block hb4
      clear hb4 hks
      go_wp2_with fail
      refine bodyPost_ret (v := .tuple #[.agg #[.int .i64 0, .int .i64 0, str []], str [], .bool false]) (by simp [results, go_sem, c0, c1, c2]) rfl ?_
      exact ⟨TakenP.no (x := ⟨0, 0, []⟩) (r := []) (unhide HP), unhide HK5⟩

theorem pre_eq (s q : Txt) : Lib.hasPrefix s q = q.isPrefixOf s ∧ (q.isPrefixOf s = true → Lib.trimPrefix s q = s.drop q.length) := by
  refine ⟨rfl, fun h => ?_⟩
  unfold Lib.trimPrefix Lib.hasPrefix
  rw [if_pos h]

set_option maxRecDepth 100000 in
set_option maxHeartbeats 2000000 in
theorem parseBool_v (t : Txt) (w : World) :
    Calls Tryz.prog 86 #[str t] w fun e w' => TakenP e (pvP 2 t) ∧ Keeps (fun _ => False) w w' := by
  have HKB : Hid (Keeps (fun _ => False) w (w.alloc (.cells #[.int .i64 0, .int .i64 0, str []] 40))) := (Keeps.refl _ _).alloc _
  have HQ1 := hide (cutPrefix_v t [116, 114, 117, 101] (w.alloc (.cells #[.int .i64 0, .int .i64 0, str []] 40)))
  have HQ2 := hide (cutPrefix_v t [102, 97, 108, 115, 101] (w.alloc (.cells #[.int .i64 0, .int .i64 0, str []] 40)))
  rw [(pre_eq _ _).1] at HQ1 HQ2
  have HPV : Hid (pvP 2 t = if trueT.isPrefixOf t then some (⟨2, 1, []⟩, t.drop 4) else if falseT.isPrefixOf t then some (⟨2, 0, []⟩, t.drop 5) else none) := by show _ = _; unfold pvP; rw [if_neg (by omega), if_pos rfl]
  cases h1 : List.isPrefixOf ([116, 114, 117, 101] : Txt) t with
  | true =>
    have HP : Hid (pvP 2 t = some (⟨2, 1, []⟩, t.drop 4)) := by show _ = _; rw [unhide HPV, if_pos (show trueT.isPrefixOf t = true from h1)]
    rw [h1, (pre_eq _ _).2 h1] at HQ1
    rw [show ([116, 114, 117, 101] : Txt).length = 4 from rfl] at HQ1
    clear h1
    generalize t.drop 4 = R at *
    go_enter Tryz.func86, Tryz.ntmps86
    go_wp2_with fail
    refine (unhide HQ1).mono ?_
    rintro e w2 ⟨rfl, rfl⟩
    go_wp2_with fail
    refine bodyPost_ret (v := .tuple #[.agg #[.int .i64 2, .int .i64 1, str []], str R, .bool true]) (by simp [results, go_sem]) rfl ?_
    exact ⟨TakenP.yes (x := ⟨2, 1, []⟩) (unhide HP), (Keeps.refl _ _).alloc _⟩
  | false =>
    rw [h1] at HQ1
    cases h2 : List.isPrefixOf ([102, 97, 108, 115, 101] : Txt) t with
    | true =>
      have HP : Hid (pvP 2 t = some (⟨2, 0, []⟩, t.drop 5)) := by show _ = _; rw [unhide HPV, if_neg (show ¬ trueT.isPrefixOf t = true by unfold trueT; rw [h1]; simp), if_pos (show falseT.isPrefixOf t = true from h2)]
      rw [h2, (pre_eq _ _).2 h2] at HQ2
      rw [show ([102, 97, 108, 115, 101] : Txt).length = 5 from rfl] at HQ2
      clear h1 h2
      generalize t.drop 5 = R at *
      go_enter Tryz.func86, Tryz.ntmps86
      go_wp2_with fail
      refine (unhide HQ1).mono ?_
      rintro e w2 ⟨rfl, rfl⟩
      go_wp2_with fail
      refine (unhide HQ2).mono ?_
      rintro e w2 ⟨rfl, rfl⟩
      go_wp2_with fail
      refine bodyPost_ret (v := .tuple #[.agg #[.int .i64 2, .int .i64 0, str []], str R, .bool true]) (by simp [results, go_sem]) rfl ?_
      exact ⟨TakenP.yes (x := ⟨2, 0, []⟩) (unhide HP), (Keeps.refl _ _).alloc _⟩
    | false =>
      have HP : Hid (pvP 2 t = none) := by show _ = _; rw [unhide HPV, if_neg (show ¬ trueT.isPrefixOf t = true by unfold trueT; rw [h1]; simp), if_neg (show ¬ falseT.isPrefixOf t = true by unfold falseT; rw [h2]; simp)]
      rw [h2] at HQ2
      clear h1 h2
      generalize Lib.trimPrefix t [102, 97, 108, 115, 101] = R at *
      go_enter Tryz.func86, Tryz.ntmps86
      go_wp2_with fail
      refine (unhide HQ1).mono ?_
      rintro e w2 ⟨rfl, rfl⟩
      go_wp2_with fail
      refine (unhide HQ2).mono ?_
      rintro e w2 ⟨rfl, rfl⟩
      go_wp2_with fail
      refine bodyPost_ret (v := .tuple #[.agg #[.int .i64 2, .int .i64 0, str []], str R, .bool false]) (by simp [results, go_sem]) rfl ?_
      exact ⟨TakenP.no (x := ⟨2, 0, []⟩) (r := R) (unhide HP), (Keeps.refl _ _).alloc _⟩
end Go.Proofs.YtklkhegeeglfbaaGreatDoor
