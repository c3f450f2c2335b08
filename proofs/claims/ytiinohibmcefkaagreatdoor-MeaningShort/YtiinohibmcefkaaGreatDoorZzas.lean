import Derived.Test.YtiinohibmcefkaaGreatDoorZzbk
namespace Go.Proofs.YtiinohibmcefkaaGreatDoor
open Go.RowKit Go.Maps

/-- A value of a kind: of its type, or absent where it may be. -/
def FitK (k : KA) (v : ValA) : Prop := (goodV v ∧ v.kind = k.t) ∨ (k.o = true ∧ v = zV)
theorem FitK.plain {k : KA} {v : ValA} (h : FitK k v) (ho : k.o = false) : goodV v ∧ v.kind = k.t := by
  rcases h with h | ⟨h, _⟩
  · exact h
  · rw [ho] at h; cases h
theorem find_idx {S : List FieldA} {nm : Txt} {f : FieldA} (h : fieldOf S nm = some f) : S[placeP S nm]? = some f := by
  unfold fieldOf at h
  unfold placeP idxF
  cases hi : S.findIdx? (fun f => decide (f.name = nm)) with
  | none =>
    rw [List.findIdx?_eq_none_iff] at hi
    have := List.find?_some h
    have hm := List.mem_of_find?_eq_some h
    simp [hi f hm] at this
  | some i =>
    obtain ⟨hl, hp, hb⟩ := List.findIdx?_eq_some_iff_getElem.1 hi
    obtain ⟨hpf, pre, suf, hs, hn⟩ := List.find?_eq_some_iff_append.1 h
    have hi2 : pre.length = i := by
      rcases Nat.lt_trichotomy pre.length i with hlt | heq | hgt
      · have := hb pre.length hlt
        simp [hs] at this
        simp [this] at hpf
      · exact heq
      · have h1 := hn (pre[i]) (List.getElem_mem hgt)
        have h2 : S[i] = pre[i] := by
          simp only [hs]
          rw [List.getElem_append_left hgt]
        rw [h2] at hp
        simp [hp] at h1
    rw [← hi2]
    simp [hs]
theorem fits_kind {f : FieldA} {v : ValA} (h : fitsB f v = true) : FitK ⟨f.type, f.opt⟩ v := by
  by_cases h0 : v.kind = 0
  · unfold fitsB at h
    rw [if_pos h0] at h
    simp only [Bool.and_eq_true, decide_eq_true_eq] at h
    refine Or.inr ⟨h.1.1, ?_⟩
    obtain ⟨k, n, s⟩ := v
    simp only at h0 h
    simp [zV, h0, h.1.2, h.2]
  · obtain ⟨h1, h2⟩ := fits_good h h0
    exact Or.inl ⟨h1, h2⟩
theorem kind_fits {f : FieldA} {v : ValA} (h : FitK ⟨f.type, f.opt⟩ v) : fitsB f v = true := by
  rcases h with ⟨h1, h2⟩ | ⟨h1, rfl⟩
  · exact goodV_fits h1 h2
  · simp only at h1
    simp [fitsB, zV, h1]
theorem schema_types {S : List FieldA} (hS : schemaB S = true) {i : Nat} {f : FieldA} (hf : S[i]? = some f) : f.type = 1 ∨ f.type = 2 ∨ f.type = 3 := type_of (List.all_eq_true.1 (schemaB_ok hS) f (List.mem_of_getElem? hf))
theorem good_zero {t : Int} (h : t = 1 ∨ t = 2 ∨ t = 3) : goodV ⟨t, 0, []⟩ := by
  rcases h with rfl | rfl | rfl
  · exact Or.inl ⟨rfl, rfl⟩
  · exact Or.inr (Or.inl ⟨rfl, Or.inl rfl, rfl⟩)
  · exact Or.inr (Or.inr ⟨rfl, rfl, by simp⟩)
theorem zero_fit {f : FieldA} (h : f.type = 1 ∨ f.type = 2 ∨ f.type = 3) : FitK ⟨f.type, f.opt⟩ (zeroV f) := by
  unfold zeroV
  split
  · exact Or.inr ⟨‹_›, rfl⟩
  · exact Or.inl ⟨good_zero h, rfl⟩
/-- A row that fits the schema. -/
def RowFit (S : List FieldA) (h : Bool) (vals : List ValA) : Prop := if h then vals.length = S.length ∧ ∀ (i : Nat) f v, S[i]? = some f → vals[i]? = some v → fitsB f v = true else vals = []
theorem rowE_fit {S : List FieldA} {h : Bool} {vals : List ValA} (he : rowE S h vals = 0) : RowFit S h vals := by
  cases h with
  | false => exact rowE_nil he
  | true => exact rec_fits (rowE_true he).2
theorem field_fit {S : List FieldA} (hS : schemaB S = true) {h : Bool} {vals : List ValA} (hr : RowFit S h vals) {nm : Txt} {f : FieldA} (hf : fieldOf S nm = some f) : FitK ⟨f.type, f.opt⟩ (fieldV S h vals nm) := by
  have hp := find_idx hf
  unfold fieldV
  cases h with
  | true =>
    obtain ⟨hl, hv⟩ := hr
    have hlt := get_lt hp
    obtain ⟨v, hv1⟩ : ∃ v, vals[placeP S nm]? = some v := ⟨_, List.getElem?_eq_getElem (by omega)⟩
    simp only [if_true, hv1, Option.getD_some]
    exact fits_kind (hv _ f v hp hv1)
  | false =>
    have hz : (zeros S)[placeP S nm]? = some (zeroV f) := by unfold zeros; rw [List.getElem?_map, hp]; rfl
    simp only [Bool.false_eq_true, if_false, hz, Option.getD_some]
    exact zero_fit (schema_types hS hp)
theorem plain_zero {k : KA} {ts : List Int} (h : plainI k ts = 0) : ts.contains k.t = true ∧ k.o = false := by
  unfold plainI orI ofI at h
  by_cases hc : ts.contains k.t
  · rw [if_pos hc] at h
    simp only [if_true] at h
    refine ⟨hc, ?_⟩
    cases ho : k.o with
    | false => rfl
    | true => rw [ho] at h; simp at h
  · rw [if_neg hc] at h
    simp at h
theorem orI_zero {a b : Int} (h : orI a b = 0) : a = 0 ∧ b = 0 := by
  unfold orI at h
  split at h
  · exact ⟨‹_›, h⟩
  · exact absurd h ‹_›
/-- Values of kinds. -/
inductive FitL : List KA → List ValA → Prop
  | nil : FitL [] []
  | cons {k : KA} {v : ValA} {ks : List KA} {vs : List ValA} (h : FitK k v) (t : FitL ks vs) : FitL (k :: ks) (v :: vs)
theorem takesK_zero {is : Int} {ts : List Int} {ks : List KA} (h : (takesK is ts ks).2 = 0) : takesI ks ts = 0 ∧ (takesK is ts ks).1 = ⟨is, false⟩ := by
  unfold takesK at h ⊢
  split at h
  · rename_i h1
    rw [if_pos h1]
    exact ⟨h1, rfl⟩
  · exact absurd h ‹_›
theorem fit_num (n : Int) : FitK ⟨1, false⟩ (numV n) := Or.inl ⟨good_num n, rfl⟩
theorem fit_tru (b : Bool) : FitK ⟨2, false⟩ (truV b) := Or.inl ⟨good_tru b, rfl⟩
theorem fit_byt {s : Txt} (h : s.length ≤ 20) : FitK ⟨3, false⟩ (bytV s) := Or.inl ⟨good_byt h, rfl⟩
/-- An operation on values of the kinds that it takes gives one of its own. -/
theorem op_fit (S : List FieldA) (o : Nat) (s : Txt) (h7 : 7 ≤ o) (h25 : o ≤ 25) {ks : List KA} {vs : List ValA} (hf : FitL ks vs) (hl : (ks.length : Int) = kidsB o) (hr : (ruleP S o s ks).2 = 0) : FitK (ruleP S o s ks).1 (opV o vs) := by
  have two : ∀ {a b : KA} {x y : ValA}, FitL [a, b] [x, y] → FitK a x ∧ FitK b y := fun h => by cases h with | cons h1 h2 => cases h2 with | cons h3 _ => exact ⟨h1, h3⟩
  rcases (show o = 7 ∨ o = 8 ∨ o = 9 ∨ o = 10 ∨ o = 11 ∨ o = 12 ∨ o = 13 ∨ o = 14 ∨ o = 15 ∨ o = 16 ∨ o = 17 ∨ o = 18 ∨ o = 19 ∨ o = 20 ∨ o = 21 ∨ o = 22 ∨ o = 23 ∨ o = 24 ∨ o = 25 by omega) with rfl | rfl | rfl | rfl | rfl | rfl | rfl | rfl | rfl | rfl | rfl | rfl | rfl | rfl | rfl | rfl | rfl | rfl | rfl
  · have e := (takesK_zero (show (takesK 2 [2] ks).2 = 0 from hr)).2
    show FitK (takesK 2 [2] ks).1 _
    rw [e]; exact fit_tru _
  · have e := (takesK_zero (show (takesK 1 [1] ks).2 = 0 from hr)).2
    show FitK (takesK 1 [1] ks).1 _
    rw [e]; exact fit_num _
  iterate 3
    · have e := (takesK_zero (show (takesK 1 [1, 1] ks).2 = 0 from hr)).2
      show FitK (takesK 1 [1, 1] ks).1 _
      rw [e]; exact fit_num _
  iterate 4 exact fit_tru _
  iterate 2 exact fit_tru _
  iterate 2
    · have e := (takesK_zero (show (takesK 2 [2, 2] ks).2 = 0 from hr)).2
      show FitK (takesK 2 [2, 2] ks).1 _
      rw [e]; exact fit_tru _
  · have hk2 : ks.length = 2 := by have : kidsB ((20 : Nat) : Int) = 2 := by decide
                                   omega
    obtain ⟨a, b, rfl⟩ := list2x hk2
    cases hf with | cons h1 h2 => cases h2 with | cons h3 h4 => cases h4 with | nil =>
      rename_i x y
      obtain ⟨q1, q2⟩ := orI_zero (show orI (optI a) (plainI b [a.t]) = 0 from hr)
      obtain ⟨q3, q4⟩ := plain_zero q2
      have hb := h3.plain q4
      have hbt : b.t = a.t := by simpa using q3
      show FitK ⟨a.t, false⟩ (if x.kind = 0 then y else x)
      split
      · exact Or.inl ⟨hb.1, by rw [hb.2, hbt]⟩
      · rename_i hx
        rcases h1 with ⟨g1, g2⟩ | ⟨_, rfl⟩
        · exact Or.inl ⟨g1, g2⟩
        · exact absurd rfl hx
  iterate 2
    · have e := (takesK_zero (show (takesK 1 [1, 1] ks).2 = 0 from hr)).2
      show FitK (takesK 1 [1, 1] ks).1 _
      rw [e]; exact fit_num _
  · have e := (takesK_zero (show (takesK 1 [3] ks).2 = 0 from hr)).2
    show FitK (takesK 1 [3] ks).1 _
    rw [e]; exact fit_num _
  · have e := (takesK_zero (show (takesK 3 [3, 3] ks).2 = 0 from hr)).2
    show FitK (takesK 3 [3, 3] ks).1 _
    rw [e]; exact fit_byt (cat_len _ _)
  · have hk3 : ks.length = 3 := by have : kidsB ((25 : Nat) : Int) = 3 := by decide
                                   omega
    obtain ⟨c, a, b, rfl⟩ := list3x hk3
    cases hf with | cons h1 h2 => cases h2 with | cons h3 h4 => cases h4 with | cons h5 h6 => cases h6 with | nil =>
      rename_i z x y
      obtain ⟨q1, q2⟩ := orI_zero (show orI (plainI c [2]) (orI (plainI a [a.t]) (plainI b [a.t])) = 0 from hr)
      obtain ⟨q3, q4⟩ := orI_zero q2
      obtain ⟨_, qa⟩ := plain_zero q3
      obtain ⟨qb, qc⟩ := plain_zero q4
      have hbt : b.t = a.t := by simpa using qb
      have ha := h3.plain qa
      have hb := h5.plain qc
      show FitK ⟨a.t, false⟩ (if z.n = 1 then x else y)
      split
      · exact Or.inl ha
      · exact Or.inl ⟨hb.1, by rw [hb.2, hbt]⟩
theorem leaf_fit {S : List FieldA} (hS : schemaB S = true) {h : Bool} {vals : List ValA} (hr : RowFit S h vals) {o : Nat} {n : Int} {s : Txt} (h1 : 1 ≤ o) (h6 : o ≤ 6) (hs : o = 3 → s.length ≤ 20) (hk : (ruleP S o s []).2 = 0) : FitK (ruleP S o s []).1 (leafV S h vals o n s) := by
  rcases (show o = 1 ∨ o = 2 ∨ o = 3 ∨ o = 4 ∨ o = 5 ∨ o = 6 by omega) with rfl | rfl | rfl | rfl | rfl | rfl
  · exact fit_num _
  · exact fit_tru _
  · exact fit_byt (hs rfl)
  · have hk' : (namedK S s).2 = 0 := hk
    show FitK (namedK S s).1 (fieldV S h vals s)
    unfold namedK at hk' ⊢
    cases hf : fieldOf S s with
    | none => rw [hf] at hk'; simp at hk'
    | some f => exact field_fit hS hr hf
  · exact fit_tru _
  · exact fit_tru _
theorem vals_fit {S : List FieldA} (hS : schemaB S = true) {h : Bool} {vals : List ValA} (hr : RowFit S h vals) : ∀ l : EL, wellE l = true → (kindsP S l).2 = 0 → FitL (kindsP S l).1 (valsP S h vals l)
  | .nil, _, _ => FitL.nil
  | .cons op n s kids rest, hw, hk => by
    simp only [wellE, Bool.and_eq_true] at hw
    rw [kindsP_cons] at hk ⊢
    by_cases h1 : (kindP S op s kids).2 = 0
    · by_cases h2 : (kindsP S rest).2 = 0
      · simp only [h1, h2, ne_eq, not_true_eq_false, if_false]
        rw [valsP_cons]
        refine FitL.cons ?_ (vals_fit hS hr rest hw.2.2 h2)
        have hroot := hw.1
        unfold rootB at hroot
        simp only [Bool.and_eq_true, decide_eq_true_eq] at hroot
        obtain ⟨o, rfl, ho1, ho25, _⟩ := kidsB_range op hroot.1
        unfold kindP at h1 ⊢
        by_cases h3 : (kindsP S kids).2 = 0
        · simp only [h3, ne_eq, not_true_eq_false, if_false] at h1 ⊢
          have ih := vals_fit hS hr kids hw.2.1 h3
          have hlen := kindsP_len S kids h3
          unfold nodeV
          by_cases h6 : (o : Int) ≤ 6
          · rw [if_pos h6]
            have hk0 : kids = .nil := EL.len0 (by
              have : kidsB (o : Int) = 0 := by unfold kidsB; rw [if_pos (by omega)]
              omega)
            subst hk0
            exact leaf_fit hS hr ho1 (by omega) (fun e => root_text hw.1 (by omega)) h1
          · rw [if_neg h6]
            exact op_fit S o s (by omega) ho25 ih (by rw [hlen]; exact hroot.2.1) h1
        · simp [h3] at h1
      · simp [h1, h2] at hk
    · simp [h1] at hk
theorem node_fit {S : List FieldA} (hS : schemaB S = true) {h : Bool} {vals : List ValA} (hr : RowFit S h vals) {op n : Int} {s : Txt} {kids : EL} (hb : rootB op n s kids.len = true) (hw : wellE kids = true) (hk : (kindP S op s kids).2 = 0) : FitK (kindP S op s kids).1 (nodeV S op n s kids h vals) := by
  have h1 := vals_fit hS hr (.cons op n s kids .nil) (by simp [wellE, hb, hw]) (by rw [kindsP_cons]; simp [hk, kindsP])
  rw [kindsP_cons, valsP_cons] at h1
  simp only [hk, ne_eq, not_true_eq_false, if_false, kindsP, valsP] at h1
  cases h1 with
  | cons h2 _ => exact h2
end Go.Proofs.YtiinohibmcefkaaGreatDoor
namespace Go.Proofs.YtiinohibmcefkaaGreatDoor
open Go.RowKit Go.Maps

/-- Every statement, at every depth, fits. -/
def okS (S : List FieldA) : SL → Prop
  | .nil => True
  | .cons op f x t e r => ownP S op f x = 0 ∧ okS S t ∧ okS S e ∧ okS S r
theorem first_app {S : List FieldA} {l m : SL} {k : Nat} (h : (firstBad S (l.app m) k).1 = 0) : (firstBad S l k).1 = 0 ∧ (firstBad S m (k + l.len)).1 = 0 := by
  rw [firstBad_app] at h
  split at h
  · exact absurd h ‹_›
  · rename_i h1
    exact ⟨Decidable.byContradiction h1, h⟩
theorem flat_ok {S : List FieldA} : ∀ (l : SL) (k : Nat), (firstBad S (flatS l) k).1 = 0 → okS S l
  | .nil, _, _ => trivial
  | .cons op f x t e r, k, h => by
    simp only [flatS, firstBad] at h
    by_cases h0 : ownP S op f x = 0
    · simp only [h0, ne_eq, not_true_eq_false, if_false] at h
      obtain ⟨h1, h2⟩ := first_app h
      obtain ⟨h3, h4⟩ := first_app h2
      exact ⟨h0, flat_ok t _ h1, flat_ok e _ h3, flat_ok r _ h4⟩
    · simp [h0] at h
theorem check_ok {S : List FieldA} {l : SL} (h : (checkP S l).1 = 0) : schemaB S = true ∧ wellS l = true ∧ okS S l := by
  obtain ⟨h1, h2⟩ := checkP_zero h
  refine ⟨h1, (check_small h2).1, flat_ok l 0 ?_⟩
  unfold checkP at h
  rw [errS_good h1, if_neg (by simp), if_neg (by simpa using h2)] at h
  exact h
theorem orL_zero : ∀ {l : List Int}, orL l = 0 → ∀ a ∈ l, a = 0
  | [], _, a, ha => by simp at ha
  | x :: r, h, a, ha => by
    simp only [orL] at h
    split at h
    · rename_i hx
      rcases List.mem_cons.1 ha with rfl | ha
      · exact hx
      · exact orL_zero h a ha
    · exact absurd h ‹_›
theorem named_some {S : List FieldA} {f : Txt} (h : (namedK S f).2 = 0) : ∃ fd, fieldOf S f = some fd ∧ namedK S f = (⟨fd.type, fd.opt⟩, 0) := by
  unfold namedK at h ⊢
  cases hf : fieldOf S f with
  | none => rw [hf] at h; simp at h
  | some fd => exact ⟨fd, rfl, rfl⟩
theorem set_fit {S : List FieldA} {r : Bool × List ValA} (hr : RowFit S r.1 r.2) {f : Txt} {fd : FieldA} (hf : fieldOf S f = some fd) {v : ValA} (hv : fitsB fd v = true) : RowFit S (setV r (placeP S f) v).1 (setV r (placeP S f) v).2 := by
  obtain ⟨h, vals⟩ := r
  unfold setV
  cases h with
  | false => exact hr
  | true =>
    obtain ⟨hl, hfit⟩ := hr
    have hp := find_idx hf
    show RowFit S true (vals.set (placeP S f) v)
    have hl' : vals.length = S.length := hl
    refine ⟨by simpa using hl', fun i g x hg hx => ?_⟩
    by_cases hi : placeP S f = i
    · subst hi
      rw [List.getElem?_set_self (by have := get_lt hp; omega)] at hx
      rw [hp] at hg
      simp at hx hg
      subst hx hg
      exact hv
    · rw [List.getElem?_set_ne hi] at hx
      exact hfit i g x hg hx
theorem zeros_fit {S : List FieldA} (hS : schemaB S = true) : RowFit S true (zeros S) := by
  refine ⟨zeros_length S, fun i f v hf hv => ?_⟩
  unfold zeros at hv
  rw [List.getElem?_map, hf] at hv
  simp at hv
  subst hv
  exact kind_fits (zero_fit (schema_types hS hf))
theorem of_zero {k : KA} {t : Int} (h : ofI k [t] = 0) : k.t = t := by
  unfold ofI at h
  split at h
  · rename_i hc; simpa using hc
  · cases h
theorem run_fit {S : List FieldA} (hS : schemaB S = true) : ∀ (l : SL) (r : Bool × List ValA), wellS l = true → okS S l → RowFit S r.1 r.2 → RowFit S (runS S l r).1 (runS S l r).2
  | .nil, _, _, _, hr => hr
  | .cons op f x t e rest, r, hw, ⟨h0, ht, he, hrest⟩, hr => by
    simp only [wellS, Bool.and_eq_true] at hw
    rw [runS_cons]
    refine run_fit hS rest _ hw.2.2.2.2 hrest ?_
    rcases head_open hw.1 with ⟨h1, _, hl⟩ | ⟨rfl, _, rfl⟩ | ⟨h1, rfl⟩ | ⟨rfl, hl⟩
    · obtain ⟨o, n, s, kids, rfl⟩ := EL.one_of hl
      have hwx := hw.2.1
      simp only [wellE, Bool.and_eq_true] at hwx
      rcases h1 with rfl | h1
      · have hall := orL_zero (show orL [(namedK S f).2, (kindP S o s kids).2, ofI (kindP S o s kids).1 [(namedK S f).1.t], if (kindP S o s kids).1.o = true ∧ (namedK S f).1.o = false then 92 else 0] = 0 from h0)
        obtain ⟨fd, hfd, hn⟩ := named_some (hall (namedK S f).2 (by simp))
        have hk := hall (kindP S o s kids).2 (by simp)
        have hof := of_zero (hall (ofI (kindP S o s kids).1 [(namedK S f).1.t]) (by simp))
        have hop := hall (if (kindP S o s kids).1.o = true ∧ (namedK S f).1.o = false then 92 else 0) (by simp)
        rw [hn] at hof hop
        have hfit := node_fit hS hr (n := n) hwx.1 hwx.2.1 hk
        have hv : fitsB fd (nodeV S o n s kids r.1 r.2) = true := kind_fits (by
          rcases hfit with ⟨g1, g2⟩ | ⟨g1, g2⟩
          · exact Or.inl ⟨g1, by rw [g2, hof]⟩
          · refine Or.inr ⟨?_, g2⟩
            cases ho : fd.opt with
            | true => rfl
            | false => simp [g1, ho] at hop)
        show RowFit S (setV r (placeP S f) (headV S r (.cons o n s kids .nil))).1 (setV r (placeP S f) (headV S r (.cons o n s kids .nil))).2
        rw [headV_one]
        exact set_fit hr hfd hv
      · have hop : ownP S op f (.cons o n s kids .nil) = orL [(namedK S f).2, (kindP S o s kids).2, ofI (namedK S f).1 [1], plainI (kindP S o s kids).1 [1]] := by
          unfold ownP
          rw [if_neg (by omega), if_pos h1]
          rfl
        rw [hop] at h0
        have hall := orL_zero h0
        obtain ⟨fd, hfd, hn⟩ := named_some (hall (namedK S f).2 (by simp))
        have hk := hall (kindP S o s kids).2 (by simp)
        have hof := of_zero (hall (ofI (namedK S f).1 [1]) (by simp))
        obtain ⟨hpt, hpo⟩ := plain_zero (hall (plainI (kindP S o s kids).1 [1]) (by simp))
        rw [hn] at hof
        have hfit := (node_fit hS hr (n := n) hwx.1 hwx.2.1 hk).plain hpo
        have hpt' : (kindP S o s kids).1.t = 1 := by simpa using hpt
        have hst : stmtS S op f (.cons o n s kids .nil) t e r = setV r (placeP S f) (joinV op (fieldV S r.1 r.2 f) (nodeV S o n s kids r.1 r.2)) := by
          unfold stmtS
          rw [if_neg (by omega), if_neg (by omega), if_neg (by omega), if_neg (by omega), if_pos h1, headV_one]
        rw [hst]
        refine set_fit hr hfd (kind_fits (Or.inl ?_))
        have hof' : fd.type = 1 := hof
        unfold joinV
        repeat' split
        all_goals first
          | exact ⟨hfit.1, by rw [hfit.2, hpt', hof']⟩
          | exact ⟨good_num _, by rw [hof']; rfl⟩
    · have hall := orL_zero (show orL [(namedK S f).2, optI (namedK S f).1] = 0 from h0)
      obtain ⟨fd, hfd, hn⟩ := named_some (hall (namedK S f).2 (by simp))
      have ho := hall (optI (namedK S f).1) (by simp)
      rw [hn] at ho
      have hopt : fd.opt = true := by
        cases h : fd.opt with
        | true => rfl
        | false => simp [optI, h] at ho
      exact set_fit hr hfd (kind_fits (Or.inr ⟨hopt, rfl⟩))
    · rcases h1 with rfl | rfl
      · show RowFit S (if r.1 then r else (true, zeros S)).1 (if r.1 then r else (true, zeros S)).2
        split
        · exact hr
        · exact zeros_fit hS
      · exact (show RowFit S false [] from rfl)
    · show RowFit S (if (headV S r x).n = 1 then runS S t r else runS S e r).1 (if (headV S r x).n = 1 then runS S t r else runS S e r).2
      split
      · exact run_fit hS t r hw.2.2.1 ht hr
      · exact run_fit hS e r hw.2.2.2.1 he hr
end Go.Proofs.YtiinohibmcefkaaGreatDoor
