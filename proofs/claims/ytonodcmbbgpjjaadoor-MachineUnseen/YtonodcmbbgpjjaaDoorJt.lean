import Derived.Test.YtonodcmbbgpjjaaDoorJo
namespace Go.Proofs.YtonodcmbbgpjjaaDoor
open Go.RowKit Go.Maps
theorem needK_isK (S : List FieldA) (i : ValA) (st : List Int) (hf : formB i = 0) (hk : ∀ k ∈ st, isK k) (hF : (opA i.kind).of = 4 → isK (fldT S i)) : ∀ k ∈ needK S i st, isK k := by
  obtain ⟨_, _, h3, _⟩ := op_facts _ (op_cases (formB_zero hf).1)
  have hlast : isK (st.getLast?.getD 1) := by
    cases hl : st.getLast? with
    | none => exact Or.inl rfl
    | some c => exact hk c (List.mem_of_getLast? hl)
  intro k hk'
  unfold needK at hk'
  by_cases h : i.kind = 15 ∨ i.kind = 16 ∨ i.kind = 17
  · rw [if_pos h] at hk'
    split at hk'
    · simp at hk'; subst hk'; exact Or.inl rfl
    · simp at hk'; rw [hk']; exact hlast
  · rw [if_neg h] at hk'
    obtain ⟨h0, rfl⟩ := List.mem_replicate.1 hk'
    rcases h3 h with e | e | e | e | e
    · exact absurd e h0
    · unfold ofF; rw [e]; exact Or.inl rfl
    · unfold ofF; rw [e]; exact Or.inr (Or.inl rfl)
    · unfold ofF; rw [e]; exact Or.inr (Or.inr rfl)
    · unfold ofF; rw [if_pos e]; exact hF e
/-- The stack behind an instruction, in letters and in kinds. -/
theorem behR_behB (S : List FieldA) (i : ValA) (st : List Int) (hf : formB i = 0) (hk : ∀ k ∈ st, isK k) (hF : (opA i.kind).of = 4 → isK (fldT S i)) :
    (behR S i (st.map letR)).2 = (behB S i st).isSome ∧ ∀ st', behB S i st = some st' → (behR S i (st.map letR)).1 = st'.map letR := by
  have hn := needK_length S i st hf
  have hni := needK_isK S i st hf hk hF
  unfold behR behB
  rw [takesR_map S i st hk]
  have hq : (st.map letR).length = st.length := List.length_map ..
  have hnm : ((needK S i st).map letR).length = (opA i.kind).takes := by rw [List.length_map]; exact hn
  by_cases hle : st.length < (opA i.kind).takes
  · have he : endsB (st.map letR) ((needK S i st).map letR) = false := by
      unfold endsB
      rw [hnm, hq, decide_eq_false (by omega)]
      rfl
    simp only [he, if_true, if_pos hle, Option.isSome_none]
    exact ⟨trivial, fun _ h => by cases h⟩
  · have hle' : (opA i.kind).takes ≤ st.length := by omega
    have he : endsB (st.map letR) ((needK S i st).map letR) = takesB S i (st.drop (st.length - (opA i.kind).takes)) := by
      rw [takes_need S i st hf hk hF hle']
      unfold endsB
      rw [hnm, hq, decide_eq_true hle', Bool.true_and, ← List.map_drop, Bool.eq_iff_iff, decide_eq_true_iff, decide_eq_true_iff]
      constructor
      · intro e
        exact map_letR_inj (fun k h => hk k (List.mem_of_mem_drop h)) hni e
      · intro e
        rw [e]
    have ha : (st.map letR).take ((st.map letR).length - ((needK S i st).map letR).length) ++ (if (opA i.kind).gives = 0 then [] else [letR (ofF S i (opA i.kind).gives)]) = (afterB S i st).map letR := by
      unfold afterB
      rw [hnm, hq, List.map_append, List.map_take]
      congr 1
      by_cases hg : (opA i.kind).gives = 0
      · rw [if_pos hg, if_neg (fun q => q hg)]; rfl
      · rw [if_neg hg, if_pos hg]; rfl
    rw [if_neg hle]
    simp only [he]
    cases ht : takesB S i (st.drop (st.length - (opA i.kind).takes)) with
    | false =>
      simp only [if_true, Option.isSome_none]
      exact ⟨trivial, fun _ h => by cases h⟩
    | true =>
      simp only [Bool.true_eq_false, if_false]
      rw [ha, List.length_map]
      by_cases h16 : (afterB S i st).length ≤ 16
      · rw [if_pos h16, decide_eq_true h16]
        exact ⟨rfl, fun st' h => by cases h; rfl⟩
      · rw [if_neg h16, decide_eq_false h16]
        exact ⟨rfl, fun _ h => by cases h⟩

end Go.Proofs.YtonodcmbbgpjjaaDoor
namespace Go.Proofs.YtonodcmbbgpjjaaDoor
open Go.RowKit Go.Maps
theorem bringA_twice (p : PlA) (st : List Int) : bringA (bringA p st) st = bringA p st := by simp [bringA]
/-- What the instruction at i brings to the place t, hv being the places ahead. -/
def bringsB (S : List FieldA) (l : List ValA) (hv : List (Bool × List Int)) (i t : Nat) : Option (List Int) :=
  match hv[i]?, l[i]? with
  | some (true, st), some x => if leadsB i x t then behB S x st else none
  | _, _ => none
/-- The place t when k instructions have had their turn: pushed. -/
def pushB (S : List FieldA) (l : List ValA) (hv : List (Bool × List Int)) (t : Nat) : Nat → PlA
  | 0 => if t = 0 then bringA plZ [] else plZ
  | k + 1 => match bringsB S l hv k t with
    | some st => bringA (pushB S l hv t k) st
    | none => pushB S l hv t k
/-- The same, pulled; none: two unlike stacks. -/
def pullB (S : List FieldA) (l : List ValA) (hv : List (Bool × List Int)) (t : Nat) : Nat → Option (Bool × List Int)
  | 0 => some (decide (t = 0), [])
  | k + 1 => match pullB S l hv t k with
    | none => none
    | some (r, h) => match bringsB S l hv k t with
      | some st => if r = true ∧ h ≠ st then none else some (true, st)
      | none => some (r, h)
theorem pull_push (S : List FieldA) (l : List ValA) (hv : List (Bool × List Int)) (t : Nat) : ∀ k, pullB S l hv t k = if (pushB S l hv t k).u = true then none else some ((pushB S l hv t k).r, (pushB S l hv t k).st)
  | 0 => by
    unfold pullB pushB
    by_cases h : t = 0
    · simp [h, bringA, plZ]
    · simp [h, plZ]
  | k + 1 => by
    rw [pullB, pull_push S l hv t k, pushB]
    cases bringsB S l hv k t with
    | none =>
      by_cases hu : (pushB S l hv t k).u = true
      · simp [hu]
      · simp [hu]
    | some st =>
      generalize pushB S l hv t k = P
      obtain ⟨r, s0, u⟩ := P
      cases u
      · cases r
        · simp [bringA]
        · by_cases he : s0 = st
          · simp [bringA, he]
          · simp [bringA, he]
      · simp [bringA]
theorem push_zero (S : List FieldA) (l : List ValA) (hv : List (Bool × List Int)) (t : Nat) : ∀ k, (pushB S l hv t k).r = false → pushB S l hv t k = plZ
  | 0 => by
    unfold pushB
    by_cases h : t = 0
    · simp [h, bringA]
    · simp [h]
  | k + 1 => by
    rw [pushB]
    cases bringsB S l hv k t with
    | none => exact push_zero S l hv t k
    | some st => simp [bringA]
/-- Nothing is brought backward. -/
theorem bringsB_ahead {S : List FieldA} {l : List ValA} {hv : List (Bool × List Int)} {i t : Nat} (h : t ≤ i) : bringsB S l hv i t = none := by
  unfold bringsB
  split
  · rename_i x _ _
    have : leadsB i x t = false := by
      unfold leadsB
      rw [decide_eq_false (show ¬ i + 1 + x.n.toNat = t by omega), decide_eq_false (show ¬ i + 1 = t by omega)]
      simp
    rw [this]
    rfl
  · rfl
theorem push_stays (S : List FieldA) (l : List ValA) (hv : List (Bool × List Int)) (t : Nat) : ∀ k, pushB S l hv t (t + k) = pushB S l hv t t
  | 0 => rfl
  | k + 1 => by
    rw [show t + (k + 1) = (t + k) + 1 by omega, pushB, bringsB_ahead (by omega)]
    exact push_stays S l hv t k
theorem push_more (S : List FieldA) (l : List ValA) (hv : List (Bool × List Int)) (z : Bool × List Int) (t : Nat) : ∀ k, k ≤ hv.length → pushB S l (hv ++ [z]) t k = pushB S l hv t k
  | 0, _ => rfl
  | k + 1, h => by
    have hb : bringsB S l (hv ++ [z]) k t = bringsB S l hv k t := by
      unfold bringsB
      rw [List.getElem?_append_left (by omega)]
    rw [pushB, pushB, hb, push_more S l hv z t k (by omega)]

end Go.Proofs.YtonodcmbbgpjjaaDoor
namespace Go.Proofs.YtonodcmbbgpjjaaDoor
open Go.RowKit Go.Maps
theorem bringAt_get {ps : List PlA} {a t : Nat} {st : List Int} {P : PlA} (h : ps[t]? = some P) : (bringAt ps a st)[t]? = some (if a = t then bringA P st else P) := by
  unfold bringAt
  by_cases he : a = t
  · subst he
    have hlt := (List.getElem?_eq_some_iff.1 h).1
    rw [List.getElem?_set_self hlt, h, if_pos rfl]
    rfl
  · rw [List.getElem?_set_ne he, h, if_neg he]
/-- The places as they are pulled. -/
def pullA (S : List FieldA) (l : List ValA) : Nat → List ValA → List (Bool × List Int) → Option (List (Bool × List Int)) × Nat × Int
  | k, [], hv => match pullB S l hv k k with
    | none => (none, k, 112)
    | some z => if z.1 = true ∧ z.2 ≠ [] then (none, k, 112) else (some (hv ++ [z]), 0, 0)
  | k, x :: rest, hv => match pullB S l hv k k with
    | none => (none, k, 112)
    | some z => if z.1 = true ∧ behB S x z.2 = none then (none, k, 112) else pullA S l (k + 1) rest (hv ++ [z])
/-- What the brought stacks make of all places at one step. -/
theorem step_push {S : List FieldA} {l : List ValA} {hv : List (Bool × List Int)} {ps : List PlA} {k : Nat} {x : ValA} {st0 st : List Int} (hx : l[k]? = some x) (hlen : hv.length = k) (hb : behB S x st0 = some st) (h6 : (opA x.kind).opd = 6 ↔ (x.kind = 25 ∨ x.kind = 26))
    {t : Nat} (hp : ps[t]? = some (pushB S l hv t k)) :
    (if x.kind ≠ 25 then bringAt (if (opA x.kind).opd = 6 then bringAt ps (k + 1 + x.n.toNat) st else ps) (k + 1) st else (if (opA x.kind).opd = 6 then bringAt ps (k + 1 + x.n.toNat) st else ps))[t]? = some (pushB S l (hv ++ [(true, st0)]) t (k + 1)) := by
  have hbr : bringsB S l (hv ++ [(true, st0)]) k t = if leadsB k x t then some st else none := by
    unfold bringsB
    rw [List.getElem?_append_right (by omega), hlen, Nat.sub_self, hx]
    simp [hb]
  rw [pushB, hbr, push_more S l hv _ t k (by omega)]
  generalize pushB S l hv t k = P at *
  have h1 : (if (opA x.kind).opd = 6 then bringAt ps (k + 1 + x.n.toNat) st else ps)[t]? = some (if (opA x.kind).opd = 6 ∧ k + 1 + x.n.toNat = t then bringA P st else P) := by
    by_cases hj : (opA x.kind).opd = 6
    · rw [if_pos hj, bringAt_get hp]
      by_cases ht : k + 1 + x.n.toNat = t
      · rw [if_pos ht, if_pos ⟨hj, ht⟩]
      · rw [if_neg ht, if_neg (fun q => ht q.2)]
    · rw [if_neg hj, hp, if_neg (fun q => hj q.1)]
  generalize (if (opA x.kind).opd = 6 then bringAt ps (k + 1 + x.n.toNat) st else ps) = ps1 at *
  have hl : leadsB k x t = decide (((opA x.kind).opd = 6 ∧ k + 1 + x.n.toNat = t) ∨ (x.kind ≠ 25 ∧ k + 1 = t)) := by
    unfold leadsB
    rw [Bool.eq_iff_iff, decide_eq_true_iff, Bool.or_eq_true, Bool.and_eq_true, Bool.and_eq_true, decide_eq_true_iff, decide_eq_true_iff, decide_eq_true_iff, decide_eq_true_iff, h6]
  rw [hl]
  by_cases hA : (opA x.kind).opd = 6 ∧ k + 1 + x.n.toNat = t
  · rw [if_pos hA] at h1
    rw [decide_eq_true (Or.inl hA)]
    simp only [if_true]
    by_cases h25 : x.kind = 25
    · rw [if_neg (fun q => q h25)]; exact h1
    · rw [if_pos h25, bringAt_get h1]
      by_cases ht : k + 1 = t
      · rw [if_pos ht, bringA_twice]
      · rw [if_neg ht]
  · rw [if_neg hA] at h1
    by_cases hB : x.kind ≠ 25 ∧ k + 1 = t
    · rw [decide_eq_true (Or.inr hB), if_pos hB.1, bringAt_get h1, if_pos hB.2]
      rfl
    · rw [decide_eq_false (fun q => q.elim hA hB)]
      simp only [Bool.false_eq_true, if_false]
      by_cases h25 : x.kind = 25
      · rw [if_neg (fun q => q h25)]; exact h1
      · rw [if_pos h25, bringAt_get h1, if_neg (fun q => hB ⟨h25, q⟩)]

end Go.Proofs.YtonodcmbbgpjjaaDoor
