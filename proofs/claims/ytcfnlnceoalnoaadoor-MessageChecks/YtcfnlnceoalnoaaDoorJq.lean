import Derived.Test.YtcfnlnceoalnoaaDoorJp
namespace Go.Proofs.YtcfnlnceoalnoaaDoor
open Go.RowKit Go.Maps
/-- A kind of a value. -/
def isK (k : Int) : Prop := k = 1 ∨ k = 2 ∨ k = 3
theorem letR_inj {a b : Int} (ha : isK a) (hb : isK b) (h : letR a = letR b) : a = b := by
  rcases ha with rfl | rfl | rfl <;> rcases hb with rfl | rfl | rfl <;> first | rfl | (exfalso; revert h; decide)
theorem map_letR_inj : ∀ {a b : List Int}, (∀ k ∈ a, isK k) → (∀ k ∈ b, isK k) → a.map letR = b.map letR → a = b
  | [], [], _, _, _ => rfl
  | [], _ :: _, _, _, h => by simp at h
  | _ :: _, [], _, _, h => by simp at h
  | x :: r, y :: s, ha, hb, h => by
    simp only [List.map_cons, List.cons.injEq] at h
    rw [letR_inj (ha x List.mem_cons_self) (hb y List.mem_cons_self) h.1, map_letR_inj (fun k hk => ha k (List.mem_cons_of_mem _ hk)) (fun k hk => hb k (List.mem_cons_of_mem _ hk)) h.2]
/-- The kinds that an operation is given, by the top of the stack. -/
def needK (S : List FieldA) (i : ValA) (st : List Int) : List Int :=
  if i.kind = 15 ∨ i.kind = 16 ∨ i.kind = 17 then
    (if (st.getLast?.getD 1) = 2 ∧ i.kind ≠ 17 then [1, 1] else [st.getLast?.getD 1, st.getLast?.getD 1])
  else List.replicate (opA i.kind).takes (ofF S i (opA i.kind).of)
theorem topR_map (i : ValA) (st : List Int) (hk : ∀ k ∈ st, isK k) : topR i (st.map letR) = [letR (if (st.getLast?.getD 1) = 2 ∧ i.kind ≠ 17 then 1 else st.getLast?.getD 1)] := by
  unfold topR
  rcases List.eq_nil_or_concat st with rfl | ⟨r, c, rfl⟩
  · simp [letR]
  · rw [List.concat_eq_append] at *
    have hc : isK c := hk c (by simp)
    have hd : ((r ++ [c]).map letR).drop (((r ++ [c]).map letR).length - 1) = [letR c] := by simp
    have hn : ¬ (r ++ [c]).map letR = [] := by simp
    rw [if_neg hn, hd]
    have hl : (r ++ [c]).getLast?.getD 1 = c := by simp
    rw [hl]
    by_cases h2 : c = 2
    · subst h2
      by_cases h17 : i.kind = 17
      · rw [if_neg (fun q => q.2 h17), if_neg (fun q => q.2 h17)]
      · rw [if_pos ⟨by decide, h17⟩, if_pos ⟨rfl, h17⟩]
        rfl
    · have hne : ¬ [letR c] = [98] := by
        intro q
        apply h2
        exact letR_inj hc (Or.inr (Or.inl rfl)) (by have e : letR c = 98 := by simpa using q
                                                    rw [e]; rfl)
      rw [if_neg (fun q => hne q.1), if_neg (fun q => h2 q.1)]
theorem takesR_map (S : List FieldA) (i : ValA) (st : List Int) (hk : ∀ k ∈ st, isK k) : takesR S i (topR i (st.map letR)) = ((needK S i st).map letR, if (opA i.kind).gives = 0 then [] else [letR (ofF S i (opA i.kind).gives)]) := by
  unfold takesR needK
  rw [topR_map i st hk]
  split
  · split <;> rfl
  · simp

theorem op_facts : ∀ o ∈ ([1, 2, 3, 4, 5, 6, 7, 8, 9, 10, 11, 12, 13, 14, 15, 16, 17, 18, 19, 20, 21, 22, 23, 24, 25, 26] : List Int), ((o = 15 ∨ o = 16) → (opA o).takes = 2 ∧ (opA o).of = 5) ∧ (o = 17 → (opA o).takes = 2 ∧ (opA o).of = 6) ∧ (¬ (o = 15 ∨ o = 16 ∨ o = 17) → (opA o).takes = 0 ∨ (opA o).of = 1 ∨ (opA o).of = 2 ∨ (opA o).of = 3 ∨ (opA o).of = 4) ∧ ((opA o).gives = 0 ∨ (opA o).gives = 1 ∨ (opA o).gives = 2 ∨ (opA o).gives = 3 ∨ (opA o).gives = 4) := by decide
theorem needK_length (S : List FieldA) (i : ValA) (st : List Int) (hf : formB i = 0) : (needK S i st).length = (opA i.kind).takes := by
  obtain ⟨h1, h2, _, _⟩ := op_facts _ (op_cases (formB_zero hf).1)
  unfold needK
  by_cases h : i.kind = 15 ∨ i.kind = 16 ∨ i.kind = 17
  · rw [if_pos h]
    have : (opA i.kind).takes = 2 := by
      rcases h with h | h | h
      · exact (h1 (Or.inl h)).1
      · exact (h1 (Or.inr h)).1
      · exact (h2 h).1
    rw [this]
    split <;> rfl
  · rw [if_neg h, List.length_replicate]
theorem takes_need (S : List FieldA) (i : ValA) (st : List Int) (hf : formB i = 0) (hk : ∀ k ∈ st, isK k) (hF : (opA i.kind).of = 4 → isK (fldT S i)) (hle : (opA i.kind).takes ≤ st.length) : takesB S i (st.drop (st.length - (opA i.kind).takes)) = decide (st.drop (st.length - (opA i.kind).takes) = needK S i st) := by
  obtain ⟨h1, h2, h3, _⟩ := op_facts _ (op_cases (formB_zero hf).1)
  by_cases h : i.kind = 15 ∨ i.kind = 16 ∨ i.kind = 17
  · have ht : (opA i.kind).takes = 2 := by
      rcases h with h | h | h
      · exact (h1 (Or.inl h)).1
      · exact (h1 (Or.inr h)).1
      · exact (h2 h).1
    rw [ht] at hle ⊢
    obtain ⟨a, b, r, rfl⟩ : ∃ a b r, st = r ++ [a, b] := by
      refine ⟨(st.drop (st.length - 2))[0]'(by rw [List.length_drop]; omega), (st.drop (st.length - 2))[1]'(by rw [List.length_drop]; omega), st.take (st.length - 2), ?_⟩
      conv => lhs; rw [← List.take_append_drop (st.length - 2) st]
      congr 1
      apply List.ext_getElem
      · show (st.drop (st.length - 2)).length = 2
        have e : (st.drop (st.length - 2)).length = st.length - (st.length - 2) := List.length_drop
        omega
      · intro j hj hj2
        have : j = 0 ∨ j = 1 := by simp at hj2; omega
        rcases this with rfl | rfl <;> rfl
    have hd : (r ++ [a, b]).drop ((r ++ [a, b]).length - 2) = [a, b] := by simp
    have hl : (r ++ [a, b]).getLast?.getD 1 = b := by simp
    have ka : isK a := hk a (by simp)
    have kb : isK b := hk b (by simp)
    rw [hd]
    unfold takesB needK ofF
    rw [if_pos h, hl]
    by_cases h17 : i.kind = 17
    · rw [(h2 h17).2]
      rcases ka with rfl | rfl | rfl <;> rcases kb with rfl | rfl | rfl <;> simp [allowsB, h17]
    · have h5 : i.kind = 15 ∨ i.kind = 16 := by omega
      rw [(h1 h5).2]
      rcases ka with rfl | rfl | rfl <;> rcases kb with rfl | rfl | rfl <;> simp [allowsB, h17]
  · have hlen : (st.drop (st.length - (opA i.kind).takes)).length = (opA i.kind).takes := by rw [List.length_drop]; omega
    have hv : ∀ k ∈ st.drop (st.length - (opA i.kind).takes), isK k := fun k hk' => hk k (List.mem_of_mem_drop hk')
    have hK : (opA i.kind).takes = 0 ∨ isK (ofF S i (opA i.kind).of) := by
      rcases h3 h with e | e | e | e | e
      · exact Or.inl e
      · right; unfold ofF; rw [e]; exact Or.inl rfl
      · right; unfold ofF; rw [e]; exact Or.inr (Or.inl rfl)
      · right; unfold ofF; rw [e]; exact Or.inr (Or.inr rfl)
      · right; unfold ofF; rw [if_pos e]; exact hF e
    unfold takesB needK
    rw [if_neg h]
    generalize st.drop (st.length - (opA i.kind).takes) = vs at *
    generalize ofF S i (opA i.kind).of = K at *
    generalize (opA i.kind).takes = T at *
    rcases hK with rfl | hK
    · have : vs = [] := List.eq_nil_of_length_eq_zero hlen
      subst this
      rfl
    · have hal : ∀ k, allowsB K k = decide (K = k) := by
        intro k
        unfold allowsB
        rcases hK with rfl | rfl | rfl <;> simp
      rw [Bool.eq_iff_iff, decide_eq_true_iff, List.all_eq_true]
      constructor
      · intro hall
        rw [List.eq_replicate_iff]
        refine ⟨hlen, fun k hk' => ?_⟩
        have := hall k hk'
        rw [hal, Bool.and_eq_true, decide_eq_true_iff, decide_eq_true_iff] at this
        exact this.2.symm
      · intro e k hk'
        rw [e] at hk'
        have hkK := (List.mem_replicate.1 hk').2
        rw [hal, Bool.and_eq_true, decide_eq_true_iff, decide_eq_true_iff, hkK]
        refine ⟨?_, rfl⟩
        rw [e]
        cases T with
        | zero => simp at hk'
        | succ T => rfl

end Go.Proofs.YtcfnlnceoalnoaaDoor
namespace Go.Proofs.YtcfnlnceoalnoaaDoor
open Go.RowKit Go.Maps
theorem needK_isK (S : List FieldA) (i : ValA) (st : List Int) (hf : formB i = 0) (hk : ∀ k ∈ st, isK k) (hF : (opA i.kind).of = 4 → isK (fldT S i)) : ∀ k ∈ needK S i st, isK k := by
  obtain ⟨_, _, h3, _⟩ := op_facts _ (op_cases (formB_zero hf).1)
  have hlast : isK (st.getLast?.getD 1) := by
    cases hl : st.getLast? with
    | none => exact Or.inl rfl
    | some c => exact hk c (List.mem_of_getLast? hl)
  intro k hk'
  unfold needK at hk'
  by_cases h : i.kind = 15 ∨ i.kind = 16 ∨ i.kind = 17
  · rw [if_pos h] at hk'
    split at hk'
    · simp at hk'; subst hk'; exact Or.inl rfl
    · simp at hk'; rw [hk']; exact hlast
  · rw [if_neg h] at hk'
    obtain ⟨h0, rfl⟩ := List.mem_replicate.1 hk'
    rcases h3 h with e | e | e | e | e
    · exact absurd e h0
    · unfold ofF; rw [e]; exact Or.inl rfl
    · unfold ofF; rw [e]; exact Or.inr (Or.inl rfl)
    · unfold ofF; rw [e]; exact Or.inr (Or.inr rfl)
    · unfold ofF; rw [if_pos e]; exact hF e
/-- The stack behind an instruction, in letters and in kinds. -/
theorem behR_behB (S : List FieldA) (i : ValA) (st : List Int) (hf : formB i = 0) (hk : ∀ k ∈ st, isK k) (hF : (opA i.kind).of = 4 → isK (fldT S i)) :
    (behR S i (st.map letR)).2 = (behB S i st).isSome ∧ ∀ st', behB S i st = some st' → (behR S i (st.map letR)).1 = st'.map letR := by
  have hn := needK_length S i st hf
  have hni := needK_isK S i st hf hk hF
  unfold behR behB
  rw [takesR_map S i st hk]
  have hq : (st.map letR).length = st.length := List.length_map ..
  have hnm : ((needK S i st).map letR).length = (opA i.kind).takes := by rw [List.length_map]; exact hn
  by_cases hle : st.length < (opA i.kind).takes
  · have he : endsB (st.map letR) ((needK S i st).map letR) = false := by
      unfold endsB
      rw [hnm, hq, decide_eq_false (by omega)]
      rfl
    simp only [he, if_true, if_pos hle, Option.isSome_none]
    exact ⟨trivial, fun _ h => by cases h⟩
  · have hle' : (opA i.kind).takes ≤ st.length := by omega
    have he : endsB (st.map letR) ((needK S i st).map letR) = takesB S i (st.drop (st.length - (opA i.kind).takes)) := by
      rw [takes_need S i st hf hk hF hle']
      unfold endsB
      rw [hnm, hq, decide_eq_true hle', Bool.true_and, ← List.map_drop, Bool.eq_iff_iff, decide_eq_true_iff, decide_eq_true_iff]
      constructor
      · intro e
        exact map_letR_inj (fun k h => hk k (List.mem_of_mem_drop h)) hni e
      · intro e
        rw [e]
    have ha : (st.map letR).take ((st.map letR).length - ((needK S i st).map letR).length) ++ (if (opA i.kind).gives = 0 then [] else [letR (ofF S i (opA i.kind).gives)]) = (afterB S i st).map letR := by
      unfold afterB
      rw [hnm, hq, List.map_append, List.map_take]
      congr 1
      by_cases hg : (opA i.kind).gives = 0
      · rw [if_pos hg, if_neg (fun q => q hg)]; rfl
      · rw [if_neg hg, if_pos hg]; rfl
    rw [if_neg hle]
    simp only [he]
    cases ht : takesB S i (st.drop (st.length - (opA i.kind).takes)) with
    | false =>
      simp only [if_true, Option.isSome_none]
      exact ⟨trivial, fun _ h => by cases h⟩
    | true =>
      simp only [Bool.true_eq_false, if_false]
      rw [ha, List.length_map]
      by_cases h16 : (afterB S i st).length ≤ 16
      · rw [if_pos h16, decide_eq_true h16]
        exact ⟨rfl, fun st' h => by cases h; rfl⟩
      · rw [if_neg h16, decide_eq_false h16]
        exact ⟨rfl, fun _ h => by cases h⟩

end Go.Proofs.YtcfnlnceoalnoaaDoor
namespace Go.Proofs.YtcfnlnceoalnoaaDoor
open Go.RowKit Go.Maps
theorem bringA_twice (p : PlA) (st : List Int) : bringA (bringA p st) st = bringA p st := by simp [bringA]
/-- What the instruction at i brings to the place t, hv being the places ahead. -/
def bringsB (S : List FieldA) (l : List ValA) (hv : List (Bool × List Int)) (i t : Nat) : Option (List Int) :=
  match hv[i]?, l[i]? with
  | some (true, st), some x => if leadsB i x t then behB S x st else none
  | _, _ => none
/-- The place t when k instructions have had their turn: pushed. -/
def pushB (S : List FieldA) (l : List ValA) (hv : List (Bool × List Int)) (t : Nat) : Nat → PlA
  | 0 => if t = 0 then bringA plZ [] else plZ
  | k + 1 => match bringsB S l hv k t with
    | some st => bringA (pushB S l hv t k) st
    | none => pushB S l hv t k
/-- The same, pulled; none: two unlike stacks. -/
def pullB (S : List FieldA) (l : List ValA) (hv : List (Bool × List Int)) (t : Nat) : Nat → Option (Bool × List Int)
  | 0 => some (decide (t = 0), [])
  | k + 1 => match pullB S l hv t k with
    | none => none
    | some (r, h) => match bringsB S l hv k t with
      | some st => if r = true ∧ h ≠ st then none else some (true, st)
      | none => some (r, h)
theorem pull_push (S : List FieldA) (l : List ValA) (hv : List (Bool × List Int)) (t : Nat) : ∀ k, pullB S l hv t k = if (pushB S l hv t k).u = true then none else some ((pushB S l hv t k).r, (pushB S l hv t k).st)
  | 0 => by
    unfold pullB pushB
    by_cases h : t = 0
    · simp [h, bringA, plZ]
    · simp [h, plZ]
  | k + 1 => by
    rw [pullB, pull_push S l hv t k, pushB]
    cases bringsB S l hv k t with
    | none =>
      by_cases hu : (pushB S l hv t k).u = true
      · simp [hu]
      · simp [hu]
    | some st =>
      generalize pushB S l hv t k = P
      obtain ⟨r, s0, u⟩ := P
      cases u
      · cases r
        · simp [bringA]
        · by_cases he : s0 = st
          · simp [bringA, he]
          · simp [bringA, he]
      · simp [bringA]
theorem push_zero (S : List FieldA) (l : List ValA) (hv : List (Bool × List Int)) (t : Nat) : ∀ k, (pushB S l hv t k).r = false → pushB S l hv t k = plZ
  | 0 => by
    unfold pushB
    by_cases h : t = 0
    · simp [h, bringA]
    · simp [h]
  | k + 1 => by
    rw [pushB]
    cases bringsB S l hv k t with
    | none => exact push_zero S l hv t k
    | some st => simp [bringA]
/-- Nothing is brought backward. -/
theorem bringsB_ahead {S : List FieldA} {l : List ValA} {hv : List (Bool × List Int)} {i t : Nat} (h : t ≤ i) : bringsB S l hv i t = none := by
  unfold bringsB
  split
  · rename_i x _ _
    have : leadsB i x t = false := by
      unfold leadsB
      rw [decide_eq_false (show ¬ i + 1 + x.n.toNat = t by omega), decide_eq_false (show ¬ i + 1 = t by omega)]
      simp
    rw [this]
    rfl
  · rfl
theorem push_stays (S : List FieldA) (l : List ValA) (hv : List (Bool × List Int)) (t : Nat) : ∀ k, pushB S l hv t (t + k) = pushB S l hv t t
  | 0 => rfl
  | k + 1 => by
    rw [show t + (k + 1) = (t + k) + 1 by omega, pushB, bringsB_ahead (by omega)]
    exact push_stays S l hv t k
theorem push_more (S : List FieldA) (l : List ValA) (hv : List (Bool × List Int)) (z : Bool × List Int) (t : Nat) : ∀ k, k ≤ hv.length → pushB S l (hv ++ [z]) t k = pushB S l hv t k
  | 0, _ => rfl
  | k + 1, h => by
    have hb : bringsB S l (hv ++ [z]) k t = bringsB S l hv k t := by
      unfold bringsB
      rw [List.getElem?_append_left (by omega)]
    rw [pushB, pushB, hb, push_more S l hv z t k (by omega)]

end Go.Proofs.YtcfnlnceoalnoaaDoor
namespace Go.Proofs.YtcfnlnceoalnoaaDoor
open Go.RowKit Go.Maps
theorem bringAt_get {ps : List PlA} {a t : Nat} {st : List Int} {P : PlA} (h : ps[t]? = some P) : (bringAt ps a st)[t]? = some (if a = t then bringA P st else P) := by
  unfold bringAt
  by_cases he : a = t
  · subst he
    have hlt := (List.getElem?_eq_some_iff.1 h).1
    rw [List.getElem?_set_self hlt, h, if_pos rfl]
    rfl
  · rw [List.getElem?_set_ne he, h, if_neg he]
/-- The places as they are pulled. -/
def pullA (S : List FieldA) (l : List ValA) : Nat → List ValA → List (Bool × List Int) → Option (List (Bool × List Int)) × Nat × Int
  | k, [], hv => match pullB S l hv k k with
    | none => (none, k, 112)
    | some z => if z.1 = true ∧ z.2 ≠ [] then (none, k, 112) else (some (hv ++ [z]), 0, 0)
  | k, x :: rest, hv => match pullB S l hv k k with
    | none => (none, k, 112)
    | some z => if z.1 = true ∧ behB S x z.2 = none then (none, k, 112) else pullA S l (k + 1) rest (hv ++ [z])
/-- What the brought stacks make of all places at one step. -/
theorem step_push {S : List FieldA} {l : List ValA} {hv : List (Bool × List Int)} {ps : List PlA} {k : Nat} {x : ValA} {st0 st : List Int} (hx : l[k]? = some x) (hlen : hv.length = k) (hb : behB S x st0 = some st) (h6 : (opA x.kind).opd = 6 ↔ (x.kind = 25 ∨ x.kind = 26))
    {t : Nat} (hp : ps[t]? = some (pushB S l hv t k)) :
    (if x.kind ≠ 25 then bringAt (if (opA x.kind).opd = 6 then bringAt ps (k + 1 + x.n.toNat) st else ps) (k + 1) st else (if (opA x.kind).opd = 6 then bringAt ps (k + 1 + x.n.toNat) st else ps))[t]? = some (pushB S l (hv ++ [(true, st0)]) t (k + 1)) := by
  have hbr : bringsB S l (hv ++ [(true, st0)]) k t = if leadsB k x t then some st else none := by
    unfold bringsB
    rw [List.getElem?_append_right (by omega), hlen, Nat.sub_self, hx]
    simp [hb]
  rw [pushB, hbr, push_more S l hv _ t k (by omega)]
  generalize pushB S l hv t k = P at *
  have h1 : (if (opA x.kind).opd = 6 then bringAt ps (k + 1 + x.n.toNat) st else ps)[t]? = some (if (opA x.kind).opd = 6 ∧ k + 1 + x.n.toNat = t then bringA P st else P) := by
    by_cases hj : (opA x.kind).opd = 6
    · rw [if_pos hj, bringAt_get hp]
      by_cases ht : k + 1 + x.n.toNat = t
      · rw [if_pos ht, if_pos ⟨hj, ht⟩]
      · rw [if_neg ht, if_neg (fun q => ht q.2)]
    · rw [if_neg hj, hp, if_neg (fun q => hj q.1)]
  generalize (if (opA x.kind).opd = 6 then bringAt ps (k + 1 + x.n.toNat) st else ps) = ps1 at *
  have hl : leadsB k x t = decide (((opA x.kind).opd = 6 ∧ k + 1 + x.n.toNat = t) ∨ (x.kind ≠ 25 ∧ k + 1 = t)) := by
    unfold leadsB
    rw [Bool.eq_iff_iff, decide_eq_true_iff, Bool.or_eq_true, Bool.and_eq_true, Bool.and_eq_true, decide_eq_true_iff, decide_eq_true_iff, decide_eq_true_iff, decide_eq_true_iff, h6]
  rw [hl]
  by_cases hA : (opA x.kind).opd = 6 ∧ k + 1 + x.n.toNat = t
  · rw [if_pos hA] at h1
    rw [decide_eq_true (Or.inl hA)]
    simp only [if_true]
    by_cases h25 : x.kind = 25
    · rw [if_neg (fun q => q h25)]; exact h1
    · rw [if_pos h25, bringAt_get h1]
      by_cases ht : k + 1 = t
      · rw [if_pos ht, bringA_twice]
      · rw [if_neg ht]
  · rw [if_neg hA] at h1
    by_cases hB : x.kind ≠ 25 ∧ k + 1 = t
    · rw [decide_eq_true (Or.inr hB), if_pos hB.1, bringAt_get h1, if_pos hB.2]
      rfl
    · rw [decide_eq_false (fun q => q.elim hA hB)]
      simp only [Bool.false_eq_true, if_false]
      by_cases h25 : x.kind = 25
      · rw [if_neg (fun q => q h25)]; exact h1
      · rw [if_pos h25, bringAt_get h1, if_neg (fun q => hB ⟨h25, q⟩)]

end Go.Proofs.YtcfnlnceoalnoaaDoor
