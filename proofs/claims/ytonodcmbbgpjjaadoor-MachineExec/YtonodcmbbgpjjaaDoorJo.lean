import Derived.Test.YtonodcmbbgpjjaaDoorJn
import Derived.Test.YtonodcmbbgpjjaaDoorJh
namespace Go.Proofs.YtonodcmbbgpjjaaDoor
open Go.RowKit Go.Maps

/-- The letter of a type. -/
def letR (t : Int) : UInt8 := if t = 1 then 105 else if t = 2 then 98 else 115
end Go.Proofs.YtonodcmbbgpjjaaDoor
namespace Go.Proofs.YtonodcmbbgpjjaaDoor
open Go.RowKit Go.Maps

def fitE (S : List FieldA) (i : ValA) : Int := if formB i ≠ 0 then formB i else if rightF S i = false then 113 else 0
/-- The operations that ask for more than a field. -/
theorem opd_kind : ∀ o ∈ ([1, 2, 3, 4, 5, 6, 7, 8, 9, 10, 11, 12, 13, 14, 15, 16, 17, 18, 19, 20, 21, 22, 23, 24, 25, 26] : List Int), ((opA o).opd = 4 ↔ (o = 6 ∨ o = 22)) ∧ ((opA o).opd = 5 ↔ o = 21) ∧ ((opA o).opd = 6 ↔ (o = 25 ∨ o = 26)) ∧ (opdB o = 3 ↔ ((opA o).opd = 3 ∨ (opA o).opd = 4 ∨ (opA o).opd = 5)) ∧ (opdB o = 4 ↔ (opA o).opd = 6) := by decide
theorem rightF_as {S : List FieldA} {i : ValA} (hf : formB i = 0) : rightF S i = if opdB i.kind ≠ 3 then true else if (S.length : Int) ≤ i.n then false else if (i.kind = 6 ∨ i.kind = 22) ∧ ((S[i.n.toNat]?).map FieldA.opt).getD false = false then false else if i.kind = 21 ∧ fldT S i ≠ 1 then false else true := by
  obtain ⟨h4, h5, _, h3, _⟩ := opd_kind _ (op_cases (formB_zero hf).1)
  unfold rightF
  by_cases h : opdB i.kind = 3
  · rw [if_neg (show ¬ opdB i.kind ≠ 3 from fun q => q h)]
    by_cases hn : (S.length : Int) ≤ i.n
    · rw [if_pos hn, decide_eq_false (show ¬ i.n < (S.length : Int) by omega)]
      rcases h3.1 h with e | e | e <;> simp [e]
    · rw [if_neg hn, decide_eq_true (show i.n < (S.length : Int) by omega)]
      rcases h3.1 h with e | e | e
      · have n4 : ¬ (i.kind = 6 ∨ i.kind = 22) := fun q => by have := h4.2 q; omega
        have n5 : ¬ i.kind = 21 := fun q => by have := h5.2 q; omega
        rw [if_pos e, if_neg (fun q => n4 q.1), if_neg (fun q => n5 q.1)]
      · have n4 := h4.1 e
        have n5 : ¬ i.kind = 21 := by omega
        rw [if_neg (show ¬ (opA i.kind).opd = 3 by omega), if_pos e, if_neg (show ¬ (i.kind = 21 ∧ fldT S i ≠ 1) from fun q => n5 q.1)]
        cases hq : ((S[i.n.toNat]?).map FieldA.opt).getD false with
        | false => rw [if_pos ⟨n4, rfl⟩]; rfl
        | true => rw [if_neg (fun q => by cases q.2)]; rfl
      · have n5 := h5.1 e
        have n4 : ¬ (i.kind = 6 ∨ i.kind = 22) := by omega
        rw [if_neg (show ¬ (opA i.kind).opd = 3 by omega), if_neg (show ¬ (opA i.kind).opd = 4 by omega), if_pos e, if_neg (show ¬ ((i.kind = 6 ∨ i.kind = 22) ∧ ((S[i.n.toNat]?).map FieldA.opt).getD false = false) from fun q => n4 q.1)]
        by_cases ht : fldT S i = 1
        · rw [if_neg (fun q => q.2 ht), decide_eq_true ht]; rfl
        · rw [if_pos ⟨n5, ht⟩, decide_eq_false ht]; rfl
  · rw [if_pos (show opdB i.kind ≠ 3 from h)]
    have n3 : ¬ (opA i.kind).opd = 3 := fun q => h (h3.2 (Or.inl q))
    have n4 : ¬ (opA i.kind).opd = 4 := fun q => h (h3.2 (Or.inr (Or.inl q)))
    have n5 : ¬ (opA i.kind).opd = 5 := fun q => h (h3.2 (Or.inr (Or.inr q)))
    rw [if_neg n3, if_neg n4, if_neg n5]
end Go.Proofs.YtonodcmbbgpjjaaDoor
namespace Go.Proofs.YtonodcmbbgpjjaaDoor
open Go.RowKit Go.Maps
def soundA (S : List FieldA) (l : List ValA) : Nat × Int := if errS S ≠ 0 then (0, 60) else if (checkI S l).2 ≠ 0 then checkI S l else checkT l
theorem fitE_scan {S : List FieldA} {l : List ValA} {k : Nat} {x : ValA} (h : l[k]? = some x) : scanI S k (l.drop k) = if fitE S x ≠ 0 then some (k, fitE S x) else scanI S (k + 1) (l.drop (k + 1)) := by
  rw [scanI_drop h]
  unfold fitE
  by_cases h1 : formB x = 0
  · rw [if_neg (show ¬ formB x ≠ 0 from fun q => q h1), if_neg (show ¬ formB x ≠ 0 from fun q => q h1)]
    cases rightF S x <;> simp
  · rw [if_pos (show formB x ≠ 0 from h1), if_pos (show formB x ≠ 0 from h1), if_pos h1]
end Go.Proofs.YtonodcmbbgpjjaaDoor
namespace Go.Proofs.YtonodcmbbgpjjaaDoor
open Go.RowKit Go.Maps
/-- What the reference takes and gives, in letters. -/
def takesR (S : List FieldA) (i : ValA) (t : Txt) : Txt × Txt :=
  (if i.kind = 15 ∨ i.kind = 16 ∨ i.kind = 17 then t ++ t else List.replicate (opA i.kind).takes (letR (ofF S i (opA i.kind).of)),
   if (opA i.kind).gives = 0 then [] else [letR (ofF S i (opA i.kind).gives)])
end Go.Proofs.YtonodcmbbgpjjaaDoor
namespace Go.Proofs.YtonodcmbbgpjjaaDoor
open Go.RowKit Go.Maps
theorem ext_drop (q : Txt) (U : Nat) : ((ByteArray.mk q.toArray).extract U q.length).toList = q.drop U := by
  rw [ext_str, List.take_of_length_le (by rw [List.length_drop]; omega)]
  simp
def endsB (q r : Txt) : Bool := decide (r.length ≤ q.length) && decide (q.drop (q.length - r.length) = r)
end Go.Proofs.YtonodcmbbgpjjaaDoor
namespace Go.Proofs.YtonodcmbbgpjjaaDoor
open Go.RowKit Go.Maps
/-- The letter that a comparison goes by. -/
def topR (i : ValA) (q : Txt) : Txt := if (if q = [] then [105] else q.drop (q.length - 1)) = [98] ∧ i.kind ≠ 17 then [105] else if q = [] then [105] else q.drop (q.length - 1)
def behR (S : List FieldA) (i : ValA) (q : Txt) : Txt × Bool :=
  if endsB q (takesR S i (topR i q)).1 = false then ([], false)
  else (q.take (q.length - (takesR S i (topR i q)).1.length) ++ (takesR S i (topR i q)).2, decide ((q.take (q.length - (takesR S i (topR i q)).1.length) ++ (takesR S i (topR i q)).2).length ≤ 16))
theorem str_from (q : Txt) (U : Nat) (h : U ≤ q.length) (W : World) : (Instr.sliceAt 9 (str q) (some (.int .i64 (U : Int))) none none).run Tryd.prog W = .ok (str (q.drop U)) W := by
  have j0 : (0 : Int) ≤ (U : Int) := by omega
  have j1 : (U : Int) ≤ (q.length : Int) := by omega
  have e : (ByteArray.mk q.toArray).extract U q.length = ⟨(q.drop U).toArray⟩ := by rw [ext_str, List.take_of_length_le (by rw [List.length_drop]; omega)]
  simp [go_sem, j0, j1, e, str]
theorem str_to (q : Txt) (U : Nat) (h : U ≤ q.length) (W : World) : (Instr.sliceAt 9 (str q) none (some (.int .i64 (U : Int))) none).run Tryd.prog W = .ok (str (q.take U)) W := by
  have j0 : (0 : Int) ≤ (U : Int) := by omega
  have j1 : (U : Int) ≤ (q.length : Int) := by omega
  have e : (ByteArray.mk q.toArray).extract 0 U = ⟨(q.take U).toArray⟩ := by rw [ext_str]; simp
  simp [go_sem, j0, j1, e, str]
end Go.Proofs.YtonodcmbbgpjjaaDoor
namespace Go.Proofs.YtonodcmbbgpjjaaDoor
open Go.RowKit Go.Maps
/-- Does the instruction x at k lead to a place? -/
def leadsB (k : Nat) (x : ValA) (p : Nat) : Bool := (decide (x.kind = 25 ∨ x.kind = 26) && decide (k + 1 + x.n.toNat = p)) || (decide (x.kind ≠ 25) && decide (k + 1 = p))
end Go.Proofs.YtonodcmbbgpjjaaDoor
namespace Go.Proofs.YtonodcmbbgpjjaaDoor
open Go.RowKit Go.Maps
/-- A kind of a value. -/
def isK (k : Int) : Prop := k = 1 ∨ k = 2 ∨ k = 3
theorem letR_inj {a b : Int} (ha : isK a) (hb : isK b) (h : letR a = letR b) : a = b := by
  rcases ha with rfl | rfl | rfl <;> rcases hb with rfl | rfl | rfl <;> first | rfl | (exfalso; revert h; decide)
theorem map_letR_inj : ∀ {a b : List Int}, (∀ k ∈ a, isK k) → (∀ k ∈ b, isK k) → a.map letR = b.map letR → a = b
  | [], [], _, _, _ => rfl
  | [], _ :: _, _, _, h => by simp at h
  | _ :: _, [], _, _, h => by simp at h
  | x :: r, y :: s, ha, hb, h => by
    simp only [List.map_cons, List.cons.injEq] at h
    rw [letR_inj (ha x List.mem_cons_self) (hb y List.mem_cons_self) h.1, map_letR_inj (fun k hk => ha k (List.mem_cons_of_mem _ hk)) (fun k hk => hb k (List.mem_cons_of_mem _ hk)) h.2]
/-- The kinds that an operation is given, by the top of the stack. -/
def needK (S : List FieldA) (i : ValA) (st : List Int) : List Int :=
  if i.kind = 15 ∨ i.kind = 16 ∨ i.kind = 17 then
    (if (st.getLast?.getD 1) = 2 ∧ i.kind ≠ 17 then [1, 1] else [st.getLast?.getD 1, st.getLast?.getD 1])
  else List.replicate (opA i.kind).takes (ofF S i (opA i.kind).of)
theorem topR_map (i : ValA) (st : List Int) (hk : ∀ k ∈ st, isK k) : topR i (st.map letR) = [letR (if (st.getLast?.getD 1) = 2 ∧ i.kind ≠ 17 then 1 else st.getLast?.getD 1)] := by
  unfold topR
  rcases List.eq_nil_or_concat st with rfl | ⟨r, c, rfl⟩
  · simp [letR]
  · rw [List.concat_eq_append] at *
    have hc : isK c := hk c (by simp)
    have hd : ((r ++ [c]).map letR).drop (((r ++ [c]).map letR).length - 1) = [letR c] := by simp
    have hn : ¬ (r ++ [c]).map letR = [] := by simp
    rw [if_neg hn, hd]
    have hl : (r ++ [c]).getLast?.getD 1 = c := by simp
    rw [hl]
    by_cases h2 : c = 2
    · subst h2
      by_cases h17 : i.kind = 17
      · rw [if_neg (fun q => q.2 h17), if_neg (fun q => q.2 h17)]
      · rw [if_pos ⟨by decide, h17⟩, if_pos ⟨rfl, h17⟩]
        rfl
    · have hne : ¬ [letR c] = [98] := by
        intro q
        apply h2
        exact letR_inj hc (Or.inr (Or.inl rfl)) (by have e : letR c = 98 := by simpa using q
                                                    rw [e]; rfl)
      rw [if_neg (fun q => hne q.1), if_neg (fun q => h2 q.1)]
theorem takesR_map (S : List FieldA) (i : ValA) (st : List Int) (hk : ∀ k ∈ st, isK k) : takesR S i (topR i (st.map letR)) = ((needK S i st).map letR, if (opA i.kind).gives = 0 then [] else [letR (ofF S i (opA i.kind).gives)]) := by
  unfold takesR needK
  rw [topR_map i st hk]
  split
  · split <;> rfl
  · simp

theorem op_facts : ∀ o ∈ ([1, 2, 3, 4, 5, 6, 7, 8, 9, 10, 11, 12, 13, 14, 15, 16, 17, 18, 19, 20, 21, 22, 23, 24, 25, 26] : List Int), ((o = 15 ∨ o = 16) → (opA o).takes = 2 ∧ (opA o).of = 5) ∧ (o = 17 → (opA o).takes = 2 ∧ (opA o).of = 6) ∧ (¬ (o = 15 ∨ o = 16 ∨ o = 17) → (opA o).takes = 0 ∨ (opA o).of = 1 ∨ (opA o).of = 2 ∨ (opA o).of = 3 ∨ (opA o).of = 4) ∧ ((opA o).gives = 0 ∨ (opA o).gives = 1 ∨ (opA o).gives = 2 ∨ (opA o).gives = 3 ∨ (opA o).gives = 4) := by decide
theorem needK_length (S : List FieldA) (i : ValA) (st : List Int) (hf : formB i = 0) : (needK S i st).length = (opA i.kind).takes := by
  obtain ⟨h1, h2, _, _⟩ := op_facts _ (op_cases (formB_zero hf).1)
  unfold needK
  by_cases h : i.kind = 15 ∨ i.kind = 16 ∨ i.kind = 17
  · rw [if_pos h]
    have : (opA i.kind).takes = 2 := by
      rcases h with h | h | h
      · exact (h1 (Or.inl h)).1
      · exact (h1 (Or.inr h)).1
      · exact (h2 h).1
    rw [this]
    split <;> rfl
  · rw [if_neg h, List.length_replicate]
theorem takes_need (S : List FieldA) (i : ValA) (st : List Int) (hf : formB i = 0) (hk : ∀ k ∈ st, isK k) (hF : (opA i.kind).of = 4 → isK (fldT S i)) (hle : (opA i.kind).takes ≤ st.length) : takesB S i (st.drop (st.length - (opA i.kind).takes)) = decide (st.drop (st.length - (opA i.kind).takes) = needK S i st) := by
  obtain ⟨h1, h2, h3, _⟩ := op_facts _ (op_cases (formB_zero hf).1)
  by_cases h : i.kind = 15 ∨ i.kind = 16 ∨ i.kind = 17
  · have ht : (opA i.kind).takes = 2 := by
      rcases h with h | h | h
      · exact (h1 (Or.inl h)).1
      · exact (h1 (Or.inr h)).1
      · exact (h2 h).1
    rw [ht] at hle ⊢
    obtain ⟨a, b, r, rfl⟩ : ∃ a b r, st = r ++ [a, b] := by
      refine ⟨(st.drop (st.length - 2))[0]'(by rw [List.length_drop]; omega), (st.drop (st.length - 2))[1]'(by rw [List.length_drop]; omega), st.take (st.length - 2), ?_⟩
      conv => lhs; rw [← List.take_append_drop (st.length - 2) st]
      congr 1
      apply List.ext_getElem
      · show (st.drop (st.length - 2)).length = 2
        have e : (st.drop (st.length - 2)).length = st.length - (st.length - 2) := List.length_drop
        omega
      · intro j hj hj2
        have : j = 0 ∨ j = 1 := by simp at hj2; omega
        rcases this with rfl | rfl <;> rfl
    have hd : (r ++ [a, b]).drop ((r ++ [a, b]).length - 2) = [a, b] := by simp
    have hl : (r ++ [a, b]).getLast?.getD 1 = b := by simp
    have ka : isK a := hk a (by simp)
    have kb : isK b := hk b (by simp)
    rw [hd]
    unfold takesB needK ofF
    rw [if_pos h, hl]
    by_cases h17 : i.kind = 17
    · rw [(h2 h17).2]
      rcases ka with rfl | rfl | rfl <;> rcases kb with rfl | rfl | rfl <;> simp [allowsB, h17]
    · have h5 : i.kind = 15 ∨ i.kind = 16 := by omega
      rw [(h1 h5).2]
      rcases ka with rfl | rfl | rfl <;> rcases kb with rfl | rfl | rfl <;> simp [allowsB, h17]
  · have hlen : (st.drop (st.length - (opA i.kind).takes)).length = (opA i.kind).takes := by rw [List.length_drop]; omega
    have hv : ∀ k ∈ st.drop (st.length - (opA i.kind).takes), isK k := fun k hk' => hk k (List.mem_of_mem_drop hk')
    have hK : (opA i.kind).takes = 0 ∨ isK (ofF S i (opA i.kind).of) := by
      rcases h3 h with e | e | e | e | e
      · exact Or.inl e
      · right; unfold ofF; rw [e]; exact Or.inl rfl
      · right; unfold ofF; rw [e]; exact Or.inr (Or.inl rfl)
      · right; unfold ofF; rw [e]; exact Or.inr (Or.inr rfl)
      · right; unfold ofF; rw [if_pos e]; exact hF e
    unfold takesB needK
    rw [if_neg h]
    generalize st.drop (st.length - (opA i.kind).takes) = vs at *
    generalize ofF S i (opA i.kind).of = K at *
    generalize (opA i.kind).takes = T at *
    rcases hK with rfl | hK
    · have : vs = [] := List.eq_nil_of_length_eq_zero hlen
      subst this
      rfl
    · have hal : ∀ k, allowsB K k = decide (K = k) := by
        intro k
        unfold allowsB
        rcases hK with rfl | rfl | rfl <;> simp
      rw [Bool.eq_iff_iff, decide_eq_true_iff, List.all_eq_true]
      constructor
      · intro hall
        rw [List.eq_replicate_iff]
        refine ⟨hlen, fun k hk' => ?_⟩
        have := hall k hk'
        rw [hal, Bool.and_eq_true, decide_eq_true_iff, decide_eq_true_iff] at this
        exact this.2.symm
      · intro e k hk'
        rw [e] at hk'
        have hkK := (List.mem_replicate.1 hk').2
        rw [hal, Bool.and_eq_true, decide_eq_true_iff, decide_eq_true_iff, hkK]
        refine ⟨?_, rfl⟩
        rw [e]
        cases T with
        | zero => simp at hk'
        | succ T => rfl

end Go.Proofs.YtonodcmbbgpjjaaDoor
