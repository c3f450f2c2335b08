import Derived.Test.YtbdlcaamanhapaaGreatDoorJzaj
import Derived.Test.YtbdlcaamanhapaaGreatDoorJzae
import Derived.Test.YtbdlcaamanhapaaGreatDoorJzah
import Derived.Test.YtbdlcaamanhapaaGreatDoorJzaf
import Derived.Handy
import Derived.Test.YtbdlcaamanhapaaGreatDoorJzai
namespace Go.Proofs.YtbdlcaamanhapaaGreatDoor
open Go.RowKit Go.Maps
def isK (k : Int) : Prop := k = 1 ∨ k = 2 ∨ k = 3
theorem letR_inj {a b : Int} (ha : isK a) (hb : isK b) (h : letR a = letR b) : a = b := by
 rcases ha with rfl | rfl | rfl <;> rcases hb with rfl | rfl | rfl <;> first | rfl | (exfalso; revert h; decide)
theorem map_letR_inj : ∀ {a b : List Int}, (∀ k ∈ a, isK k) → (∀ k ∈ b, isK k) → a.map letR = b.map letR → a = b
 | [], [], _, _, _ => rfl
 | [], _ :: _, _, _, h => by simp at h
 | _ :: _, [], _, _, h => by simp at h
 | x :: r, y :: s, ha, hb, h => by
  simp only [List.map_cons, List.cons.injEq] at h
  rw [letR_inj (ha x List.mem_cons_self) (hb y List.mem_cons_self) h.1, map_letR_inj (fun k hk => ha k (List.mem_cons_of_mem _ hk)) (fun k hk => hb k (List.mem_cons_of_mem _ hk)) h.2]
def needK (S : List Wq) (i : ValA) (st : List Int) : List Int :=
 if i.kind = 15 ∨ i.kind = 16 ∨ i.kind = 17 then
  (if (st.getLast?.getD 1) = 2 ∧ i.kind ≠ 17 then [1, 1] else [st.getLast?.getD 1, st.getLast?.getD 1])
 else List.replicate (opA i.kind).takes (ofF S i (opA i.kind).of)
theorem topR_map (i : ValA) (st : List Int) (hk : ∀ k ∈ st, isK k) : topR i (st.map letR) = [letR (if (st.getLast?.getD 1) = 2 ∧ i.kind ≠ 17 then 1 else st.getLast?.getD 1)] := by
 unfold topR
 rcases List.eq_nil_or_concat st with rfl | ⟨r, c, rfl⟩
 ·simp [letR]
 ·rw [List.concat_eq_append] at *
  have hc : isK c := hk c (by simp)
  have hd : ((r ++ [c]).map letR).drop (((r ++ [c]).map letR).length - 1) = [letR c] := by simp
  have hn : ¬ (r ++ [c]).map letR = [] := by simp
  rw [if_neg hn, hd]
  have hl : (r ++ [c]).getLast?.getD 1 = c := by simp
  rw [hl]
  by_cases h2 : c = 2
  ·subst h2
   by_cases h17 : i.kind = 17
   ·rw [if_neg (fun q => q.2 h17), if_neg (fun q => q.2 h17)]
   ·rw [if_pos ⟨by decide, h17⟩, if_pos ⟨rfl, h17⟩]
    rfl
  ·have hne : ¬ [letR c] = [98] := by
    intro q
    apply h2
    exact letR_inj hc (Or.inr (Or.inl rfl)) (by have e : letR c = 98 := by simpa using q
                                                rw [e]; rfl)
   rw [if_neg (fun q => hne q.1), if_neg (fun q => h2 q.1)]
theorem takesR_map (S : List Wq) (i : ValA) (st : List Int) (hk : ∀ k ∈ st, isK k) : takesR S i (topR i (st.map letR)) = ((needK S i st).map letR, if (opA i.kind).gives = 0 then [] else [letR (ofF S i (opA i.kind).gives)]) := by
 unfold takesR needK
 rw [topR_map i st hk]
 split
 ·split <;> rfl
 ·simp
theorem op_facts : ∀ o ∈ ([1, 2, 3, 4, 5, 6, 7, 8, 9, 10, 11, 12, 13, 14, 15, 16, 17, 18, 19, 20, 21, 22, 23, 24, 25, 26] : List Int), ((o = 15 ∨ o = 16) → (opA o).takes = 2 ∧ (opA o).of = 5) ∧ (o = 17 → (opA o).takes = 2 ∧ (opA o).of = 6) ∧ (¬ (o = 15 ∨ o = 16 ∨ o = 17) → (opA o).takes = 0 ∨ (opA o).of = 1 ∨ (opA o).of = 2 ∨ (opA o).of = 3 ∨ (opA o).of = 4) ∧ ((opA o).gives = 0 ∨ (opA o).gives = 1 ∨ (opA o).gives = 2 ∨ (opA o).gives = 3 ∨ (opA o).gives = 4) := by decide
theorem needK_length (S : List Wq) (i : ValA) (st : List Int) (hf : formB i = 0) : (needK S i st).length = (opA i.kind).takes := by
 obtain ⟨h1, h2, _, _⟩ := op_facts _ (op_cases (formB_zero hf).1)
 unfold needK
 by_cases h : i.kind = 15 ∨ i.kind = 16 ∨ i.kind = 17
 ·rw [if_pos h]
  have : (opA i.kind).takes = 2 := by
   rcases h with h | h | h
   ·exact (h1 (Or.inl h)).1
   ·exact (h1 (Or.inr h)).1
   ·exact (h2 h).1
  rw [this]
  split <;> rfl
 ·rw [if_neg h, List.length_replicate]
theorem takes_need (S : List Wq) (i : ValA) (st : List Int) (hf : formB i = 0) (hk : ∀ k ∈ st, isK k) (hF : (opA i.kind).of = 4 → isK (fldT S i)) (hle : (opA i.kind).takes ≤ st.length) : takesB S i (st.drop (st.length - (opA i.kind).takes)) = decide (st.drop (st.length - (opA i.kind).takes) = needK S i st) := by
 obtain ⟨h1, h2, h3, _⟩ := op_facts _ (op_cases (formB_zero hf).1)
 by_cases h : i.kind = 15 ∨ i.kind = 16 ∨ i.kind = 17
 ·have ht : (opA i.kind).takes = 2 := by
   rcases h with h | h | h
   ·exact (h1 (Or.inl h)).1
   ·exact (h1 (Or.inr h)).1
   ·exact (h2 h).1
  rw [ht] at hle ⊢
  obtain ⟨a, b, r, rfl⟩ : ∃ a b r, st = r ++ [a, b] := by
   refine ⟨(st.drop (st.length - 2))[0]'(by rw [List.length_drop]; omega), (st.drop (st.length - 2))[1]'(by rw [List.length_drop]; omega), st.take (st.length - 2), ?_⟩
   conv => lhs; rw [← List.take_append_drop (st.length - 2) st]
   congr 1
   apply List.ext_getElem
   ·show (st.drop (st.length - 2)).length = 2
    have e : (st.drop (st.length - 2)).length = st.length - (st.length - 2) := List.length_drop
    omega
   ·intro j hj hj2
    have : j = 0 ∨ j = 1 := by simp at hj2; omega
    rcases this with rfl | rfl <;> rfl
  have hd : (r ++ [a, b]).drop ((r ++ [a, b]).length - 2) = [a, b] := by simp
  have hl : (r ++ [a, b]).getLast?.getD 1 = b := by simp
  have ka : isK a := hk a (by simp)
  have kb : isK b := hk b (by simp)
  rw [hd]
  unfold takesB needK ofF
  rw [if_pos h, hl]
  by_cases h17 : i.kind = 17
  ·rw [(h2 h17).2]
   rcases ka with rfl | rfl | rfl <;> rcases kb with rfl | rfl | rfl <;> simp [allowsB, h17]
  ·have h5 : i.kind = 15 ∨ i.kind = 16 := by omega
   rw [(h1 h5).2]
   rcases ka with rfl | rfl | rfl <;> rcases kb with rfl | rfl | rfl <;> simp [allowsB, h17]
 ·have hlen : (st.drop (st.length - (opA i.kind).takes)).length = (opA i.kind).takes := by rw [List.length_drop]; omega
  have hv : ∀ k ∈ st.drop (st.length - (opA i.kind).takes), isK k := fun k hk' => hk k (List.mem_of_mem_drop hk')
  have hK : (opA i.kind).takes = 0 ∨ isK (ofF S i (opA i.kind).of) := by
   rcases h3 h with e | e | e | e | e
   ·exact Or.inl e
   ·right; unfold ofF; rw [e]; exact Or.inl rfl
   ·right; unfold ofF; rw [e]; exact Or.inr (Or.inl rfl)
   ·right; unfold ofF; rw [e]; exact Or.inr (Or.inr rfl)
   ·right; unfold ofF; rw [if_pos e]; exact hF e
  unfold takesB needK
  rw [if_neg h]
  generalize st.drop (st.length - (opA i.kind).takes) = vs at *
  generalize ofF S i (opA i.kind).of = K at *
  generalize (opA i.kind).takes = T at *
  rcases hK with rfl | hK
  ·have : vs = [] := List.eq_nil_of_length_eq_zero hlen
   subst this
   rfl
  ·have hal : ∀ k, allowsB K k = decide (K = k) := by
    intro k
    unfold allowsB
    rcases hK with rfl | rfl | rfl <;> simp
   rw [Bool.eq_iff_iff, decide_eq_true_iff, List.all_eq_true]
   constructor
   ·intro hall
    rw [List.eq_replicate_iff]
    refine ⟨hlen, fun k hk' => ?_⟩
    have := hall k hk'
    rw [hal, Bool.and_eq_true, decide_eq_true_iff, decide_eq_true_iff] at this
    exact this.2.symm
   ·intro e k hk'
    rw [e] at hk'
    have hkK := (List.mem_replicate.1 hk').2
    rw [hal, Bool.and_eq_true, decide_eq_true_iff, decide_eq_true_iff, hkK]
    refine ⟨?_, rfl⟩
    rw [e]
    cases T with
    | zero => simp at hk'
    | succ T => rfl
structure MS where
 st : List ValA
 here : Bool
 vals : List ValA
def numV (n : Int) : ValA := ⟨1, n, []⟩
def truV (b : Bool) : ValA := ⟨2, if b then 1 else 0, []⟩
def bytV (s : Txt) : ValA := ⟨3, 0, s⟩
def zV : ValA := ⟨0, 0, []⟩
def topV (l : List ValA) : ValA := (l[l.length - 1]?).getD zV
def secV (l : List ValA) : ValA := (l[l.length - 2]?).getD zV
def hasB (m : MS) (n : Nat) : Bool := m.here && !decide (((m.vals[n]?).getD zV).kind = 0)
def loadV (S : List Wq) (m : MS) (n : Nat) : ValA := if hasB m n then (m.vals[n]?).getD zV else ⟨((S[n]?).map Wq.type).getD 0, 0, []⟩
def cmpI (a b : Int) : Int := if a < b then -1 else if b < a then 1 else 0
def cmpT (a b : Txt) : Int := if Op.bytesLess a b then -1 else if a = b then 0 else 1
def ordV (a b : ValA) : Int := if cmpI a.n b.n = 0 then cmpT a.s b.s else cmpI a.n b.n
def toldV (S : List Wq) (x : ValA) (m : MS) : ValA :=
 if x.kind = 1 then numV x.n else if x.kind = 4 then bytV x.s else if x.kind = 5 then loadV S m x.n.toNat
 else if x.kind = 6 then truV (hasB m x.n.toNat) else if x.kind = 7 then truV m.here else truV (decide (x.kind = 2))
def oneV (o : Int) (a : ValA) : ValA := if o = 8 then truV (!decide (a.n = 1)) else if o = 9 then numV (wrap64 (-a.n)) else numV a.s.length
def catT (a b : Txt) : Txt := (a ++ b).take 20
def twoV (o : Int) (a b : ValA) : ValA :=
 if o = 10 then numV (wrap64 (a.n + b.n)) else if o = 11 then numV (wrap64 (a.n - b.n)) else if o = 12 then numV (wrap64 (a.n * b.n))
 else if o = 13 then numV (min a.n b.n) else if o = 14 then numV (max a.n b.n) else if o = 15 then truV (decide (ordV a b < 0)) else if o = 16 then truV (decide (ordV a b ≤ 0))
 else if o = 17 then truV (decide (a = b)) else bytV (catT a.s b.s)
def giveM (S : List Wq) (x : ValA) (m : MS) : List ValA :=
 if x.kind ≤ 7 then [toldV S x m] else if x.kind = 8 ∨ x.kind = 9 ∨ x.kind = 18 then [oneV x.kind (topV m.st)]
 else if x.kind ≤ 19 then [twoV x.kind (secV m.st) (topV m.st)] else []
def setR (m : MS) (n : Nat) (v : ValA) : Bool × List ValA := if m.here then (true, m.vals.set n v) else (m.here, m.vals)
def rowM (S : List Wq) (x : ValA) (m : MS) : Bool × List ValA :=
 if x.kind = 20 then setR m x.n.toNat (topV m.st)
 else if x.kind = 21 then setR m x.n.toNat (numV (wrap64 ((loadV S m x.n.toNat).n + (topV m.st).n)))
 else if x.kind = 22 then setR m x.n.toNat zV
 else if x.kind = 23 then (if m.here then (m.here, m.vals) else (true, S.map zeroV))
 else if x.kind = 24 then (false, []) else (m.here, m.vals)
def stepM (S : List Wq) (x : ValA) (m : MS) : MS :=
 ⟨m.st.take (m.st.length - (opA x.kind).takes) ++ giveM S x m, (rowM S x m).1, (rowM S x m).2⟩
def nextM (x : ValA) (k : Nat) (m : MS) : Nat := if x.kind = 25 ∨ (x.kind = 26 ∧ (topV m.st).n ≠ 1) then k + 1 + x.n.toNat else k + 1
def playM (S : List Wq) (l : List ValA) : Nat → Nat → MS → List (Nat × List ValA) × MS
 | 0, _, m => ([], m)
 | f + 1, k, m => match l[k]? with
  | none => ([], m)
  | some x => ((k, m.st) :: (playM S l f (nextM x k m) (stepM S x m)).1, (playM S l f (nextM x k m) (stepM S x m)).2)
def goodV (v : ValA) : Prop := (v.kind = 1 ∧ v.s = []) ∨ (v.kind = 2 ∧ (v.n = 0 ∨ v.n = 1) ∧ v.s = []) ∨ (v.kind = 3 ∧ v.n = 0 ∧ v.s.length ≤ 20)
def rowOK (S : List Wq) (h : Bool) (vals : List ValA) : Prop := if h then vals.length = S.length ∧ ∀ (k : Nat) (f : Wq) (v : ValA), S[k]? = some f → vals[k]? = some v → fitsB f v = true else vals = []
structure TyM (S : List Wq) (m : MS) (ts : List Int) : Prop where
 ty : m.st.map ValA.kind = ts
 good : ∀ v ∈ m.st, goodV v
 row : rowOK S m.here m.vals
theorem goodV_fits {v : ValA} (h : goodV v) {f : Wq} (hk : v.kind = f.type) : fitsB f v = true := by
 obtain ⟨k, n, s⟩ := v
 unfold fitsB
 rcases h with ⟨h1, h2⟩ | ⟨h1, h2, h3⟩ | ⟨h1, h2, h3⟩ <;> simp only at h1 h2 hk ⊢ <;> subst h1
 ·simp [h2, ← hk]
 ·simp only at h3; simp [h2, h3, ← hk]
 ·simp only at h3; simp [h2, h3, ← hk]
theorem fits_good {v : ValA} {f : Wq} (h : fitsB f v = true) (h0 : v.kind ≠ 0) : goodV v ∧ v.kind = f.type := by
 obtain ⟨k, n, s⟩ := v
 unfold fitsB at h
 unfold goodV
 simp only at h h0 ⊢
 rw [if_neg h0] at h
 by_cases h1 : k = f.type
 ·rw [if_neg (fun q => q h1)] at h
  refine ⟨?_, h1⟩
  split at h
  ·exact Or.inl ⟨‹_›, by simpa using h⟩
  ·split at h
   ·simp at h; exact Or.inr (Or.inl ⟨‹_›, h.1, h.2⟩)
   ·split at h
    ·simp at h; exact Or.inr (Or.inr ⟨‹_›, h.1, h.2⟩)
    ·cases h
 ·rw [if_pos h1] at h; cases h
theorem good_num (n : Int) : goodV (numV n) := Or.inl ⟨rfl, rfl⟩
theorem good_tru (b : Bool) : goodV (truV b) := Or.inr (Or.inl ⟨rfl, by cases b <;> simp [truV], rfl⟩)
theorem good_byt {s : Txt} (h : s.length ≤ 20) : goodV (bytV s) := Or.inr (Or.inr ⟨rfl, rfl, h⟩)
theorem good_zero {t : Int} (h : isK t) : goodV ⟨t, 0, []⟩ := by
 unfold isK at h
 rcases h with rfl | rfl | rfl
 ·exact Or.inl ⟨rfl, rfl⟩
 ·exact Or.inr (Or.inl ⟨rfl, Or.inl rfl, rfl⟩)
 ·exact Or.inr (Or.inr ⟨rfl, rfl, by simp⟩)
theorem cat_len (a b : Txt) : (catT a b).length ≤ 20 := by unfold catT; simp; omega
theorem top_mem {l : List ValA} {t : Nat} (h1 : 1 ≤ t) (h2 : t ≤ l.length) : topV l ∈ l ∧ (topV l).kind ∈ (l.map ValA.kind).drop (l.length - t) := by
 have h : l.length - 1 < l.length := by omega
 have e : topV l = l[l.length - 1] := by unfold topV; rw [List.getElem?_eq_getElem h]; rfl
 refine ⟨e ▸ List.getElem_mem h, ?_⟩
 rw [List.mem_iff_getElem?]
 refine ⟨t - 1, ?_⟩
 rw [List.getElem?_drop, List.getElem?_map, show l.length - t + (t - 1) = l.length - 1 by omega, List.getElem?_eq_getElem h, e]
 rfl
theorem sec_mem {l : List ValA} {t : Nat} (h1 : 2 ≤ t) (h2 : t ≤ l.length) : secV l ∈ l := by
 have h : l.length - 2 < l.length := by omega
 have e : secV l = l[l.length - 2] := by unfold secV; rw [List.getElem?_eq_getElem h]; rfl
 exact e ▸ List.getElem_mem h
theorem beh_parts {S : List Wq} {x : ValA} {ts ts' : List Int} (h : behB S x ts = some ts') : (opA x.kind).takes ≤ ts.length ∧ takesB S x (ts.drop (ts.length - (opA x.kind).takes)) = true ∧ ts' = afterB S x ts ∧ ts'.length ≤ 16 := by
 unfold behB at h
 split at h
 ·cases h
 ·split at h
  ·cases h
  ·split at h
   ·simp only [Option.some.injEq] at h
    subst h
    refine ⟨by omega, ?_, rfl, ‹_›⟩
    rename_i q _
    simpa using q
   ·cases h
theorem row_at {S : List Wq} {m : MS} (hr : rowOK S m.here m.vals) (hh : m.here = true) {n : Nat} (hn : n < S.length) : ∃ f v, S[n]? = some f ∧ m.vals[n]? = some v ∧ fitsB f v = true := by
 unfold rowOK at hr
 rw [if_pos hh] at hr
 obtain ⟨h1, h2⟩ := hr
 have a : n < m.vals.length := by omega
 exact ⟨_, _, List.getElem?_eq_getElem hn, List.getElem?_eq_getElem a, h2 n _ _ (List.getElem?_eq_getElem hn) (List.getElem?_eq_getElem a)⟩
theorem load_good {S : List Wq} {m : MS} (hr : rowOK S m.here m.vals) (hS : ∀ f ∈ S, isK f.type) {n : Nat} (hn : n < S.length) : goodV (loadV S m n) ∧ (loadV S m n).kind = ((S[n]?).map Wq.type).getD 0 := by
 unfold loadV
 split
 ·rename_i hb
  unfold hasB at hb
  simp only [Bool.and_eq_true, Bool.not_eq_true', decide_eq_false_iff_not] at hb
  obtain ⟨f, v, h1, h2, h3⟩ := row_at hr hb.1 hn
  have hb2 := hb.2
  rw [h2] at hb2 ⊢
  rw [h1]
  simp only [Option.getD_some, Option.map_some] at hb2 ⊢
  obtain ⟨g1, g2⟩ := fits_good h3 hb2
  exact ⟨g1, g2⟩
 ·have h1 := List.getElem?_eq_getElem hn
  rw [h1]
  exact ⟨good_zero (hS _ (List.getElem_mem hn)), rfl⟩
theorem set_row {S : List Wq} {m : MS} (hr : rowOK S m.here m.vals) {n : Nat} {v : ValA} (hv : ∀ f, S[n]? = some f → fitsB f v = true) : rowOK S (setR m n v).1 (setR m n v).2 := by
 unfold setR
 cases hh : m.here with
 | false => simp only [hh, Bool.false_eq_true, if_false] at hr ⊢; exact hr
 | true =>
  unfold rowOK at hr ⊢
  rw [hh, if_pos rfl] at hr
  simp only [if_true]
  refine ⟨by simp [hr.1], fun k f u h1 h2 => ?_⟩
  by_cases hk : n = k
  ·subst hk
   rw [List.getElem?_set_self (by have := (List.getElem?_eq_some_iff.1 h1).1; omega)] at h2
   cases h2
   exact hv f h1
  ·rw [List.getElem?_set_ne hk] at h2
   exact hr.2 k f u h1 h2
theorem zero_row {S : List Wq} (hS : ∀ f ∈ S, isK f.type) : rowOK S true (S.map zeroV) := by
 unfold rowOK
 rw [if_pos rfl]
 refine ⟨by simp, fun k f v h1 h2 => ?_⟩
 rw [List.getElem?_map, h1] at h2
 simp only [Option.map_some, Option.some.injEq] at h2
 subst h2
 unfold zeroV
 split
 ·simp [fitsB, *]
 ·exact goodV_fits (good_zero (hS f (List.mem_of_getElem? h1))) rfl
theorem fldT_at {S : List Wq} {x : ValA} {f : Wq} (h : S[x.n.toNat]? = some f) : fldT S x = f.type := by unfold fldT; rw [h]; rfl
theorem give_ty {S : List Wq} {x : ValA} {m : MS} (hS : ∀ f ∈ S, isK f.type) (hf : formB x = 0) (hr : rightF S x = true) (hR : rowOK S m.here m.vals) :
  (giveM S x m).map ValA.kind = (if (opA x.kind).gives ≠ 0 then [ofF S x (opA x.kind).gives] else []) ∧ ∀ v ∈ giveM S x m, goodV v := by
 obtain ⟨h1, h2⟩ := formB_zero hf
 have hc := op_cases h1
 obtain ⟨o, n, s⟩ := x
 simp only at hc h1 h2
 simp only [List.mem_cons, List.not_mem_nil, or_false] at hc
 rcases hc with rfl | rfl | rfl | rfl | rfl | rfl | rfl | rfl | rfl | rfl | rfl | rfl | rfl | rfl | rfl | rfl | rfl | rfl | rfl | rfl | rfl | rfl | rfl | rfl | rfl | rfl
 case inr.inr.inr.inr.inl =>
  have hn : n < S.length := by
   have : rightF S ⟨5, n, s⟩ = decide (n < S.length) := rfl
   rw [this] at hr
   simpa using hr
  have h0 : 0 ≤ n ∧ n < 8 := form_field hf (Or.inl rfl)
  have hl := load_good hR hS (n := n.toNat) (by omega)
  have e : giveM S ⟨5, n, s⟩ m = [loadV S m n.toNat] := rfl
  rw [e]
  refine ⟨?_, fun v hv => by simp at hv; subst hv; exact hl.1⟩
  show [(loadV S m n.toNat).kind] = [((S[n.toNat]?).map Wq.type).getD 0]
  rw [hl.2]
 case inr.inr.inr.inl =>
  have hs : s.length ≤ 20 := by
   have : rightB ⟨4, n, s⟩ = (decide (n = 0) && decide (s.length ≤ 20)) := rfl
   rw [this] at h2
   simp at h2
   exact h2.2
  exact ⟨rfl, fun v hv => by have e : giveM S ⟨4, n, s⟩ m = [bytV s] := rfl; rw [e] at hv; simp at hv; subst hv; exact good_byt hs⟩
 all_goals
  refine ⟨rfl, fun v hv => ?_⟩
  first
   | exact absurd hv List.not_mem_nil
   | (rcases List.mem_singleton.1 hv with rfl; first | exact good_num _ | exact good_tru _ | exact good_byt (cat_len _ _))
theorem row_ty {S : List Wq} {x : ValA} {m : MS} {ts ts' : List Int} (hS : ∀ f ∈ S, isK f.type) (hr : rightF S x = true) (hM : TyM S m ts) (hb : behB S x ts = some ts') : rowOK S (rowM S x m).1 (rowM S x m).2 := by
 obtain ⟨b1, b2, _, _⟩ := beh_parts hb
 have hR := hM.row
 have hlen : ts.length = m.st.length := by rw [← hM.ty]; simp
 unfold rowM
 split
 ·rename_i ho
  have htk : (opA x.kind).takes = 1 := by rw [ho]; rfl
  have hof : (opA x.kind).of = 4 := by rw [ho]; rfl
  rw [htk] at b1 b2
  obtain ⟨g1, g2⟩ := top_mem (l := m.st) (t := 1) (Nat.le_refl _) (by omega)
  rw [hM.ty, ← hlen] at g2
  have hall := List.all_eq_true.1 b2 _ g2
  simp only [Bool.and_eq_true] at hall
  have ha := hall.2
  rw [hof] at ha
  refine set_row hR fun f hfd => goodV_fits (hM.good _ g1) ?_
  have e := fldT_at hfd
  have hk := hS f (List.mem_of_getElem? hfd)
  unfold ofF allowsB at ha
  rw [if_pos rfl, e] at ha
  rw [if_neg (by rcases hk with h | h | h <;> omega), if_neg (by rcases hk with h | h | h <;> omega)] at ha
  simpa using (of_decide_eq_true ha).symm
 ·split
  ·rename_i _ ho
   have : rightF S x = (decide (x.n < S.length) && decide (fldT S x = 1)) := by unfold rightF; rw [ho]; rfl
   rw [this] at hr
   simp only [Bool.and_eq_true, decide_eq_true_eq] at hr
   exact set_row hR fun f hfd => goodV_fits (good_num _) (by rw [← fldT_at hfd, hr.2]; rfl)
  ·split
   ·rename_i _ _ ho
    have : rightF S x = (decide (x.n < S.length) && ((S[x.n.toNat]?).map Wq.opt).getD false) := by unfold rightF; rw [ho]; rfl
    rw [this] at hr
    simp only [Bool.and_eq_true, decide_eq_true_eq] at hr
    exact set_row hR fun f hfd => by
     have := hr.2
     rw [hfd] at this
     simp at this
     simp [fitsB, zV, this]
   ·split
    ·split
     ·rename_i hh; rw [hh] at hR ⊢; exact hR
     ·exact zero_row hS
    ·split
     ·show rowOK S false []
      unfold rowOK
      rw [if_neg (by decide)]
     ·exact hR
theorem step_ty {S : List Wq} {x : ValA} {m : MS} {ts ts' : List Int} (hS : ∀ f ∈ S, isK f.type) (hf : formB x = 0) (hr : rightF S x = true) (hM : TyM S m ts) (hb : behB S x ts = some ts') : TyM S (stepM S x m) ts' := by
 obtain ⟨b1, b2, b3, b4⟩ := beh_parts hb
 obtain ⟨g1, g2⟩ := give_ty (m := m) hS hf hr hM.row
 have hlen : ts.length = m.st.length := by rw [← hM.ty]; simp
 refine ⟨?_, fun v hv => ?_, row_ty hS hr hM hb⟩
 ·unfold stepM
  simp only [List.map_append, g1, b3, afterB, ← hM.ty, List.map_take, List.length_map]
 ·unfold stepM at hv
  rcases List.mem_append.1 hv with h | h
  ·exact hM.good v (List.mem_of_mem_take h)
  ·exact g2 v h
set_option maxRecDepth 100000
set_option maxHeartbeats 1000000
theorem isTrue_v (v : ValA) (w : World) : Calls Tryz.prog 37 #[v.v] w fun e w' => e = .returned (.bool (decide (v.n = 1))) ∧ Wp (fun _ => False) w w' := by
 obtain ⟨k, n, s⟩ := v
 unfold ValA.v
 go_enter Tryz.func37, Tryz.ntmps37
 go_wp2
 all_goals (go_ret; refine ⟨ret_bool ?_, kA _ _⟩; first | rfl | simp_all)
theorem number_v (n : Int) (w : World) : Calls Tryz.prog 74 #[.int .i64 n] w fun e w' => e = .returned (numV n).v ∧ Wp (fun _ => False) w w' := by
 go_enter Tryz.func74, Tryz.ntmps74
 go_wp2_with fail
 go_returns
 exact ⟨rfl, kA _ _⟩
theorem text_v (s : Txt) (w : World) : Calls Tryz.prog 79 #[str s] w fun e w' => e = .returned (bytV s).v ∧ Wp (fun _ => False) w w' := by
 go_enter Tryz.func79, Tryz.ntmps79
 go_wp2_with fail
 go_returns
 exact ⟨rfl, kA _ _⟩
theorem truth_v (b : Bool) (w : World) : Calls Tryz.prog 73 #[.bool b] w fun e w' => e = .returned (truV b).v ∧ Wp (fun _ => False) w w' := by
 cases b
 all_goals
  go_enter Tryz.func73, Tryz.ntmps73
  go_wp2_with fail
  go_returns
  exact ⟨rfl, kA _ _⟩
theorem nanI_v (n : Int) (w : World) : Calls Tryz.prog 140 #[.int .i64 n] w fun e w' => e = .returned (.bool false) ∧ w' = w := by
 go_enter Tryz.func140, Tryz.ntmps140
 go_wp2
 all_goals (go_ret; exact ⟨by simp, rfl⟩)
theorem nanT_v (s : Txt) (w : World) : Calls Tryz.prog 141 #[str s] w fun e w' => e = .returned (.bool false) ∧ w' = w := by
 go_enter Tryz.func141, Tryz.ntmps141
 go_wp2
 all_goals (go_ret; exact ⟨by simp, rfl⟩)
theorem compareI_v (a b : Int) (w : World) : Calls Tryz.prog 116 #[.int .i64 a, .int .i64 b] w fun e w' => e = .returned (.int .i64 (cmpI a b)) ∧ Wp (fun _ => False) w w' := by
 have HA := zB (fun (W : World) => nanI_v a W)
 have HB := zB (fun (W : World) => nanI_v b W)
 go_enter Tryz.func116, Tryz.ntmps116
 go_wp2_with fail
 refine ((zA HA) _).mono ?_
 rintro e w1 ⟨rfl, rfl⟩
 go_wp2_with fail
 refine ((zA HB) _).mono ?_
 rintro e w2 ⟨rfl, rfl⟩
 go_wp2_with fail
 all_goals (go_ret; exact ⟨ret_int (by unfold cmpI; repeat' split <;> omega), Wp.refl _ _⟩)
theorem compareT_v (a b : Txt) (w : World) : Calls Tryz.prog 117 #[str a, str b] w fun e w' => e = .returned (.int .i64 (cmpT a b)) ∧ Wp (fun _ => False) w w' := by
 have HA := zB (fun (W : World) => nanT_v a W)
 have HB := zB (fun (W : World) => nanT_v b W)
 go_enter Tryz.func117, Tryz.ntmps117
 go_wp2_with fail
 refine ((zA HA) _).mono ?_
 rintro e w1 ⟨rfl, rfl⟩
 go_wp2_with fail
 refine ((zA HB) _).mono ?_
 rintro e w2 ⟨rfl, rfl⟩
 go_wp2_with fail
 all_goals (go_ret; exact ⟨ret_int (by unfold cmpT; repeat' split <;> simp_all), Wp.refl _ _⟩)
def orL : List Int → Int
 | [] => 0
 | a :: r => if a = 0 then orL r else a
theorem or_v (es : List Int) (v : Value) (w : World) (h : KsAt w v es) (hl : es.length ≤ 1000) :
  Calls Tryz.prog 115 #[v] w fun e w' => e = .returned (.int .i64 (orL es)) ∧ w' = w := by
 obtain ⟨ao, cap, rfl⟩ := Ws.form h
 have HF := zB h
 clear h
 go_enter Tryz.func115, Tryz.ntmps115
 go_wp2_with fail
 go_loopw [8] (fun i wr => ∃ k : Nat, k ≤ es.length ∧ i = .int .i64 k ∧ Hid (orL (es.drop k) = orL es) ∧ wr = w) (fun i _ => es.length - (intOf i).toNat)
 case atStart => exact ⟨0, Nat.zero_le _, rfl, by simp [Hid], rfl⟩
 case round =>
  obtain ⟨k, hk, rfl, HS, rfl⟩ := hrel
  cases h : es[k]? with
  | none =>
   have h1 := get_ge h
   obtain rfl : k = es.length := by omega
   clear h h1
   rw [List.drop_length] at HS
   have i1 : ¬ (es.length : Int) < (es.length : Int) := by omega
   go_wp2_with fail
   go_ret
   exact ⟨ret_int (zA HS), rfl⟩
  | some x =>
   have h1 := get_lt h
   obtain ⟨b, off, c, e, hbl, hc⟩ := (zA HF).cells (by omega)
   simp at e
   obtain ⟨rfl, rfl⟩ := e
   have c0 := hc k x h
   have HO : Hid (orL (es.drop k) = if x = 0 then orL (es.drop (k + 1)) else x) := by
    obtain ⟨hk', hx⟩ := List.getElem?_eq_some_iff.1 h
    show _ = _
    rw [List.drop_eq_getElem_cons hk', hx]
    rfl
   clear h hc
   have i1 : (k : Int) < (es.length : Int) := by omega
   have i0 : (0 : Int) ≤ (k : Int) := by omega
   by_cases hx : x = 0
   ·subst hx
    rw [if_pos rfl] at HO
    go_wp2_with fail
    go_roundw
    case rel => exact ⟨k + 1, by omega, by go_num, (zA HO).symm.trans (zA HS), by trivial⟩
    case measure => simp [intOf]; omega
   ·rw [if_neg hx] at HO
    go_wp2_with fail
    go_ret
    exact ⟨ret_int ((zA HO).symm.trans (zA HS)), rfl⟩
set_option maxHeartbeats 2000000
theorem ks_two (w : World) (X Y : Int) : KsAt (w.alloc (.cells #[.int .i64 X, .int .i64 Y] 3)) (.slice (some ⟨w.heap.size, 0, none⟩) 2 2) [X, Y] :=
 zG (World.ownsRow_lit (base := 0) (e := 3) (size := 1) w #[.int .i64 X, .int .i64 Y] 2 (Nat.zero_le _) (by unfold maxLen; omega) rfl)
theorem order_v (a b : ValA) (w : World) : Calls Tryz.prog 75 #[a.v, b.v] w fun e w' => e = .returned (.int .i64 (ordV a b)) ∧ Wp (fun _ => False) w w' := by
 have HA := zB (fun (W : World) => compareI_v a.n b.n W)
 have HB := zB (fun (W : World) => compareT_v a.s b.s W)
 have HO : Hid (ordV a b = orL [cmpI a.n b.n, cmpT a.s b.s]) := by
  show _ = _
  unfold ordV orL orL orL
  split
  ·split
   ·simp_all
   ·rfl
  ·rfl
 generalize ordV a b = R at *
 generalize cmpI a.n b.n = X at *
 generalize cmpT a.s b.s = Y at *
 obtain ⟨ak, an, ax⟩ := a
 obtain ⟨bk, bn, bx⟩ := b
 unfold ValA.v
 simp only at *
 have HA1 := zB (kA w (.cells #[.int .i64 ak, .int .i64 an, str ax] 51))
 have HA2 := zB (kA (w.alloc (.cells #[.int .i64 ak, .int .i64 an, str ax] 51)) (.cells #[.int .i64 bk, .int .i64 bn, str bx] 51))
 have hX2 := heap_alloc_new (w.alloc (.cells #[.int .i64 ak, .int .i64 an, str ax] 51)) (.cells #[.int .i64 bk, .int .i64 bn, str bx] 51)
 rw [show (w.alloc (.cells #[.int .i64 ak, .int .i64 an, str ax] 51)).heap.size = w.heap.size + 1 by simp] at hX2
 have hX1 := heap_alloc_new w (.cells #[.int .i64 ak, .int .i64 an, str ax] 51)
 have hX3 := ((zA HA2).block w.heap.size (zE hX1) id).trans hX1
 have HKA := zB ((zA HA1).trans (zA HA2))
 clear HA1 HA2 hX1
 go_enter Tryz.func75, Tryz.ntmps75
 go_wp2_with fail
 generalize (w.alloc (.cells #[.int .i64 ak, .int .i64 an, str ax] 51)).alloc (.cells #[.int .i64 bk, .int .i64 bn, str bx] 51) = W at *
 have p1 : w.heap.size < W.heap.size := zE hX3
 have p2 : w.heap.size + 1 < W.heap.size := zE hX2
 have a1 : W.cell? ⟨w.heap.size, 1, none⟩ = some (.int .i64 an) := (zC hX3 _).trans rfl
 have a2 : W.cell? ⟨w.heap.size, 2, none⟩ = some (str ax) := (zC hX3 _).trans rfl
 have b1 : W.cell? ⟨w.heap.size + 1, 1, none⟩ = some (.int .i64 bn) := (zC hX2 _).trans rfl
 have b2 : W.cell? ⟨w.heap.size + 1, 2, none⟩ = some (str bx) := (zC hX2 _).trans rfl
 have HD := zB (Wp.refl (fun _ => False) W).drew
 clear hX3 hX2
 go_region_held3 (fun w' => w'.cell? ⟨w.heap.size, 1, none⟩ = some (.int .i64 an) ∧ w'.cell? ⟨w.heap.size, 2, none⟩ = some (str ax) ∧ w'.cell? ⟨w.heap.size + 1, 1, none⟩ = some (.int .i64 bn) ∧ w'.cell? ⟨w.heap.size + 1, 2, none⟩ = some (str bx))
  (first | with_reducible exact c31 | with_reducible exact c32 | with_reducible exact d31 | with_reducible exact d32 | with_reducible exact c21 | with_reducible exact c22 | with_reducible exact d21 | with_reducible exact d22 | (go_keep; done) | assumption)
  (first
    | (go_at_call 115; refine (or_v [X, Y] _ _ (ks_two w3 X Y) (by simp)).mono ?_; rintro e w4 ⟨rfl, rfl⟩)
    | (go_at_call 117; refine ((zA HB) _).mono ?_; rintro e w3 ⟨rfl, hk3⟩; have r1 := Nat.lt_of_lt_of_le q1 hk3.size; have r2 := Nat.lt_of_lt_of_le q2 hk3.size; have c31 := (hk3.cell (o := 1) q1 id).trans c21; have c32 := (hk3.cell (o := 2) q1 id).trans c22; have d31 := (hk3.cell (o := 1) q2 id).trans d21; have d32 := (hk3.cell (o := 2) q2 id).trans d22)
    | (go_at_call 116; refine ((zA HA) _).mono ?_; rintro e w2 ⟨rfl, hk2⟩; have q1 := Nat.lt_of_lt_of_le (Nat.lt_of_lt_of_le p1 (zA HD).size) hk2.size; have q2 := Nat.lt_of_lt_of_le (Nat.lt_of_lt_of_le p2 (zA HD).size) hk2.size; have c21 := (hk2.cell (o := 1) (Nat.lt_of_lt_of_le p1 (zA HD).size) id).trans (((zA HD).cell (o := 1) p1 id).trans a1); have c22 := (hk2.cell (o := 2) (Nat.lt_of_lt_of_le p1 (zA HD).size) id).trans (((zA HD).cell (o := 2) p1 id).trans a2); have d21 := (hk2.cell (o := 1) (Nat.lt_of_lt_of_le p2 (zA HD).size) id).trans (((zA HD).cell (o := 1) p2 id).trans b1); have d22 := (hk2.cell (o := 2) (Nat.lt_of_lt_of_le p2 (zA HD).size) id).trans (((zA HD).cell (o := 2) p2 id).trans b2)))
 go_wp2_with fail
 go_ret
 exact ⟨ret_int (zA HO).symm, ((((zA HKA).trans (zA HD)).trans hk2).trans hk3).alloc _⟩
theorem cat_v (a b : ValA) (w : World) (ha : a.s.length ≤ 20) (hb : b.s.length ≤ 20) : Calls Tryz.prog 76 #[a.v, b.v] w fun e w' => e = .returned (bytV (catT a.s b.s)).v ∧ Wp (fun _ => False) w w' := by
 have HT := zB (fun (W : World) => text_v (catT a.s b.s) W)
 have HC : Hid (catT a.s b.s = (a.s ++ b.s).take 20) := rfl
 generalize catT a.s b.s = C at *
 obtain ⟨ak, an, ax⟩ := a
 obtain ⟨bk, bn, bx⟩ := b
 unfold ValA.v
 simp only at *
 have i0 : ¬ 9223372036854775807 < ax.length + bx.length := by omega
 have ext : ∀ k : Nat, ((⟨ax.toArray⟩ : ByteArray) ++ ⟨bx.toArray⟩).extract 0 k = ⟨((ax ++ bx).take k).toArray⟩ := fun k => by
  apply ByteArray.ext
  rw [ByteArray.data_extract]
  show (ax ++ bx).toArray.extract 0 k = _
  simp
 have HE1 : Hid (((⟨ax.toArray⟩ : ByteArray) ++ ⟨bx.toArray⟩).extract 0 20 = ⟨C.toArray⟩) := by show _ = _; rw [ext, ← zA HC]
 have HE2 : Hid ((ax.length : Int) + (bx.length : Int) ≤ 20 → ((⟨ax.toArray⟩ : ByteArray) ++ ⟨bx.toArray⟩).extract 0 ((ax.length : Int) + (bx.length : Int)).toNat = ⟨C.toArray⟩) := fun h => by
  rw [ext, zA HC, show ((ax.length : Int) + (bx.length : Int)).toNat = (ax ++ bx).length by simp; omega, List.take_length, List.take_of_length_le (by simp; omega)]
 have HKA := zB (((kA w (.cells #[.int .i64 ak, .int .i64 an, str ax] 51)).alloc (.cells #[.int .i64 bk, .int .i64 bn, str bx] 51)).alloc (.cells #[.int .i64 0, .int .i64 0, .string ⟨#[]⟩] 51))
 have hX := heap_alloc_new ((w.alloc (.cells #[.int .i64 ak, .int .i64 an, str ax] 51)).alloc (.cells #[.int .i64 bk, .int .i64 bn, str bx] 51)) (.cells #[.int .i64 0, .int .i64 0, .string ⟨#[]⟩] 51)
 rw [show ((w.alloc (.cells #[.int .i64 ak, .int .i64 an, str ax] 51)).alloc (.cells #[.int .i64 bk, .int .i64 bn, str bx] 51)).heap.size = w.heap.size + 1 + 1 by simp] at hX
 have HX := zB hX
 clear ext hX
 go_enter Tryz.func76, Tryz.ntmps76
 go_wp2_with fail
 case' inr => rw [(zA HE2) (by omega)]
 case' inl => rw [zA HE1]
 all_goals
  refine ((zA HT) _).mono ?_
  rintro e w1 ⟨rfl, hk1⟩
  generalize ((w.alloc (.cells #[.int .i64 ak, .int .i64 an, str ax] 51)).alloc (.cells #[.int .i64 bk, .int .i64 bn, str bx] 51)).alloc (.cells #[.int .i64 0, .int .i64 0, .string ⟨#[]⟩] 51) = W at *
  have hX3 := (hk1.block _ (zE (zA HX)) id).trans (zA HX)
  have z0 := zF hX3 0
  have z1 := zF hX3 1
  have z2 := zF hX3 2
  have y0 : w1.cell? ⟨w.heap.size + 1 + 1, 0, none⟩ = some (.int .i64 0) := (zC hX3 _).trans rfl
  have y1 : w1.cell? ⟨w.heap.size + 1 + 1, 1, none⟩ = some (.int .i64 0) := (zC hX3 _).trans rfl
  have y2 : w1.cell? ⟨w.heap.size + 1 + 1, 2, none⟩ = some (.string ⟨#[]⟩) := (zC hX3 _).trans rfl
  obtain ⟨s0, s1, s2⟩ := set3 hX3 (.int .i64 3) (.int .i64 0) (str C)
  have HK := zB (((zA HKA).trans hk1).fresh (by omega) (zK w1 (w.heap.size + 1 + 1) (.int .i64 3) (.int .i64 0) (str C)))
  have eb : (bytV C).v = .agg #[.int .i64 3, .int .i64 0, str C] := rfl
  rw [eb]
  clear hX3 hk1
  go_wp2_with fail
  trace_state
  refine bodyPost_ret (v := .agg #[.int .i64 3, .int .i64 0, str C]) (by simp [results, go_sem, s0, s1, s2]) rfl ?_
  exact ⟨rfl, zA HK⟩
structure RunAt (w : World) (b : Nat) (sv rv : Value) (m : MS) : Prop where
 blk : ∃ cur : Array Value, w.heap[b]? = some (.cells cur 72 (0, 0)) ∧ cur.size = 52
 c0 : w.cell? ⟨b, 0, none⟩ = some sv
 c1 : w.cell? ⟨b, 1, none⟩ = some (.bool m.here)
 c2 : w.cell? ⟨b, 2, none⟩ = some rv
 ch : w.cell? ⟨b, 51, none⟩ = some (.int .i64 (m.st.length : Int))
 stk : ∀ (i : Nat) (v : ValA), m.st[i]? = some v → w.cell? ⟨b, 3 + i * 3, none⟩ = some (.int .i64 v.kind) ∧ w.cell? ⟨b, 3 + i * 3 + 1, none⟩ = some (.int .i64 v.n) ∧ w.cell? ⟨b, 3 + i * 3 + 2, none⟩ = some (str v.s)
 len : m.st.length ≤ 16
theorem RunAt.lt {w : World} {b : Nat} {sv rv : Value} {m : MS} (h : RunAt w b sv rv m) : b < w.heap.size := by
 obtain ⟨cur, hb, _⟩ := h.blk
 exact zE hb
theorem RunAt.keep {F : Nat → Prop} {w w' : World} {b : Nat} {sv rv : Value} {m : MS} (h : RunAt w b sv rv m) (hk : Wp F w w') (hF : ¬ F b) : RunAt w' b sv rv m := by
 obtain ⟨cur, hb, hs⟩ := h.blk
 have q := fun (o : Nat) => hk.cell (o := o) h.lt hF
 exact ⟨⟨cur, (hk.block b h.lt hF).trans hb, hs⟩, (q 0).trans h.c0, (q 1).trans h.c1, (q 2).trans h.c2, (q 51).trans h.ch, fun i v hv => ⟨(q _).trans (h.stk i v hv).1, (q _).trans (h.stk i v hv).2.1, (q _).trans (h.stk i v hv).2.2⟩, h.len⟩
theorem RunAt.keepF {w w' : World} {b : Nat} {sv rv : Value} {m : MS} (h : RunAt w b sv rv m) (hk : Wp (fun _ => False) w w') : RunAt w' b sv rv m := h.keep hk id
theorem take_get {α : Type} {l : List α} {n i : Nat} {v : α} (h : (l.take n)[i]? = some v) : i < n ∧ l[i]? = some v := by
 rw [List.getElem?_take] at h
 split at h
 ·exact ⟨‹_›, h⟩
 ·cases h
theorem RunAt.popped {w : World} {b : Nat} {sv rv : Value} {m : MS} (h : RunAt w b sv rv m) {n : Nat} (hn : m.st.length = n + 1) :
  RunAt (w.setCell ⟨b, 51, none⟩ (.int .i64 (n : Int))) b sv rv ⟨m.st.take n, m.here, m.vals⟩ := by
 obtain ⟨cur, hB, hs⟩ := h.blk
 have hE := zH (o := 51) hB (.int .i64 (n : Int))
 have q : ∀ o, o ≠ 51 → (w.setCell ⟨b, 51, none⟩ (.int .i64 (n : Int))).cell? ⟨b, o, none⟩ = w.cell? ⟨b, o, none⟩ := fun o ho => by
  rw [zC hE, zC hB, Array.getElem?_setIfInBounds_ne (Ne.symm ho)]
 have hl := h.len
 have hlen : (m.st.take n).length = n := by simp; omega
 refine ⟨⟨_, hE, by simpa using hs⟩, (q 0 (by omega)).trans h.c0, (q 1 (by omega)).trans h.c1, (q 2 (by omega)).trans h.c2, ?_, fun i v hv => ?_, ?_⟩
 ·rw [hlen, zC hE]
  simp [hs]
 ·obtain ⟨h1, h2⟩ := take_get hv
  have := h.stk i v h2
  exact ⟨(q _ (by omega)).trans this.1, (q _ (by omega)).trans this.2.1, (q _ (by omega)).trans this.2.2⟩
 ·show (m.st.take n).length ≤ 16
  omega
theorem keeps_one (w : World) (b o : Nat) (x : Value) : Wp (fun q => q = b) w (w.setCell ⟨b, o, none⟩ x) :=
 Wp.setCell (F := fun q => q = b) (p := ⟨b, o, none⟩) (Wp.refl (fun q => q = b) w) (fun _ => rfl) x
theorem pop_v {w : World} {b : Nat} {sv rv : Value} {m : MS} (h : RunAt w b sv rv m) {n : Nat} {a : ValA} (hn : m.st.length = n + 1) (ha : m.st[n]? = some a) :
  Calls Tryz.prog 38 #[.pointer (some ⟨b, 0, none⟩)] w fun e w' => e = .returned a.v ∧ RunAt w' b sv rv ⟨m.st.take n, m.here, m.vals⟩ ∧ Wp (fun q => q = b) w w' := by
 have hb : b < w.heap.size := h.lt
 have hl := h.len
 have h1 := h.keepF (kA w (.cells #[.int .i64 0, .int .i64 0, .string ⟨#[]⟩] 51))
 obtain ⟨cur, hB, hs⟩ := h1.blk
 have ch := h1.ch
 rw [hn, show ((n + 1 : Nat) : Int) = (n : Int) + 1 by omega] at ch
 have z := zF hB 51
 have i0 : (0 : Int) ≤ (n : Int) := by omega
 have i1 : (n : Int) < 16 := by omega
 have HP := zB ((h.popped hn).keepF (kA _ (.cells #[.int .i64 0, .int .i64 0, .string ⟨#[]⟩] 51)))
 have hX2 := heap_alloc_new (w.setCell ⟨b, 51, none⟩ (.int .i64 (n : Int))) (.cells #[.int .i64 0, .int .i64 0, .string ⟨#[]⟩] 51)
 rw [show (w.setCell ⟨b, 51, none⟩ (.int .i64 (n : Int))).heap.size = w.heap.size by simp] at hX2
 have HX2 := zB hX2
 have HK2 := zB ((keeps_one w b 51 (.int .i64 (n : Int))).alloc (.cells #[.int .i64 0, .int .i64 0, .string ⟨#[]⟩] 51))
 obtain ⟨cur2, hB2, hs2⟩ := h.blk
 have hE := zH (o := 51) hB2 (.int .i64 (n : Int))
 have q : ∀ o, o ≠ 51 → ((w.setCell ⟨b, 51, none⟩ (.int .i64 (n : Int))).alloc (.cells #[.int .i64 0, .int .i64 0, .string ⟨#[]⟩] 51)).cell? ⟨b, o, none⟩ = w.cell? ⟨b, o, none⟩ := fun o ho => by
  rw [(kA _ _).cell (by simpa using hb) id, zC hE, zC hB2, Array.getElem?_setIfInBounds_ne (Ne.symm ho)]
 have hst := h.stk n a ha
 have d0 := (q _ (by omega)).trans hst.1
 have d1 := (q _ (by omega)).trans hst.2.1
 have d2 := (q _ (by omega)).trans hst.2.2
 have dh : ((w.setCell ⟨b, 51, none⟩ (.int .i64 (n : Int))).alloc (.cells #[.int .i64 0, .int .i64 0, .string ⟨#[]⟩] 51)).cell? ⟨b, 51, none⟩ = some (.int .i64 (n : Int)) := by
  rw [(kA _ _).cell (by simpa using hb) id, zC hE]; simp [hs2]
 unfold ValA.v
 clear q hE hB hs hn ha h hX2 hst h1 hB2 hs2
 go_enter Tryz.func38, Tryz.ntmps38
 go_wp2_with fail
 generalize (w.setCell ⟨b, 51, none⟩ (.int .i64 (n : Int))).alloc (.cells #[.int .i64 0, .int .i64 0, .string ⟨#[]⟩] 51) = W at *
 have hX3 := zA HX2
 have z0 := zF hX3 0
 have z1 := zF hX3 1
 have z2 := zF hX3 2
 have y0 : W.cell? ⟨w.heap.size, 0, none⟩ = some (.int .i64 0) := (zC hX3 _).trans rfl
 have y1 : W.cell? ⟨w.heap.size, 1, none⟩ = some (.int .i64 0) := (zC hX3 _).trans rfl
 have y2 : W.cell? ⟨w.heap.size, 2, none⟩ = some (.string ⟨#[]⟩) := (zC hX3 _).trans rfl
 obtain ⟨s0, s1, s2⟩ := set3 hX3 (.int .i64 a.kind) (.int .i64 a.n) (str a.s)
 have HK3 := zB (zK W w.heap.size (.int .i64 a.kind) (.int .i64 a.n) (str a.s))
 clear hX3 ch z
 go_region
 go_wp2_with fail
 refine bodyPost_ret (v := .agg #[.int .i64 a.kind, .int .i64 a.n, str a.s]) (by simp [results, go_sem, s0, s1, s2]) rfl ?_
 have hne : ¬ b = w.heap.size := by omega
 refine ⟨rfl, ((zA HP).keep (zA HK3) hne).keepF (Wp.refl _ _).drew, ?_⟩
 exact ((zA HK2).then (zA HK3) (fun i hi e => by omega)).drew
theorem RunAt.pushed {w : World} {b : Nat} {sv rv : Value} {m : MS} (h : RunAt w b sv rv m) (v : ValA) (hn : m.st.length < 16) :
  RunAt ((((w.setCell ⟨b, 3 + m.st.length * 3, none⟩ (.int .i64 v.kind)).setCell ⟨b, 3 + m.st.length * 3 + 1, none⟩ (.int .i64 v.n)).setCell ⟨b, 3 + m.st.length * 3 + 2, none⟩ (str v.s)).setCell ⟨b, 51, none⟩ (.int .i64 ((m.st.length : Int) + 1))) b sv rv ⟨m.st ++ [v], m.here, m.vals⟩ := by
 obtain ⟨cur, hB, hs⟩ := h.blk
 generalize hN : m.st.length = n at *
 have hE := zH (o := 51) (zH (o := 3 + n * 3 + 2) (zH (o := 3 + n * 3 + 1) (zH (o := 3 + n * 3) hB (.int .i64 v.kind)) (.int .i64 v.n)) (str v.s)) (.int .i64 ((n : Int) + 1))
 have q : ∀ o, o ≠ 51 → o ≠ 3 + n * 3 → o ≠ 3 + n * 3 + 1 → o ≠ 3 + n * 3 + 2 → ((((w.setCell ⟨b, 3 + n * 3, none⟩ (.int .i64 v.kind)).setCell ⟨b, 3 + n * 3 + 1, none⟩ (.int .i64 v.n)).setCell ⟨b, 3 + n * 3 + 2, none⟩ (str v.s)).setCell ⟨b, 51, none⟩ (.int .i64 ((n : Int) + 1))).cell? ⟨b, o, none⟩ = w.cell? ⟨b, o, none⟩ := fun o h0 h1 h2 h3 => by
  rw [zC hE, zC hB, Array.getElem?_setIfInBounds_ne (Ne.symm h0), Array.getElem?_setIfInBounds_ne (Ne.symm h3), Array.getElem?_setIfInBounds_ne (Ne.symm h2), Array.getElem?_setIfInBounds_ne (Ne.symm h1)]
 refine ⟨⟨_, hE, by simpa using hs⟩, (q 0 (by omega) (by omega) (by omega) (by omega)).trans h.c0, (q 1 (by omega) (by omega) (by omega) (by omega)).trans h.c1, (q 2 (by omega) (by omega) (by omega) (by omega)).trans h.c2, ?_, fun i u hu => ?_, ?_⟩
 ·rw [zC hE]
  simp [hs, hN]
 ·by_cases hi : i < n
  ·rw [List.getElem?_append_left (by omega)] at hu
   have := h.stk i u hu
   exact ⟨(q _ (by omega) (by omega) (by omega) (by omega)).trans this.1, (q _ (by omega) (by omega) (by omega) (by omega)).trans this.2.1, (q _ (by omega) (by omega) (by omega) (by omega)).trans this.2.2⟩
  ·rw [List.getElem?_append_right (by omega), hN] at hu
   obtain ⟨h1, h2⟩ := List.getElem?_eq_some_iff.1 hu
   simp only [List.length_cons, List.length_nil] at h1
   obtain rfl : i = n := by omega
   simp at h2
   subst h2
   refine ⟨?_, ?_, ?_⟩
   ·rw [zC hE, Array.getElem?_setIfInBounds_ne (by omega), Array.getElem?_setIfInBounds_ne (by omega), Array.getElem?_setIfInBounds_ne (by omega)]; simp [Array.getElem?_setIfInBounds]; omega
   ·rw [zC hE, Array.getElem?_setIfInBounds_ne (by omega), Array.getElem?_setIfInBounds_ne (by omega)]; simp [Array.getElem?_setIfInBounds]; omega
   ·rw [zC hE, Array.getElem?_setIfInBounds_ne (by omega)]; simp [Array.getElem?_setIfInBounds]; omega
 ·show (m.st ++ [v]).length ≤ 16
  simp
  omega
theorem push_v {w : World} {b : Nat} {sv rv : Value} {m : MS} (h : RunAt w b sv rv m) (v : ValA) (hn : m.st.length < 16) :
  Calls Tryz.prog 48 #[.pointer (some ⟨b, 0, none⟩), v.v] w fun e w' => e = .returned (.tuple #[]) ∧ RunAt w' b sv rv ⟨m.st ++ [v], m.here, m.vals⟩ ∧ Wp (fun q => q = b) w w' := by
 have hX := heap_alloc_new w (.cells #[.int .i64 v.kind, .int .i64 v.n, str v.s] 51)
 have HK := zB (kA w (.cells #[.int .i64 v.kind, .int .i64 v.n, str v.s] 51))
 have hW := h.keepF (zA HK)
 unfold ValA.v
 go_enter Tryz.func48, Tryz.ntmps48
 go_wp2_with fail
 generalize w.alloc (.cells #[.int .i64 v.kind, .int .i64 v.n, str v.s] 51) = W at *
 have y5 : W.cell? ⟨w.heap.size, 0, none⟩ = some (.int .i64 v.kind) := (zC hX _).trans rfl
 have y6 : W.cell? ⟨w.heap.size, 1, none⟩ = some (.int .i64 v.n) := (zC hX _).trans rfl
 have y7 : W.cell? ⟨w.heap.size, 2, none⟩ = some (str v.s) := (zC hX _).trans rfl
 obtain ⟨cur, hB, hs⟩ := hW.blk
 have HU := zB (hW.pushed v hn)
 have ch := hW.ch
 have zh := zF hB 51
 generalize hN : m.st.length = n at *
 have z0 := zF hB (3 + n * 3)
 have z1 := zF hB (3 + n * 3 + 1)
 have z2 := zF hB (3 + n * 3 + 2)
 have ex : ∀ o, o < 52 → ∃ x, W.cell? ⟨b, o, none⟩ = some x := fun o ho => ⟨cur[o]'(by omega), by rw [zC hB]; exact Array.getElem?_eq_getElem _⟩
 obtain ⟨x0, y0⟩ := ex (3 + n * 3) (by omega)
 obtain ⟨x1, y1⟩ := ex (3 + n * 3 + 1) (by omega)
 obtain ⟨x2, y2⟩ := ex (3 + n * 3 + 2) (by omega)
 have i0 : (0 : Int) ≤ (n : Int) := by omega
 have i1 : (n : Int) < 16 := by omega
 have j0 : 3 + n * 3 ≠ 51 := by omega
 have j1 : 3 + n * 3 + 1 ≠ 51 := by omega
 have j2 : 3 + n * 3 + 2 ≠ 51 := by omega
 clear ex hB hs h hN hW hX
 go_region
 go_wp2_with fail
 go_end0
 refine ⟨rfl, (zA HU).keepF (Wp.refl _ _).drew, ?_⟩
 have k0 : Wp (fun q => q = b) w W := (zA HK).any
 exact (Wp.setCell (p := ⟨b, 51, none⟩) (Wp.setCell (p := ⟨b, 3 + n * 3 + 2, none⟩) (Wp.setCell (p := ⟨b, 3 + n * 3 + 1, none⟩) (Wp.setCell (p := ⟨b, 3 + n * 3, none⟩) k0 (fun _ => rfl) _) (fun _ => rfl) _) (fun _ => rfl) _) (fun _ => rfl) _).drew
end Go.Proofs.YtbdlcaamanhapaaGreatDoor
