import Derived.Test.YtcicaifioghciaaGreatDoorVw
namespace Go.Proofs.YtcicaifioghciaaGreatDoor
open Go.RowKit Go.Maps
theorem fldT_isK {S : List FieldA} {i : ValA} (hS : ∀ f ∈ S, isK f.type) (hf : formB i = 0) (hr : rightF S i = true) (h : (opA i.kind).of = 4 ∨ (opA i.kind).gives = 4) : isK (fldT S i) := by
  obtain ⟨n0, hn⟩ := names_ok hf hr h
  have hlt : i.n.toNat < S.length := by omega
  unfold fldT
  rw [List.getElem?_eq_getElem hlt]
  exact hS _ (List.getElem_mem hlt)
theorem behB_isK {S : List FieldA} {i : ValA} {st st' : List Int} (hS : ∀ f ∈ S, isK f.type) (hf : formB i = 0) (hr : rightF S i = true) (hk : ∀ k ∈ st, isK k) (h : behB S i st = some st') : ∀ k ∈ st', isK k := by
  have e : st' = afterB S i st := by
    unfold behB at h
    split at h
    · cases h
    · split at h
      · cases h
      · split at h
        · cases h; rfl
        · cases h
  subst e
  obtain ⟨_, _, _, h4⟩ := op_facts _ (op_cases (formB_zero hf).1)
  intro k hk'
  unfold afterB at hk'
  rcases List.mem_append.1 hk' with q | q
  · exact hk k (List.mem_of_mem_take q)
  · by_cases hg : (opA i.kind).gives ≠ 0
    · rw [if_pos hg, List.mem_singleton] at q
      subst q
      rcases h4 with e | e | e | e | e
      · exact absurd e hg
      · unfold ofF; rw [e]; exact Or.inl rfl
      · unfold ofF; rw [e]; exact Or.inr (Or.inl rfl)
      · unfold ofF; rw [e]; exact Or.inr (Or.inr rfl)
      · unfold ofF; rw [if_pos e]; exact fldT_isK hS hf hr (Or.inr e)
    · rw [if_neg hg] at q
      cases q
theorem schema_isK {S : List FieldA} (h : errS S = 0) : ∀ f ∈ S, isK f.type := by
  intro f hf
  have hs : schemaB S = true := by
    rcases errS_eq S with ⟨q, _⟩ | ⟨_, q⟩
    · exact q
    · rw [h] at q; cases q
  unfold schemaB at hs
  simp only [Bool.and_eq_true, List.all_eq_true] at hs
  have hq := hs.1.1.2 f hf
  unfold fieldOK wideB at hq
  simp only [Bool.and_eq_true, decide_eq_true_iff] at hq
  unfold isK
  have hq2 := hq.2
  repeat' split at hq2
  all_goals omega
/-- The places ahead, as two rows. -/
def rbs (hv : List (Bool × List Int)) : List Value := hv.map fun z => Value.bool z.1
def rss (hv : List (Bool × List Int)) : List Value := hv.map fun z => str (z.2.map letR)
theorem rbs_length (hv : List (Bool × List Int)) : (rbs hv).length = hv.length := by simp [rbs]
theorem rss_length (hv : List (Bool × List Int)) : (rss hv).length = hv.length := by simp [rss]
theorem rbs_get {hv : List (Bool × List Int)} {k : Nat} {z : Bool × List Int} (h : hv[k]? = some z) : (rbs hv)[k]? = some (.bool z.1) := by simp [rbs, h]
theorem rss_get {hv : List (Bool × List Int)} {k : Nat} {z : Bool × List Int} (h : hv[k]? = some z) : (rss hv)[k]? = some (str (z.2.map letR)) := by simp [rss, h]
theorem rbs_set {hv : List (Bool × List Int)} {k : Nat} {z y : Bool × List Int} (h : hv.length = k) : (rbs (hv ++ [z])).set k (.bool y.1) = rbs (hv ++ [y]) := by
  subst h
  simp [rbs]
theorem rss_set {hv : List (Bool × List Int)} {k : Nat} {z y : Bool × List Int} (h : hv.length = k) : (rss (hv ++ [z])).set k (str (y.2.map letR)) = rss (hv ++ [y]) := by
  subst h
  simp [rss]
/-- Small stacks of kinds; and the instruction at each place reached does. -/
structure GoodH (S : List FieldA) (l : List ValA) (hv : List (Bool × List Int)) : Prop where
  small : ∀ (k : Nat) (z : Bool × List Int), hv[k]? = some z → z.2.length ≤ 16 ∧ ∀ k ∈ z.2, isK k
  beh : ∀ (k : Nat) (st : List Int), hv[k]? = some (true, st) → ∃ x st', l[k]? = some x ∧ behB S x st = some st'
theorem GoodH.snoc {S : List FieldA} {l : List ValA} {hv : List (Bool × List Int)} {z : Bool × List Int} (h : GoodH S l hv) (hz : z.2.length ≤ 16 ∧ ∀ k ∈ z.2, isK k) (hb : ∀ st, z = (true, st) → ∃ x st', l[hv.length]? = some x ∧ behB S x st = some st') : GoodH S l (hv ++ [z]) := by
  constructor
  · intro k y hy
    by_cases hk : k < hv.length
    · rw [List.getElem?_append_left hk] at hy; exact h.small k y hy
    · rw [List.getElem?_append_right (by omega)] at hy
      cases hj : k - hv.length with
      | zero => rw [hj] at hy; simp at hy; subst hy; exact hz
      | succ j => rw [hj] at hy; simp at hy
  · intro k st hy
    by_cases hk : k < hv.length
    · rw [List.getElem?_append_left hk] at hy; exact h.beh k st hy
    · rw [List.getElem?_append_right (by omega)] at hy
      cases hj : k - hv.length with
      | zero =>
        rw [hj] at hy
        simp at hy
        have := hb st hy
        rwa [show hv.length = k by omega] at this
      | succ j => rw [hj] at hy; simp at hy
/-- One instruction's turn at a place that is pulled. -/
theorem pullB_off {S : List FieldA} {l : List ValA} {hv : List (Bool × List Int)} {p k : Nat} {z : Bool × List Int} {st : List Int} (h : pullB S l hv p k = some z) (hk : hv[k]? = some (false, st)) : pullB S l hv p (k + 1) = some z := by
  rw [pullB, h]
  have : bringsB S l hv k p = none := by unfold bringsB; rw [hk]
  rw [this]
theorem pullB_by {S : List FieldA} {l : List ValA} {hv : List (Bool × List Int)} {p k : Nat} {z : Bool × List Int} {st : List Int} {x : ValA} (h : pullB S l hv p k = some z) (hk : hv[k]? = some (true, st)) (hx : l[k]? = some x) (hl : leadsB k x p = false) : pullB S l hv p (k + 1) = some z := by
  rw [pullB, h]
  have : bringsB S l hv k p = none := by unfold bringsB; rw [hk, hx]; simp [hl]
  rw [this]
theorem pullB_on {S : List FieldA} {l : List ValA} {hv : List (Bool × List Int)} {p k : Nat} {z : Bool × List Int} {st st' : List Int} {x : ValA} (h : pullB S l hv p k = some z) (hk : hv[k]? = some (true, st)) (hx : l[k]? = some x) (hl : leadsB k x p = true) (hb : behB S x st = some st') : pullB S l hv p (k + 1) = if z.1 = true ∧ z.2 ≠ st' then none else some (true, st') := by
  rw [pullB, h]
  have : bringsB S l hv k p = some st' := by unfold bringsB; rw [hk, hx]; simp [hl, hb]
  rw [this]
theorem pullB_none {S : List FieldA} {l : List ValA} {hv : List (Bool × List Int)} {p : Nat} : ∀ {n k : Nat}, pullB S l hv p k = none → pullB S l hv p (k + n) = none
  | 0, _, h => h
  | n + 1, k, h => by rw [show k + (n + 1) = (k + n) + 1 by omega, pullB, pullB_none h]
/-- What stacks answers. -/
def Stacked (w : World) (vb vs : Value) (bad : Int) : Option (List (Bool × List Int)) × Nat × Int → Prop
  | (none, k, _) => vb = .slice none 0 0 ∧ vs = .slice none 0 0 ∧ bad = (k : Int)
  | (some hv, _, _) => bad = -1 ∧ w.ownsRow 0 4 1 vb hv.length (rbs hv) ∧ w.ownsRow 0 9 1 vs hv.length (rss hv)
theorem pullA_at {S : List FieldA} {l : List ValA} {k : Nat} {x : ValA} {hv : List (Bool × List Int)} (h : l[k]? = some x) : pullA S l k (l.drop k) hv = match pullB S l hv k k with
    | none => (none, k, 112)
    | some z => if z.1 = true ∧ behB S x z.2 = none then (none, k, 112) else pullA S l (k + 1) (l.drop (k + 1)) (hv ++ [z]) := by
  obtain ⟨hk, hx⟩ := List.getElem?_eq_some_iff.1 h
  rw [List.drop_eq_getElem_cons hk, hx, pullA_cons]
  cases pullB S l hv k k <;> rfl
theorem pullA_bad {S : List FieldA} {l : List ValA} {k : Nat} {hv : List (Bool × List Int)} (hk : k ≤ l.length) (h : pullB S l hv k k = none) : pullA S l k (l.drop k) hv = (none, k, 112) := by
  by_cases hlt : k < l.length
  · rw [pullA_at (List.getElem?_eq_getElem hlt), h]
  · obtain rfl : k = l.length := by omega
    rw [List.drop_length, pullA_nil, h]

end Go.Proofs.YtcicaifioghciaaGreatDoor
