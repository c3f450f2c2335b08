import Derived.Test.YtfaokmbhbjfacaaDoorJt
import Derived.Test.YtfaokmbhbjfacaaDoorJs
import Derived.Test.YtfaokmbhbjfacaaDoorMm
import Derived.Test.YtfaokmbhbjfacaaDoorMn
namespace Go.Proofs.YtfaokmbhbjfacaaDoor
open Go.RowKit Go.Maps
theorem pullA_cons {S : List FieldA} {l : List ValA} {k : Nat} {x : ValA} {rest : List ValA} {hv : List (Bool × List Int)} : pullA S l k (x :: rest) hv = match pullB S l hv k k with
    | none => (none, k, 112)
    | some z => if z.1 = true ∧ behB S x z.2 = none then (none, k, 112) else pullA S l (k + 1) rest (hv ++ [z]) := by rw [pullA]; cases pullB S l hv k k <;> rfl
theorem pullA_nil {S : List FieldA} {l : List ValA} {k : Nat} {hv : List (Bool × List Int)} : pullA S l k [] hv = match pullB S l hv k k with
    | none => (none, k, 112)
    | some z => if z.1 = true ∧ z.2 ≠ [] then (none, k, 112) else (some (hv ++ [z]), 0, 0) := by rw [pullA]; cases pullB S l hv k k <;> rfl
def pairP (p : PlA) : Bool × List Int := (p.r, p.st)
theorem prefix_push {S : List FieldA} {l : List ValA} {hv : List (Bool × List Int)} {z : Bool × List Int} {k : Nat} (hlen : hv.length = k) (hi : ∀ j, j < k → hv[j]? = some (pairP (pushB S l hv j j))) (hz : z = pairP (pushB S l hv k k)) : ∀ j, j < k + 1 → (hv ++ [z])[j]? = some (pairP (pushB S l (hv ++ [z]) j j)) := by
  intro j hj
  rw [push_more S l hv z j j (by omega)]
  by_cases h : j < k
  · rw [List.getElem?_append_left (by omega)]; exact hi j h
  · obtain rfl : j = k := by omega
    rw [List.getElem?_append_right (by omega), hlen, Nat.sub_self, hz]
    rfl
/-- The places pushed and the places pulled are the same, and wrong at the same place. -/
theorem run_pull (S : List FieldA) (l : List ValA) (h6 : ∀ i ∈ l, (opA i.kind).opd = 6 ↔ (i.kind = 25 ∨ i.kind = 26)) : ∀ (rest : List ValA) (k : Nat) (hv : List (Bool × List Int)) (ps : List PlA), rest = l.drop k → k ≤ l.length → hv.length = k → ps.length = l.length + 1 → (∀ t, t ≤ l.length → ps[t]? = some (pushB S l hv t k)) → (∀ j, j < k → hv[j]? = some (pairP (pushB S l hv j j))) →
    (runA S k rest ps).2 = (pullA S l k rest hv).2 ∧ (runA S k rest ps).1.map (List.map pairP) = (pullA S l k rest hv).1
  | [], k, hv, ps, hr, hkl, hlen, hps, hP, hi => by
    have hk : k = l.length := by
      have := congrArg List.length hr
      rw [List.length_drop] at this
      simp at this
      omega
    have hpk := hP k (by omega)
    rw [runA, pullA_nil, pull_push, hpk]
    simp only [Option.getD_some]
    have hz := push_zero S l hv k k
    have hfin : ps.map pairP = hv ++ [pairP (pushB S l hv k k)] := by
      apply List.ext_getElem?
      intro t
      rw [List.getElem?_map]
      by_cases ht : t ≤ l.length
      · rw [hP t ht]
        by_cases htk : t < k
        · rw [List.getElem?_append_left (by omega), hi t htk]
          have := push_stays S l hv t (k - t)
          rw [show t + (k - t) = k by omega] at this
          rw [this]
          rfl
        · obtain rfl : t = k := by omega
          rw [List.getElem?_append_right (by omega), hlen, Nat.sub_self]
          rfl
      · rw [List.getElem?_eq_none (by omega), List.getElem?_eq_none (by simp; omega)]
        rfl
    unfold pairP at hfin
    generalize pushB S l hv k k = P at *
    obtain ⟨r, st, u⟩ := P
    cases u with
    | true => simp
    | false =>
      cases r with
      | false =>
        have hz' := hz rfl
        unfold plZ at hz'
        simp only [PlA.mk.injEq] at hz'
        obtain ⟨_, rfl, _⟩ := hz'
        simp only [Bool.false_eq_true, List.length_nil, Nat.lt_irrefl, or_self, if_false, false_and]
        exact ⟨trivial, by rw [Option.map_some]; congr 1⟩
      | true =>
        cases st with
        | nil =>
          simp only [Bool.false_eq_true, List.length_nil, Nat.lt_irrefl, or_self, if_false, ne_eq, not_true, and_false]
          exact ⟨trivial, by rw [Option.map_some]; congr 1⟩
        | cons a b => simp
  | x :: rest, k, hv, ps, hr, hkl, hlen, hps, hP, hi => by
    have hkl' : k < l.length := by
      have := congrArg List.length hr
      rw [List.length_drop] at this
      simp at this
      omega
    have hx : l[k]? = some x ∧ rest = l.drop (k + 1) := by
      rw [List.drop_eq_getElem_cons hkl'] at hr
      simp only [List.cons.injEq] at hr
      exact ⟨by rw [List.getElem?_eq_getElem hkl', hr.1], hr.2⟩
    obtain ⟨hxk, hrest⟩ := hx
    have hpk := hP k (by omega)
    rw [runA, pullA_cons, pull_push]
    cases hrr : (pushB S l hv k k).r with
    | false =>
      have hz := push_zero S l hv k k hrr
      have hs : stepA S k x ps = some ps := by
        unfold stepA
        rw [hpk]
        simp only [Option.getD_some, hrr, if_true]
      rw [hs, hz]
      simp only [plZ, Bool.false_eq_true, if_false, false_and]
      refine run_pull S l h6 rest (k + 1) (hv ++ [(false, [])]) ps hrest hkl' (by simp [hlen]) hps (fun t ht => ?_) (prefix_push hlen hi (by rw [hz]; rfl))
      rw [pushB, push_more S l hv _ t k (by omega)]
      have hb : bringsB S l (hv ++ [(false, [])]) k t = none := by
        unfold bringsB
        rw [List.getElem?_append_right (by omega), hlen, Nat.sub_self, hxk]
        rfl
      rw [hb]
      exact hP t ht
    | true =>
      rw [stepA_on hpk hrr]
      by_cases hu : (pushB S l hv k k).u = true
      · rw [if_pos hu, if_pos hu]
        exact ⟨rfl, rfl⟩
      · rw [if_neg hu, if_neg hu]
        cases hb : behB S x (pushB S l hv k k).st with
        | none =>
          simp only [Option.map_none, hb, and_self, if_true]
        | some st =>
          simp only [Option.map_some, hb, reduceCtorEq, and_false, if_false]
          refine run_pull S l h6 rest (k + 1) (hv ++ [(true, (pushB S l hv k k).st)]) _ hrest hkl' (by simp [hlen]) ?_ (fun t ht => step_push hxk hlen hb (h6 x (List.mem_of_getElem? hxk)) (hP t ht)) (prefix_push hlen hi (by rw [pairP, hrr]))
          split <;> split <;> simp [bringAt_length, hps]

end Go.Proofs.YtfaokmbhbjfacaaDoor
namespace Go.Proofs.YtfaokmbhbjfacaaDoor
open Go.RowKit Go.Maps
theorem fldT_isK {S : List FieldA} {i : ValA} (hS : ∀ f ∈ S, isK f.type) (hf : formB i = 0) (hr : rightF S i = true) (h : (opA i.kind).of = 4 ∨ (opA i.kind).gives = 4) : isK (fldT S i) := by
  obtain ⟨n0, hn⟩ := names_ok hf hr h
  have hlt : i.n.toNat < S.length := by omega
  unfold fldT
  rw [List.getElem?_eq_getElem hlt]
  exact hS _ (List.getElem_mem hlt)
theorem behB_isK {S : List FieldA} {i : ValA} {st st' : List Int} (hS : ∀ f ∈ S, isK f.type) (hf : formB i = 0) (hr : rightF S i = true) (hk : ∀ k ∈ st, isK k) (h : behB S i st = some st') : ∀ k ∈ st', isK k := by
  have e : st' = afterB S i st := by
    unfold behB at h
    split at h
    · cases h
    · split at h
      · cases h
      · split at h
        · cases h; rfl
        · cases h
  subst e
  obtain ⟨_, _, _, h4⟩ := op_facts _ (op_cases (formB_zero hf).1)
  intro k hk'
  unfold afterB at hk'
  rcases List.mem_append.1 hk' with q | q
  · exact hk k (List.mem_of_mem_take q)
  · by_cases hg : (opA i.kind).gives ≠ 0
    · rw [if_pos hg, List.mem_singleton] at q
      subst q
      rcases h4 with e | e | e | e | e
      · exact absurd e hg
      · unfold ofF; rw [e]; exact Or.inl rfl
      · unfold ofF; rw [e]; exact Or.inr (Or.inl rfl)
      · unfold ofF; rw [e]; exact Or.inr (Or.inr rfl)
      · unfold ofF; rw [if_pos e]; exact fldT_isK hS hf hr (Or.inr e)
    · rw [if_neg hg] at q
      cases q
theorem schema_isK {S : List FieldA} (h : errS S = 0) : ∀ f ∈ S, isK f.type := by
  intro f hf
  have hs : schemaB S = true := by
    rcases errS_eq S with ⟨q, _⟩ | ⟨_, q⟩
    · exact q
    · rw [h] at q; cases q
  unfold schemaB at hs
  simp only [Bool.and_eq_true, List.all_eq_true] at hs
  have hq := hs.1.1.2 f hf
  unfold fieldOK wideB at hq
  simp only [Bool.and_eq_true, decide_eq_true_iff] at hq
  unfold isK
  have hq2 := hq.2
  repeat' split at hq2
  all_goals omega
/-- The places ahead, as two rows. -/
def rbs (hv : List (Bool × List Int)) : List Value := hv.map fun z => Value.bool z.1
def rss (hv : List (Bool × List Int)) : List Value := hv.map fun z => str (z.2.map letR)
theorem rbs_length (hv : List (Bool × List Int)) : (rbs hv).length = hv.length := by simp [rbs]
theorem rss_length (hv : List (Bool × List Int)) : (rss hv).length = hv.length := by simp [rss]
theorem rbs_get {hv : List (Bool × List Int)} {k : Nat} {z : Bool × List Int} (h : hv[k]? = some z) : (rbs hv)[k]? = some (.bool z.1) := by simp [rbs, h]
theorem rss_get {hv : List (Bool × List Int)} {k : Nat} {z : Bool × List Int} (h : hv[k]? = some z) : (rss hv)[k]? = some (str (z.2.map letR)) := by simp [rss, h]
theorem rbs_set {hv : List (Bool × List Int)} {k : Nat} {z y : Bool × List Int} (h : hv.length = k) : (rbs (hv ++ [z])).set k (.bool y.1) = rbs (hv ++ [y]) := by
  subst h
  simp [rbs]
theorem rss_set {hv : List (Bool × List Int)} {k : Nat} {z y : Bool × List Int} (h : hv.length = k) : (rss (hv ++ [z])).set k (str (y.2.map letR)) = rss (hv ++ [y]) := by
  subst h
  simp [rss]
/-- Small stacks of kinds; and the instruction at each place reached does. -/
structure GoodH (S : List FieldA) (l : List ValA) (hv : List (Bool × List Int)) : Prop where
  small : ∀ (k : Nat) (z : Bool × List Int), hv[k]? = some z → z.2.length ≤ 16 ∧ ∀ k ∈ z.2, isK k
  beh : ∀ (k : Nat) (st : List Int), hv[k]? = some (true, st) → ∃ x st', l[k]? = some x ∧ behB S x st = some st'
theorem GoodH.snoc {S : List FieldA} {l : List ValA} {hv : List (Bool × List Int)} {z : Bool × List Int} (h : GoodH S l hv) (hz : z.2.length ≤ 16 ∧ ∀ k ∈ z.2, isK k) (hb : ∀ st, z = (true, st) → ∃ x st', l[hv.length]? = some x ∧ behB S x st = some st') : GoodH S l (hv ++ [z]) := by
  constructor
  · intro k y hy
    by_cases hk : k < hv.length
    · rw [List.getElem?_append_left hk] at hy; exact h.small k y hy
    · rw [List.getElem?_append_right (by omega)] at hy
      cases hj : k - hv.length with
      | zero => rw [hj] at hy; simp at hy; subst hy; exact hz
      | succ j => rw [hj] at hy; simp at hy
  · intro k st hy
    by_cases hk : k < hv.length
    · rw [List.getElem?_append_left hk] at hy; exact h.beh k st hy
    · rw [List.getElem?_append_right (by omega)] at hy
      cases hj : k - hv.length with
      | zero =>
        rw [hj] at hy
        simp at hy
        have := hb st hy
        rwa [show hv.length = k by omega] at this
      | succ j => rw [hj] at hy; simp at hy
/-- One instruction's turn at a place that is pulled. -/
theorem pullB_off {S : List FieldA} {l : List ValA} {hv : List (Bool × List Int)} {p k : Nat} {z : Bool × List Int} {st : List Int} (h : pullB S l hv p k = some z) (hk : hv[k]? = some (false, st)) : pullB S l hv p (k + 1) = some z := by
  rw [pullB, h]
  have : bringsB S l hv k p = none := by unfold bringsB; rw [hk]
  rw [this]
theorem pullB_by {S : List FieldA} {l : List ValA} {hv : List (Bool × List Int)} {p k : Nat} {z : Bool × List Int} {st : List Int} {x : ValA} (h : pullB S l hv p k = some z) (hk : hv[k]? = some (true, st)) (hx : l[k]? = some x) (hl : leadsB k x p = false) : pullB S l hv p (k + 1) = some z := by
  rw [pullB, h]
  have : bringsB S l hv k p = none := by unfold bringsB; rw [hk, hx]; simp [hl]
  rw [this]
theorem pullB_on {S : List FieldA} {l : List ValA} {hv : List (Bool × List Int)} {p k : Nat} {z : Bool × List Int} {st st' : List Int} {x : ValA} (h : pullB S l hv p k = some z) (hk : hv[k]? = some (true, st)) (hx : l[k]? = some x) (hl : leadsB k x p = true) (hb : behB S x st = some st') : pullB S l hv p (k + 1) = if z.1 = true ∧ z.2 ≠ st' then none else some (true, st') := by
  rw [pullB, h]
  have : bringsB S l hv k p = some st' := by unfold bringsB; rw [hk, hx]; simp [hl, hb]
  rw [this]
theorem pullB_none {S : List FieldA} {l : List ValA} {hv : List (Bool × List Int)} {p : Nat} : ∀ {n k : Nat}, pullB S l hv p k = none → pullB S l hv p (k + n) = none
  | 0, _, h => h
  | n + 1, k, h => by rw [show k + (n + 1) = (k + n) + 1 by omega, pullB, pullB_none h]
/-- What stacks answers. -/
def Stacked (w : World) (vb vs : Value) (bad : Int) : Option (List (Bool × List Int)) × Nat × Int → Prop
  | (none, k, _) => vb = .slice none 0 0 ∧ vs = .slice none 0 0 ∧ bad = (k : Int)
  | (some hv, _, _) => bad = -1 ∧ w.ownsRow 0 4 1 vb hv.length (rbs hv) ∧ w.ownsRow 0 9 1 vs hv.length (rss hv)
theorem pullA_at {S : List FieldA} {l : List ValA} {k : Nat} {x : ValA} {hv : List (Bool × List Int)} (h : l[k]? = some x) : pullA S l k (l.drop k) hv = match pullB S l hv k k with
    | none => (none, k, 112)
    | some z => if z.1 = true ∧ behB S x z.2 = none then (none, k, 112) else pullA S l (k + 1) (l.drop (k + 1)) (hv ++ [z]) := by
  obtain ⟨hk, hx⟩ := List.getElem?_eq_some_iff.1 h
  rw [List.drop_eq_getElem_cons hk, hx, pullA_cons]
  cases pullB S l hv k k <;> rfl
theorem pullA_bad {S : List FieldA} {l : List ValA} {k : Nat} {hv : List (Bool × List Int)} (hk : k ≤ l.length) (h : pullB S l hv k k = none) : pullA S l k (l.drop k) hv = (none, k, 112) := by
  by_cases hlt : k < l.length
  · rw [pullA_at (List.getElem?_eq_getElem hlt), h]
  · obtain rfl : k = l.length := by omega
    rw [List.drop_length, pullA_nil, h]

end Go.Proofs.YtfaokmbhbjfacaaDoor
namespace Go.Proofs.YtfaokmbhbjfacaaDoor
open Go.RowKit Go.Maps
theorem field_at {S : List FieldA} {x : ValA} {m : MS} (hf : formB x = 0) (hr : rightF S x = true) (hR : rowOK S m.here m.vals) (ho : (opA x.kind).opd = 3 ∨ (opA x.kind).opd = 4 ∨ (opA x.kind).opd = 5) : 0 ≤ x.n ∧ x.n.toNat < S.length ∧ (m.here = true → x.n.toNat < m.vals.length) := by
  have h0 := form_field hf ho
  have h1 : x.n < S.length := by
    unfold rightF at hr
    rcases ho with h | h | h
    · rw [if_pos h] at hr; simpa using hr
    · rw [if_neg (by omega), if_pos h] at hr; simp at hr; exact hr.1
    · rw [if_neg (by omega), if_neg (by omega), if_pos h] at hr; simp at hr; exact hr.1
  refine ⟨h0.1, by omega, fun hh => ?_⟩
  unfold rowOK at hR
  rw [if_pos hh] at hR
  omega
theorem good_len {v : ValA} (h : goodV v) : v.s.length ≤ 20 := by
  rcases h with ⟨_, h⟩ | ⟨_, _, h⟩ | ⟨_, _, h⟩
  · simp [h]
  · simp [h]
  · exact h
theorem MR.to {w0 w : World} {b : Nat} {sv rv : Value} {m m' : MS} (h : MR w0 w b sv rv m) (e : m = m') : MR w0 w b sv rv m' := e ▸ h
/-- One step of the landed machine, if it is no jump. -/
theorem step_v {w0 w : World} {b : Nat} {sv rv : Value} {m : MS} (S : List FieldA) (h : MR w0 w b sv rv m) (hT : Types w0) (hS : FldsAt w0 sv S) (hz : errS S = 0) (x : ValA) {ts ts' : List Int} (hM : TyM S m ts) (hb : behB S x ts = some ts') (hf : formB x = 0) (hr : rightF S x = true) (hj : x.kind ≠ 25 ∧ x.kind ≠ 26) :
    Calls Tryd.prog 44 #[.pointer (some ⟨b, 0, none⟩), x.v] w fun e w' => e = .returned (.tuple #[]) ∧ (∃ rv', MR w0 w' b sv rv' (stepM S x m)) ∧ Keeps (Own b rv) w w' := by
  obtain ⟨b1, _, b3, b4⟩ := beh_parts hb
  have hlen : ts.length = m.st.length := by rw [← hM.ty]; simp
  have hc := op_cases (formB_zero hf).1
  have hfld := field_at (m := m) hf hr hM.row
  have hl16 : (m.st.take (m.st.length - (opA x.kind).takes) ++ giveM S x m).length ≤ 16 := by
    have hst := (step_ty (schema_isK hz) hf hr hM hb).ty
    have := congrArg List.length hst
    rw [List.length_map] at this
    show (stepM S x m).st.length ≤ 16
    omega
  obtain ⟨o, n, s⟩ := x
  have one : ∀ {W : World} {m' : MS}, MR w0 W b sv rv m' ∧ Keeps (fun q => q = b) w W → m' = stepM S ⟨o, n, s⟩ m → (∃ rv', MR w0 W b sv rv' (stepM S ⟨o, n, s⟩ m)) ∧ Keeps (Own b rv) w W := fun hq e => ⟨⟨rv, hq.1.to e⟩, hq.2.mono fun q _ e => Or.inl e⟩
  simp only at hc hj b1
  have hgood := hM.good
  simp only [List.mem_cons, List.not_mem_nil, or_false] at hc
  rcases hc with rfl | rfl | rfl | rfl | rfl | rfl | rfl | rfl | rfl | rfl | rfl | rfl | rfl | rfl | rfl | rfl | rfl | rfl | rfl | rfl | rfl | rfl | rfl | rfl | rfl | rfl
  · have hl : m.st.length < 16 := by
      have : (m.st.take (m.st.length - 0) ++ [toldV S ⟨1, n, s⟩ m]).length ≤ 16 := hl16
      rw [take_all, List.length_append] at this
      simp only [List.length_cons, List.length_nil] at this
      omega
    refine (stepA_v S h hS ⟨1, n, s⟩ (by simp) (fun q => absurd q (by simp)) hl).mono fun e W hq => ⟨hq.1, one hq.2 ?_⟩
    show _ = MS.mk (m.st.take (m.st.length - 0) ++ [toldV S ⟨1, n, s⟩ m]) m.here m.vals
    rw [take_all]
  · have hl : m.st.length < 16 := by
      have : (m.st.take (m.st.length - 0) ++ [toldV S ⟨2, n, s⟩ m]).length ≤ 16 := hl16
      rw [take_all, List.length_append] at this
      simp only [List.length_cons, List.length_nil] at this
      omega
    refine (stepA_v S h hS ⟨2, n, s⟩ (by simp) (fun q => absurd q (by simp)) hl).mono fun e W hq => ⟨hq.1, one hq.2 ?_⟩
    show _ = MS.mk (m.st.take (m.st.length - 0) ++ [toldV S ⟨2, n, s⟩ m]) m.here m.vals
    rw [take_all]
  · have hl : m.st.length < 16 := by
      have : (m.st.take (m.st.length - 0) ++ [toldV S ⟨3, n, s⟩ m]).length ≤ 16 := hl16
      rw [take_all, List.length_append] at this
      simp only [List.length_cons, List.length_nil] at this
      omega
    refine (stepA_v S h hS ⟨3, n, s⟩ (by simp) (fun q => absurd q (by simp)) hl).mono fun e W hq => ⟨hq.1, one hq.2 ?_⟩
    show _ = MS.mk (m.st.take (m.st.length - 0) ++ [toldV S ⟨3, n, s⟩ m]) m.here m.vals
    rw [take_all]
  · have hl : m.st.length < 16 := by
      have : (m.st.take (m.st.length - 0) ++ [toldV S ⟨4, n, s⟩ m]).length ≤ 16 := hl16
      rw [take_all, List.length_append] at this
      simp only [List.length_cons, List.length_nil] at this
      omega
    refine (stepA_v S h hS ⟨4, n, s⟩ (by simp) (fun q => absurd q (by simp)) hl).mono fun e W hq => ⟨hq.1, one hq.2 ?_⟩
    show _ = MS.mk (m.st.take (m.st.length - 0) ++ [toldV S ⟨4, n, s⟩ m]) m.here m.vals
    rw [take_all]
  · have hl : m.st.length < 16 := by
      have : (m.st.take (m.st.length - 0) ++ [toldV S ⟨5, n, s⟩ m]).length ≤ 16 := hl16
      rw [take_all, List.length_append] at this
      simp only [List.length_cons, List.length_nil] at this
      omega
    refine (stepA_v S h hS ⟨5, n, s⟩ (by simp) (fun _ => hfld (Or.inl rfl)) hl).mono fun e W hq => ⟨hq.1, one hq.2 ?_⟩
    show _ = MS.mk (m.st.take (m.st.length - 0) ++ [toldV S ⟨5, n, s⟩ m]) m.here m.vals
    rw [take_all]
  · have hl : m.st.length < 16 := by
      have : (m.st.take (m.st.length - 0) ++ [toldV S ⟨6, n, s⟩ m]).length ≤ 16 := hl16
      rw [take_all, List.length_append] at this
      simp only [List.length_cons, List.length_nil] at this
      omega
    refine (stepA_v S h hS ⟨6, n, s⟩ (by simp) (fun _ => hfld (Or.inr (Or.inl rfl))) hl).mono fun e W hq => ⟨hq.1, one hq.2 ?_⟩
    show _ = MS.mk (m.st.take (m.st.length - 0) ++ [toldV S ⟨6, n, s⟩ m]) m.here m.vals
    rw [take_all]
  · have hl : m.st.length < 16 := by
      have : (m.st.take (m.st.length - 0) ++ [toldV S ⟨7, n, s⟩ m]).length ≤ 16 := hl16
      rw [take_all, List.length_append] at this
      simp only [List.length_cons, List.length_nil] at this
      omega
    refine (stepA_v S h hS ⟨7, n, s⟩ (by simp) (fun q => absurd q (by simp)) hl).mono fun e W hq => ⟨hq.1, one hq.2 ?_⟩
    show _ = MS.mk (m.st.take (m.st.length - 0) ++ [toldV S ⟨7, n, s⟩ m]) m.here m.vals
    rw [take_all]
  · have hb1 : 1 ≤ ts.length := b1
    obtain ⟨k, hk⟩ : ∃ k, m.st.length = k + 1 := ⟨m.st.length - 1, by omega⟩
    refine (step8_v h n s hk).mono fun e W hq => ⟨hq.1, one hq.2 ?_⟩
    show _ = MS.mk (m.st.take (m.st.length - 1) ++ [oneV 8 (topV m.st)]) m.here m.vals
    rw [hk, Nat.add_sub_cancel]
  · have hb1 : 1 ≤ ts.length := b1
    obtain ⟨k, hk⟩ : ∃ k, m.st.length = k + 1 := ⟨m.st.length - 1, by omega⟩
    refine (step9_v h n s hk).mono fun e W hq => ⟨hq.1, one hq.2 ?_⟩
    show _ = MS.mk (m.st.take (m.st.length - 1) ++ [oneV 9 (topV m.st)]) m.here m.vals
    rw [hk, Nat.add_sub_cancel]
  · have hb1 : 2 ≤ ts.length := b1
    obtain ⟨k, hk⟩ : ∃ k, m.st.length = k + 1 + 1 := ⟨m.st.length - 2, by omega⟩
    refine (step10_v h n s hk (good_len (hgood _ (sec_mem (t := 2) (Nat.le_refl _) (by omega)))) (good_len (hgood _ (top_mem (t := 2) (by omega) (by omega)).1))).mono fun e W hq => ⟨hq.1, one hq.2 ?_⟩
    show _ = MS.mk (m.st.take (m.st.length - 2) ++ [twoV 10 (secV m.st) (topV m.st)]) m.here m.vals
    rw [hk, show k + 1 + 1 - 2 = k by omega]
  · have hb1 : 2 ≤ ts.length := b1
    obtain ⟨k, hk⟩ : ∃ k, m.st.length = k + 1 + 1 := ⟨m.st.length - 2, by omega⟩
    refine (step11_v h n s hk (good_len (hgood _ (sec_mem (t := 2) (Nat.le_refl _) (by omega)))) (good_len (hgood _ (top_mem (t := 2) (by omega) (by omega)).1))).mono fun e W hq => ⟨hq.1, one hq.2 ?_⟩
    show _ = MS.mk (m.st.take (m.st.length - 2) ++ [twoV 11 (secV m.st) (topV m.st)]) m.here m.vals
    rw [hk, show k + 1 + 1 - 2 = k by omega]
  · have hb1 : 2 ≤ ts.length := b1
    obtain ⟨k, hk⟩ : ∃ k, m.st.length = k + 1 + 1 := ⟨m.st.length - 2, by omega⟩
    refine (step12_v h n s hk (good_len (hgood _ (sec_mem (t := 2) (Nat.le_refl _) (by omega)))) (good_len (hgood _ (top_mem (t := 2) (by omega) (by omega)).1))).mono fun e W hq => ⟨hq.1, one hq.2 ?_⟩
    show _ = MS.mk (m.st.take (m.st.length - 2) ++ [twoV 12 (secV m.st) (topV m.st)]) m.here m.vals
    rw [hk, show k + 1 + 1 - 2 = k by omega]
  · have hb1 : 2 ≤ ts.length := b1
    obtain ⟨k, hk⟩ : ∃ k, m.st.length = k + 1 + 1 := ⟨m.st.length - 2, by omega⟩
    refine (step13_v h n s hk (good_len (hgood _ (sec_mem (t := 2) (Nat.le_refl _) (by omega)))) (good_len (hgood _ (top_mem (t := 2) (by omega) (by omega)).1))).mono fun e W hq => ⟨hq.1, one hq.2 ?_⟩
    show _ = MS.mk (m.st.take (m.st.length - 2) ++ [twoV 13 (secV m.st) (topV m.st)]) m.here m.vals
    rw [hk, show k + 1 + 1 - 2 = k by omega]
  · have hb1 : 2 ≤ ts.length := b1
    obtain ⟨k, hk⟩ : ∃ k, m.st.length = k + 1 + 1 := ⟨m.st.length - 2, by omega⟩
    refine (step14_v h n s hk (good_len (hgood _ (sec_mem (t := 2) (Nat.le_refl _) (by omega)))) (good_len (hgood _ (top_mem (t := 2) (by omega) (by omega)).1))).mono fun e W hq => ⟨hq.1, one hq.2 ?_⟩
    show _ = MS.mk (m.st.take (m.st.length - 2) ++ [twoV 14 (secV m.st) (topV m.st)]) m.here m.vals
    rw [hk, show k + 1 + 1 - 2 = k by omega]
  · have hb1 : 2 ≤ ts.length := b1
    obtain ⟨k, hk⟩ : ∃ k, m.st.length = k + 1 + 1 := ⟨m.st.length - 2, by omega⟩
    refine (step15_v h n s hk (good_len (hgood _ (sec_mem (t := 2) (Nat.le_refl _) (by omega)))) (good_len (hgood _ (top_mem (t := 2) (by omega) (by omega)).1))).mono fun e W hq => ⟨hq.1, one hq.2 ?_⟩
    show _ = MS.mk (m.st.take (m.st.length - 2) ++ [twoV 15 (secV m.st) (topV m.st)]) m.here m.vals
    rw [hk, show k + 1 + 1 - 2 = k by omega]
  · have hb1 : 2 ≤ ts.length := b1
    obtain ⟨k, hk⟩ : ∃ k, m.st.length = k + 1 + 1 := ⟨m.st.length - 2, by omega⟩
    refine (step16_v h n s hk (good_len (hgood _ (sec_mem (t := 2) (Nat.le_refl _) (by omega)))) (good_len (hgood _ (top_mem (t := 2) (by omega) (by omega)).1))).mono fun e W hq => ⟨hq.1, one hq.2 ?_⟩
    show _ = MS.mk (m.st.take (m.st.length - 2) ++ [twoV 16 (secV m.st) (topV m.st)]) m.here m.vals
    rw [hk, show k + 1 + 1 - 2 = k by omega]
  · have hb1 : 2 ≤ ts.length := b1
    obtain ⟨k, hk⟩ : ∃ k, m.st.length = k + 1 + 1 := ⟨m.st.length - 2, by omega⟩
    refine (step17_v h n s hk (good_len (hgood _ (sec_mem (t := 2) (Nat.le_refl _) (by omega)))) (good_len (hgood _ (top_mem (t := 2) (by omega) (by omega)).1))).mono fun e W hq => ⟨hq.1, one hq.2 ?_⟩
    show _ = MS.mk (m.st.take (m.st.length - 2) ++ [twoV 17 (secV m.st) (topV m.st)]) m.here m.vals
    rw [hk, show k + 1 + 1 - 2 = k by omega]
  · have hb1 : 1 ≤ ts.length := b1
    obtain ⟨k, hk⟩ : ∃ k, m.st.length = k + 1 := ⟨m.st.length - 1, by omega⟩
    refine (step18_v h n s hk).mono fun e W hq => ⟨hq.1, one hq.2 ?_⟩
    show _ = MS.mk (m.st.take (m.st.length - 1) ++ [oneV 18 (topV m.st)]) m.here m.vals
    rw [hk, Nat.add_sub_cancel]
  · have hb1 : 2 ≤ ts.length := b1
    obtain ⟨k, hk⟩ : ∃ k, m.st.length = k + 1 + 1 := ⟨m.st.length - 2, by omega⟩
    refine (step19_v h n s hk (good_len (hgood _ (sec_mem (t := 2) (Nat.le_refl _) (by omega)))) (good_len (hgood _ (top_mem (t := 2) (by omega) (by omega)).1))).mono fun e W hq => ⟨hq.1, one hq.2 ?_⟩
    show _ = MS.mk (m.st.take (m.st.length - 2) ++ [twoV 19 (secV m.st) (topV m.st)]) m.here m.vals
    rw [hk, show k + 1 + 1 - 2 = k by omega]
  · obtain ⟨n0, n1, n2⟩ := hfld (Or.inl rfl)
    simp only at n0 n1 n2
    obtain ⟨N, rfl⟩ := Int.eq_ofNat_of_zero_le n0
    rw [Int.toNat_natCast] at n1 n2
    have hb1 : 1 ≤ ts.length := b1
    obtain ⟨k, hk⟩ : ∃ k, m.st.length = k + 1 := ⟨m.st.length - 1, by omega⟩
    refine (step20_v h N s hk n2).mono fun e W hq => ⟨hq.1, ⟨rv, hq.2.1.to ?_⟩, hq.2.2⟩
    show _ = MS.mk (m.st.take (m.st.length - 1) ++ []) (setR m ((N : Int).toNat) (topV m.st)).1 (setR m ((N : Int).toNat) (topV m.st)).2
    rw [hk, Nat.add_sub_cancel, List.append_nil, Int.toNat_natCast]
  · obtain ⟨n0, n1, n2⟩ := hfld (Or.inr (Or.inr rfl))
    simp only at n0 n1 n2
    obtain ⟨N, rfl⟩ := Int.eq_ofNat_of_zero_le n0
    rw [Int.toNat_natCast] at n1 n2
    have hb1 : 1 ≤ ts.length := b1
    obtain ⟨k, hk⟩ : ∃ k, m.st.length = k + 1 := ⟨m.st.length - 1, by omega⟩
    refine (step21_v S h hS N s hk n2 n1).mono fun e W hq => ⟨hq.1, ⟨rv, hq.2.1.to ?_⟩, hq.2.2⟩
    show _ = MS.mk (m.st.take (m.st.length - 1) ++ []) (setR m ((N : Int).toNat) (numV (wrap64 ((loadV S m ((N : Int).toNat)).n + (topV m.st).n)))).1 (setR m ((N : Int).toNat) (numV (wrap64 ((loadV S m ((N : Int).toNat)).n + (topV m.st).n)))).2
    rw [hk, Nat.add_sub_cancel, List.append_nil, Int.toNat_natCast]
  · obtain ⟨n0, n1, n2⟩ := hfld (Or.inr (Or.inl rfl))
    simp only at n0 n1 n2
    obtain ⟨N, rfl⟩ := Int.eq_ofNat_of_zero_le n0
    rw [Int.toNat_natCast] at n1 n2
    refine (step22_v h N s n2).mono fun e W hq => ⟨hq.1, ⟨rv, hq.2.1.to ?_⟩, hq.2.2⟩
    show _ = MS.mk (m.st.take (m.st.length - 0) ++ []) (setR m ((N : Int).toNat) zV).1 (setR m ((N : Int).toNat) zV).2
    rw [take_all, List.append_nil, Int.toNat_natCast]
  · refine (step23_v S h hT hS hz n s).mono fun e W hq => ⟨hq.1, ?_, hq.2.2⟩
    obtain ⟨rv', hm⟩ := hq.2.1
    refine ⟨rv', hm.to ?_⟩
    show _ = MS.mk (m.st.take (m.st.length - 0) ++ []) (if m.here then (m.here, m.vals) else (true, S.map zeroV)).1 (if m.here then (m.here, m.vals) else (true, S.map zeroV)).2
    rw [take_all, List.append_nil]
    split <;> rfl
  · refine (step24_v h n s).mono fun e W hq => ⟨hq.1, ?_, hq.2.2⟩
    obtain ⟨rv', hm⟩ := hq.2.1
    refine ⟨rv', hm.to ?_⟩
    show _ = MS.mk (m.st.take (m.st.length - 0) ++ []) false []
    rw [take_all, List.append_nil]
  · exact absurd rfl hj.1
  · exact absurd rfl hj.2
end Go.Proofs.YtfaokmbhbjfacaaDoor
