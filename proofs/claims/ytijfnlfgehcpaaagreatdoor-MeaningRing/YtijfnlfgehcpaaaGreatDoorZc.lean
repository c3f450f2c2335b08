import Derived.Test.YtijfnlfgehcpaaaGreatDoorZb
import Derived.Test.YtijfnlfgehcpaaaGreatDoorJbe
namespace Go.Proofs.YtijfnlfgehcpaaaGreatDoor
open Go.RowKit Go.Maps

/-- An expression. -/
structure XE where
  op : Int
  n : Int
  s : Txt
  kids : EL
def XE.val (S : List FieldA) (h : Bool) (vals : List ValA) (e : XE) : ValA := nodeV S e.op e.n e.s e.kids h vals
def XE.kind (S : List FieldA) (e : XE) : KA := (kindP S e.op e.s e.kids).1
def XE.ok (S : List FieldA) (e : XE) : Prop := rootB e.op e.n e.s e.kids.len = true ∧ wellE e.kids = true ∧ (kindP S e.op e.s e.kids).2 = 0
def XE.el (e : XE) (r : EL) : EL := .cons e.op e.n e.s e.kids r
def mk1 (k : Int) (a : XE) : XE := ⟨k, 0, [], a.el .nil⟩
def mk2 (k : Int) (a b : XE) : XE := ⟨k, 0, [], a.el (b.el .nil)⟩
/-- What Value answers. -/
def XE.ans (S : List FieldA) (h : Bool) (vals : List ValA) (e : XE) : ValA × Int := valueP S e.op e.n e.s e.kids h vals
theorem ans_ok {S : List FieldA} {h : Bool} {vals : List ValA} {e : XE} (h0 : (e.ans S h vals).2 = 0) : schemaB S = true ∧ rowE S h vals = 0 ∧ e.ok S ∧ e.ans S h vals = (e.val S h vals, 0) := by
  unfold XE.ans valueP at h0 ⊢
  by_cases h1 : (typeP S e.op e.n e.s e.kids).2.2 = 0
  · rw [if_neg (by simpa using h1)] at h0 ⊢
    by_cases h2 : rowE S h vals = 0
    · rw [if_neg (by simpa using h2)]
      obtain ⟨hS, hb, hw, hk, _⟩ := typeP_zero h1
      exact ⟨hS, h2, ⟨hb, hw, hk⟩, rfl⟩
    · rw [if_pos h2] at h0
      exact absurd h0 h2
  · rw [if_pos h1] at h0
    exact absurd h0 h1
theorem ok_fit {S : List FieldA} (hS : schemaB S = true) {h : Bool} {vals : List ValA} (hr : rowE S h vals = 0) {e : XE} (he : e.ok S) : FitK (e.kind S) (e.val S h vals) := node_fit hS (rowE_fit hr) he.1 he.2.1 he.2.2
theorem kinds_el {S : List FieldA} {e : XE} {r : EL} (h : (kindsP S (e.el r)).2 = 0) : (kindP S e.op e.s e.kids).2 = 0 ∧ (kindsP S r).2 = 0 ∧ (kindsP S (e.el r)).1 = e.kind S :: (kindsP S r).1 := by
  unfold XE.el at h ⊢
  rw [kindsP_cons] at h ⊢
  by_cases h1 : (kindP S e.op e.s e.kids).2 = 0
  · by_cases h2 : (kindsP S r).2 = 0
    · refine ⟨h1, h2, ?_⟩
      simp [h1, h2, XE.kind]
    · simp [h1, h2] at h
  · simp [h1] at h
theorem well_el {e : XE} {r : EL} (h : wellE (e.el r) = true) : rootB e.op e.n e.s e.kids.len = true ∧ wellE e.kids = true ∧ wellE r = true := by
  unfold XE.el at h
  simp only [wellE, Bool.and_eq_true] at h
  exact h
theorem kind_rule {S : List FieldA} {op : Int} {s : Txt} {kids : EL} (h : (kindP S op s kids).2 = 0) : (kindsP S kids).2 = 0 ∧ kindP S op s kids = ruleP S op s (kindsP S kids).1 := by
  unfold kindP at h ⊢
  by_cases h1 : (kindsP S kids).2 = 0
  · rw [if_neg (by simpa using h1)]
    exact ⟨h1, rfl⟩
  · rw [if_pos h1] at h
    exact absurd h h1
theorem ok1 {S : List FieldA} {k : Int} {a : XE} (h : (mk1 k a).ok S) : a.ok S ∧ (ruleP S k [] [a.kind S]).2 = 0 ∧ (mk1 k a).kind S = (ruleP S k [] [a.kind S]).1 := by
  obtain ⟨_, hw, hk⟩ := h
  obtain ⟨h1, h2⟩ := kind_rule hk
  obtain ⟨a1, _, a3⟩ := kinds_el h1
  obtain ⟨b1, b2, _⟩ := well_el hw
  have e : kindP S k [] (a.el .nil) = ruleP S k [] [a.kind S] := (show kindP S k [] (a.el .nil) = ruleP S k [] (kindsP S (a.el .nil)).1 from h2).trans (by rw [a3]; rfl)
  exact ⟨⟨b1, b2, a1⟩, by rw [← e]; exact hk, congrArg Prod.fst e⟩
theorem ok2 {S : List FieldA} {k : Int} {a b : XE} (h : (mk2 k a b).ok S) : a.ok S ∧ b.ok S ∧ (ruleP S k [] [a.kind S, b.kind S]).2 = 0 ∧ (mk2 k a b).kind S = (ruleP S k [] [a.kind S, b.kind S]).1 := by
  obtain ⟨_, hw, hk⟩ := h
  obtain ⟨h1, h2⟩ := kind_rule hk
  obtain ⟨a1, a2, a3⟩ := kinds_el h1
  obtain ⟨c1, _, c3⟩ := kinds_el a2
  obtain ⟨b1, b2, b3⟩ := well_el hw
  obtain ⟨d1, d2, _⟩ := well_el b3
  have e : kindP S k [] (a.el (b.el .nil)) = ruleP S k [] [a.kind S, b.kind S] := (show kindP S k [] (a.el (b.el .nil)) = ruleP S k [] (kindsP S (a.el (b.el .nil))).1 from h2).trans (by rw [a3, c3]; rfl)
  exact ⟨⟨b1, b2, a1⟩, ⟨d1, d2, c1⟩, by rw [← e]; exact hk, congrArg Prod.fst e⟩
theorem val1 {S : List FieldA} {h : Bool} {vals : List ValA} {k : Int} {a : XE} (hk : ¬ k ≤ 6) : (mk1 k a).val S h vals = opV k [a.val S h vals] := by
  unfold XE.val mk1 XE.el nodeV
  rw [if_neg hk]
  rfl
theorem val2 {S : List FieldA} {h : Bool} {vals : List ValA} {k : Int} {a b : XE} (hk : ¬ k ≤ 6) : (mk2 k a b).val S h vals = opV k [a.val S h vals, b.val S h vals] := by
  unfold XE.val mk2 XE.el nodeV
  rw [if_neg hk]
  rfl
/-- A value of int is its number. -/
theorem fit_int {k : KA} {v : ValA} (h : FitK k v) (ht : k.t = 1) (ho : k.o = false) : ∃ x, v = numV x := by
  obtain ⟨hg, hk⟩ := h.plain ho
  rw [ht] at hk
  obtain ⟨vk, vn, vs⟩ := v
  simp only at hk
  subst hk
  rcases hg with ⟨_, hs⟩ | ⟨h2, _⟩ | ⟨h2, _⟩
  · simp only at hs
    subst hs
    exact ⟨vn, rfl⟩
  · simp at h2
  · simp at h2
theorem ruleOne {S : List FieldA} {a : XE} (h : (ruleP S 8 [] [a.kind S]).2 = 0) : (a.kind S).t = 1 ∧ (a.kind S).o = false := takesA1 (takesK_zero (show (takesK 1 [1] [a.kind S]).2 = 0 from h)).1
theorem ruleTwo {S : List FieldA} {k : Int} (hk : k = 9 ∨ k = 10 ∨ k = 11) {a b : XE} (h : (ruleP S k [] [a.kind S, b.kind S]).2 = 0) : ((a.kind S).t = 1 ∧ (a.kind S).o = false) ∧ (b.kind S).t = 1 ∧ (b.kind S).o = false := by
  rcases hk with rfl | rfl | rfl <;> exact takesA2 (takesK_zero (show (takesK 1 [1, 1] [a.kind S, b.kind S]).2 = 0 from h)).1
theorem int1 {S : List FieldA} (hS : schemaB S = true) {h : Bool} {vals : List ValA} (hr : rowE S h vals = 0) {a : XE} (ho : (mk1 8 a).ok S) : a.ok S ∧ ∃ x, a.val S h vals = numV x := by
  obtain ⟨h1, h2, _⟩ := ok1 ho
  obtain ⟨t, o⟩ := ruleOne h2
  exact ⟨h1, fit_int (ok_fit hS hr h1) t o⟩
theorem int2 {S : List FieldA} (hS : schemaB S = true) {h : Bool} {vals : List ValA} (hr : rowE S h vals = 0) {k : Int} (hk : k = 9 ∨ k = 10 ∨ k = 11) {a b : XE} (ho : (mk2 k a b).ok S) : a.ok S ∧ b.ok S ∧ (∃ x, a.val S h vals = numV x) ∧ ∃ y, b.val S h vals = numV y := by
  obtain ⟨h1, h2, h3, _⟩ := ok2 ho
  obtain ⟨⟨t, o⟩, t2, o2⟩ := ruleTwo hk h3
  exact ⟨h1, h2, fit_int (ok_fit hS hr h1) t o, fit_int (ok_fit hS hr h2) t2 o2⟩
theorem neg_num (x : Int) : opV 8 [numV x] = numV (wrap64 (-x)) := rfl
theorem add_num (x y : Int) : opV 9 [numV x, numV y] = numV (wrap64 (x + y)) := rfl
theorem sub_num (x y : Int) : opV 10 [numV x, numV y] = numV (wrap64 (x - y)) := rfl
theorem mul_num (x y : Int) : opV 11 [numV x, numV y] = numV (wrap64 (x * y)) := rfl
theorem wrap_eq {x y : Int} (h : ∃ k : Int, x = y + k * 18446744073709551616) : wrap64 x = wrap64 y := by
  obtain ⟨k, rfl⟩ := h
  unfold wrap64
  omega
theorem wrap_off (x : Int) : ∃ k : Int, wrap64 x = x + k * 18446744073709551616 := by
  refine ⟨-((x + 9223372036854775808) / 18446744073709551616), ?_⟩
  unfold wrap64
  omega
theorem wrap_i64 {x : Int} (h : I64 x) : wrap64 x = x := by
  unfold I64 at h
  unfold wrap64
  omega
theorem wrap_in (x : Int) : I64 (wrap64 x) := by
  unfold I64 wrap64
  omega
theorem ring1 (x y : Int) : wrap64 (x - y) = wrap64 (x + wrap64 (-y)) := by
  obtain ⟨k, hk⟩ := wrap_off (-y)
  exact wrap_eq ⟨-k, by rw [hk]; omega⟩
theorem ring2 {x : Int} (hx : I64 x) (y : Int) : wrap64 (wrap64 (x + y) - y) = x := by
  obtain ⟨k, hk⟩ := wrap_off (x + y)
  exact (wrap_eq (x := wrap64 (x + y) - y) (y := x) ⟨k, by omega⟩).trans (wrap_i64 hx)
theorem ring5 (x y z : Int) : wrap64 (x * wrap64 (y + z)) = wrap64 (wrap64 (x * y) + wrap64 (x * z)) := by
  obtain ⟨k, hk⟩ := wrap_off (y + z)
  obtain ⟨i, hi⟩ := wrap_off (x * y)
  obtain ⟨j, hj⟩ := wrap_off (x * z)
  refine wrap_eq ⟨x * k - i - j, ?_⟩
  rw [hk, hi, hj, Int.mul_add, Int.mul_add, ← Int.mul_assoc, Int.sub_mul, Int.sub_mul]
  omega
theorem ring6 {x : Int} (hx : I64 x) : wrap64 (-wrap64 (-x)) = x := by
  obtain ⟨k, hk⟩ := wrap_off (-x)
  exact (wrap_eq (x := -wrap64 (-x)) (y := x) ⟨-k, by omega⟩).trans (wrap_i64 hx)
theorem ring7 (x y z : Int) : wrap64 (wrap64 (x + y) + z) = wrap64 (x + wrap64 (y + z)) := by
  obtain ⟨k, hk⟩ := wrap_off (x + y)
  obtain ⟨j, hj⟩ := wrap_off (y + z)
  exact wrap_eq ⟨k - j, by rw [hk, hj]; omega⟩
/-- The numbers of an expression are ints of 64 bits. -/
def intE : EL → Prop
  | .nil => True
  | .cons _ n _ k r => I64 n ∧ intE k ∧ intE r
theorem tru_in (b : Bool) : I64 (truV b).n := by unfold truV I64; cases b <;> simp
theorem z_in : I64 zV.n := by unfold zV I64; simp
theorem kV_in {l : List ValA} (h : ∀ v ∈ l, I64 v.n) (i : Nat) : I64 (kV l i).n := by
  unfold kV
  rw [List.getD_eq_getElem?_getD]
  cases hi : l[i]? with
  | none => exact z_in
  | some v => exact h v (List.mem_of_getElem? hi)
theorem ite_in {c : Prop} [Decidable c] {a b : ValA} (ha : I64 a.n) (hb : I64 b.n) : I64 (if c then a else b).n := by
  split
  · exact ha
  · exact hb
theorem opV_in (op : Int) {ks : List ValA} (h : ∀ v ∈ ks, I64 v.n) (hs : ∀ v ∈ ks, v.s.length ≤ 20) : I64 (opV op ks).n := by
  have h0 := kV_in h 0
  have h1 := kV_in h 1
  have h2 := kV_in h 2
  have hl := kV_short hs 0
  unfold opV
  repeat' first
    | exact tru_in _
    | exact wrap_in _
    | exact h0
    | exact h1
    | exact h2
    | (show I64 (min _ _); unfold I64 at *; omega)
    | (show I64 (max _ _); unfold I64 at *; omega)
    | (show I64 ((kV ks 0).s.length : Int); unfold I64; omega)
    | (show I64 0; unfold I64; omega)
    | refine ite_in ?_ ?_
theorem zeros_in {S : List FieldA} : ∀ v ∈ zeros S, I64 v.n := by
  intro v hv
  unfold zeros at hv
  obtain ⟨f, _, rfl⟩ := List.mem_map.1 hv
  unfold zeroV I64
  split <;> simp
theorem field_in {S : List FieldA} {h : Bool} {vals : List ValA} (hv : ∀ v ∈ vals, I64 v.n) (nm : Txt) : I64 (fieldV S h vals nm).n := by
  unfold fieldV
  have key : ∀ l : List ValA, (∀ v ∈ l, I64 v.n) → I64 ((l[placeP S nm]?).getD zV).n := fun l hl => by
    cases hi : l[placeP S nm]? with
    | none => exact z_in
    | some v => exact hl v (List.mem_of_getElem? hi)
  cases h with
  | true => exact key vals hv
  | false => exact key (zeros S) zeros_in
theorem leaf_in {S : List FieldA} {h : Bool} {vals : List ValA} (hv : ∀ v ∈ vals, I64 v.n) (op : Int) {n : Int} (hn : I64 n) (s : Txt) : I64 (leafV S h vals op n s).n := by
  unfold leafV
  repeat' split
  all_goals first
    | exact hn
    | exact tru_in _
    | exact field_in hv s
    | (unfold I64 bytV; simp)
theorem vals_in64 {S : List FieldA} {h : Bool} {vals : List ValA} (hr : Rw S h vals) (hv : ∀ v ∈ vals, I64 v.n) : ∀ l : EL, wellE l = true → intE l → ∀ v ∈ valsP S h vals l, I64 v.n
  | .nil, _, _, v, hm => by simp [valsP] at hm
  | .cons op n s kids rest, hw, ⟨hn, hk, hrest⟩, v, hm => by
    simp only [wellE, Bool.and_eq_true] at hw
    rw [valsP_cons] at hm
    rcases List.mem_cons.1 hm with rfl | hm
    · unfold nodeV
      split
      · exact leaf_in hv op hn s
      · exact opV_in op (vals_in64 hr hv kids hw.2.1 hk) (valsP_short hr kids hw.2.1)
    · exact vals_in64 hr hv rest hw.2.2 hrest v hm
def XE.int (e : XE) : Prop := I64 e.n ∧ intE e.kids
theorem val_in {S : List FieldA} {h : Bool} {vals : List ValA} (hr : rowE S h vals = 0) (hv : ∀ v ∈ vals, I64 v.n) {e : XE} (ho : e.ok S) (hi : e.int) : I64 (e.val S h vals).n :=
  vals_in64 (rowE_rw hr) hv (e.el .nil) (by unfold XE.el; simp [wellE, ho.1, ho.2.1]) ⟨hi.1, hi.2, trivial⟩ _ (by unfold XE.el; rw [valsP_cons]; exact List.mem_cons_self ..)
/-- Two expressions have one value, where both may be asked. -/
def Alike (S : List FieldA) (h : Bool) (vals : List ValA) (a b : XE) : Prop := (a.ans S h vals).2 = 0 → (b.ans S h vals).2 = 0 → (a.ans S h vals).1 = (b.ans S h vals).1
theorem alike_of {S : List FieldA} {h : Bool} {vals : List ValA} {a b : XE} (hh : schemaB S = true → rowE S h vals = 0 → a.ok S → b.ok S → a.val S h vals = b.val S h vals) : Alike S h vals a b := fun h1 h2 => by
  obtain ⟨hS, hr, ha, e1⟩ := ans_ok h1
  obtain ⟨_, _, hb, e2⟩ := ans_ok h2
  rw [e1, e2]
  exact hh hS hr ha hb
/-- What MeaningRing says, of the pure program. -/
theorem ring_law (S : List FieldA) (h : Bool) (vals : List ValA) (hv : ∀ v ∈ vals, I64 v.n) (a b c : XE) (ha : a.int) :
    Alike S h vals (mk2 10 a b) (mk2 9 a (mk1 8 b)) ∧ Alike S h vals (mk2 10 (mk2 9 a b) b) a ∧ Alike S h vals (mk2 9 a b) (mk2 9 b a) ∧ Alike S h vals (mk2 11 a b) (mk2 11 b a) ∧
    Alike S h vals (mk2 11 a (mk2 9 b c)) (mk2 9 (mk2 11 a b) (mk2 11 a c)) ∧ Alike S h vals (mk1 8 (mk1 8 a)) a ∧ Alike S h vals (mk2 9 (mk2 9 a b) c) (mk2 9 a (mk2 9 b c)) := by
  refine ⟨alike_of fun hS hr h1 h2 => ?_, alike_of fun hS hr h1 h2 => ?_, alike_of fun hS hr h1 h2 => ?_, alike_of fun hS hr h1 h2 => ?_, alike_of fun hS hr h1 h2 => ?_, alike_of fun hS hr h1 h2 => ?_, alike_of fun hS hr h1 h2 => ?_⟩
  · obtain ⟨_, _, ⟨x, hx⟩, y, hy⟩ := int2 hS hr (by omega) h1
    rw [val2 (by decide), val2 (by decide), val1 (by decide), hx, hy, neg_num, sub_num, add_num, ring1]
  · obtain ⟨o1, _, _, y, hy⟩ := int2 hS hr (by omega) h1
    obtain ⟨_, _, ⟨x, hx⟩, _⟩ := int2 hS hr (by omega) o1
    have hin := val_in hr hv h2 ha
    rw [hx] at hin
    have hin : I64 x := hin
    rw [val2 (by decide), val2 (by decide), hx, hy, add_num, sub_num, ring2 hin]
  · obtain ⟨_, _, ⟨x, hx⟩, y, hy⟩ := int2 hS hr (by omega) h1
    rw [val2 (by decide), val2 (by decide), hx, hy, add_num, add_num, Int.add_comm]
  · obtain ⟨_, _, ⟨x, hx⟩, y, hy⟩ := int2 hS hr (by omega) h1
    rw [val2 (by decide), val2 (by decide), hx, hy, mul_num, mul_num, Int.mul_comm]
  · obtain ⟨_, o1, ⟨x, hx⟩, _⟩ := int2 hS hr (by omega) h1
    obtain ⟨_, _, ⟨y, hy⟩, z, hz⟩ := int2 hS hr (by omega) o1
    rw [val2 (by decide), val2 (by decide), val2 (by decide), val2 (by decide), val2 (by decide), hx, hy, hz, add_num, mul_num, mul_num, mul_num, add_num, ring5]
  · obtain ⟨o1, _⟩ := int1 hS hr h1
    obtain ⟨o2, x, hx⟩ := int1 hS hr o1
    have hin := val_in hr hv o2 ha
    rw [hx] at hin
    have hin : I64 x := hin
    rw [val1 (by decide), val1 (by decide), hx, neg_num, neg_num, ring6 hin]
  · obtain ⟨o1, _, _, z, hz⟩ := int2 hS hr (by omega) h1
    obtain ⟨_, _, ⟨x, hx⟩, y, hy⟩ := int2 hS hr (by omega) o1
    rw [val2 (by decide), val2 (by decide), val2 (by decide), val2 (by decide), hx, hy, hz, add_num, add_num, add_num, add_num, ring7]
end Go.Proofs.YtijfnlfgehcpaaaGreatDoor
