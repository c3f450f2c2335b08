import Derived.Test.YtbdlcaamanhapaaGreatDoorJzan
namespace Go.Proofs.YtbdlcaamanhapaaGreatDoor
open Go.RowKit Go.Maps
theorem bringA_twice (p : PlA) (st : List Int) : bringA (bringA p st) st = bringA p st := by simp [bringA]
def bringsB (S : List Wq) (l : List ValA) (hv : List (Bool × List Int)) (i t : Nat) : Option (List Int) :=
 match hv[i]?, l[i]? with
 | some (true, st), some x => if leadsB i x t then behB S x st else none
 | _, _ => none
def pushB (S : List Wq) (l : List ValA) (hv : List (Bool × List Int)) (t : Nat) : Nat → PlA
 | 0 => if t = 0 then bringA plZ [] else plZ
 | k + 1 => match bringsB S l hv k t with
  | some st => bringA (pushB S l hv t k) st
  | none => pushB S l hv t k
def pullB (S : List Wq) (l : List ValA) (hv : List (Bool × List Int)) (t : Nat) : Nat → Option (Bool × List Int)
 | 0 => some (decide (t = 0), [])
 | k + 1 => match pullB S l hv t k with
  | none => none
  | some (r, h) => match bringsB S l hv k t with
   | some st => if r = true ∧ h ≠ st then none else some (true, st)
   | none => some (r, h)
theorem pull_push (S : List Wq) (l : List ValA) (hv : List (Bool × List Int)) (t : Nat) : ∀ k, pullB S l hv t k = if (pushB S l hv t k).u = true then none else some ((pushB S l hv t k).r, (pushB S l hv t k).st)
 | 0 => by
  unfold pullB pushB
  by_cases h : t = 0
  ·simp [h, bringA, plZ]
  ·simp [h, plZ]
 | k + 1 => by
  rw [pullB, pull_push S l hv t k, pushB]
  cases bringsB S l hv k t with
  | none =>
   by_cases hu : (pushB S l hv t k).u = true
   ·simp [hu]
   ·simp [hu]
  | some st =>
   generalize pushB S l hv t k = P
   obtain ⟨r, s0, u⟩ := P
   cases u
   ·cases r
    ·simp [bringA]
    ·by_cases he : s0 = st
     ·simp [bringA, he]
     ·simp [bringA, he]
   ·simp [bringA]
theorem push_zero (S : List Wq) (l : List ValA) (hv : List (Bool × List Int)) (t : Nat) : ∀ k, (pushB S l hv t k).r = false → pushB S l hv t k = plZ
 | 0 => by
  unfold pushB
  by_cases h : t = 0
  ·simp [h, bringA]
  ·simp [h]
 | k + 1 => by
  rw [pushB]
  cases bringsB S l hv k t with
  | none => exact push_zero S l hv t k
  | some st => simp [bringA]
theorem bringsB_ahead {S : List Wq} {l : List ValA} {hv : List (Bool × List Int)} {i t : Nat} (h : t ≤ i) : bringsB S l hv i t = none := by
 unfold bringsB
 split
 ·rename_i x _ _
  have : leadsB i x t = false := by
   unfold leadsB
   rw [decide_eq_false (show ¬ i + 1 + x.n.toNat = t by omega), decide_eq_false (show ¬ i + 1 = t by omega)]
   simp
  rw [this]
  rfl
 ·rfl
theorem push_stays (S : List Wq) (l : List ValA) (hv : List (Bool × List Int)) (t : Nat) : ∀ k, pushB S l hv t (t + k) = pushB S l hv t t
 | 0 => rfl
 | k + 1 => by
  rw [show t + (k + 1) = (t + k) + 1 by omega, pushB, bringsB_ahead (by omega)]
  exact push_stays S l hv t k
theorem push_more (S : List Wq) (l : List ValA) (hv : List (Bool × List Int)) (z : Bool × List Int) (t : Nat) : ∀ k, k ≤ hv.length → pushB S l (hv ++ [z]) t k = pushB S l hv t k
 | 0, _ => rfl
 | k + 1, h => by
  have hb : bringsB S l (hv ++ [z]) k t = bringsB S l hv k t := by
   unfold bringsB
   rw [List.getElem?_append_left (by omega)]
  rw [pushB, pushB, hb, push_more S l hv z t k (by omega)]
theorem bringAt_get {ps : List PlA} {a t : Nat} {st : List Int} {P : PlA} (h : ps[t]? = some P) : (bringAt ps a st)[t]? = some (if a = t then bringA P st else P) := by
 unfold bringAt
 by_cases he : a = t
 ·subst he
  have hlt := (List.getElem?_eq_some_iff.1 h).1
  rw [List.getElem?_set_self hlt, h, if_pos rfl]
  rfl
 ·rw [List.getElem?_set_ne he, h, if_neg he]
def pullA (S : List Wq) (l : List ValA) : Nat → List ValA → List (Bool × List Int) → Option (List (Bool × List Int)) × Nat × Int
 | k, [], hv => match pullB S l hv k k with
  | none => (none, k, 112)
  | some z => if z.1 = true ∧ z.2 ≠ [] then (none, k, 112) else (some (hv ++ [z]), 0, 0)
 | k, x :: rest, hv => match pullB S l hv k k with
  | none => (none, k, 112)
  | some z => if z.1 = true ∧ behB S x z.2 = none then (none, k, 112) else pullA S l (k + 1) rest (hv ++ [z])
theorem step_push {S : List Wq} {l : List ValA} {hv : List (Bool × List Int)} {ps : List PlA} {k : Nat} {x : ValA} {st0 st : List Int} (hx : l[k]? = some x) (hlen : hv.length = k) (hb : behB S x st0 = some st) (h6 : (opA x.kind).opd = 6 ↔ (x.kind = 25 ∨ x.kind = 26))
  {t : Nat} (hp : ps[t]? = some (pushB S l hv t k)) :
  (if x.kind ≠ 25 then bringAt (if (opA x.kind).opd = 6 then bringAt ps (k + 1 + x.n.toNat) st else ps) (k + 1) st else (if (opA x.kind).opd = 6 then bringAt ps (k + 1 + x.n.toNat) st else ps))[t]? = some (pushB S l (hv ++ [(true, st0)]) t (k + 1)) := by
 have hbr : bringsB S l (hv ++ [(true, st0)]) k t = if leadsB k x t then some st else none := by
  unfold bringsB
  rw [List.getElem?_append_right (by omega), hlen, Nat.sub_self, hx]
  simp [hb]
 rw [pushB, hbr, push_more S l hv _ t k (by omega)]
 generalize pushB S l hv t k = P at *
 have h1 : (if (opA x.kind).opd = 6 then bringAt ps (k + 1 + x.n.toNat) st else ps)[t]? = some (if (opA x.kind).opd = 6 ∧ k + 1 + x.n.toNat = t then bringA P st else P) := by
  by_cases hj : (opA x.kind).opd = 6
  ·rw [if_pos hj, bringAt_get hp]
   by_cases ht : k + 1 + x.n.toNat = t
   ·rw [if_pos ht, if_pos ⟨hj, ht⟩]
   ·rw [if_neg ht, if_neg (fun q => ht q.2)]
  ·rw [if_neg hj, hp, if_neg (fun q => hj q.1)]
 generalize (if (opA x.kind).opd = 6 then bringAt ps (k + 1 + x.n.toNat) st else ps) = ps1 at *
 have hl : leadsB k x t = decide (((opA x.kind).opd = 6 ∧ k + 1 + x.n.toNat = t) ∨ (x.kind ≠ 25 ∧ k + 1 = t)) := by
  unfold leadsB
  rw [Bool.eq_iff_iff, decide_eq_true_iff, Bool.or_eq_true, Bool.and_eq_true, Bool.and_eq_true, decide_eq_true_iff, decide_eq_true_iff, decide_eq_true_iff, decide_eq_true_iff, h6]
 rw [hl]
 by_cases hA : (opA x.kind).opd = 6 ∧ k + 1 + x.n.toNat = t
 ·rw [if_pos hA] at h1
  rw [decide_eq_true (Or.inl hA)]
  simp only [if_true]
  by_cases h25 : x.kind = 25
  ·rw [if_neg (fun q => q h25)]; exact h1
  ·rw [if_pos h25, bringAt_get h1]
   by_cases ht : k + 1 = t
   ·rw [if_pos ht, bringA_twice]
   ·rw [if_neg ht]
 ·rw [if_neg hA] at h1
  by_cases hB : x.kind ≠ 25 ∧ k + 1 = t
  ·rw [decide_eq_true (Or.inr hB), if_pos hB.1, bringAt_get h1, if_pos hB.2]
   rfl
  ·rw [decide_eq_false (fun q => q.elim hA hB)]
   simp only [Bool.false_eq_true, if_false]
   by_cases h25 : x.kind = 25
   ·rw [if_neg (fun q => q h25)]; exact h1
   ·rw [if_pos h25, bringAt_get h1, if_neg (fun q => hB ⟨h25, q⟩)]
theorem pullA_cons {S : List Wq} {l : List ValA} {k : Nat} {x : ValA} {rest : List ValA} {hv : List (Bool × List Int)} : pullA S l k (x :: rest) hv = match pullB S l hv k k with
  | none => (none, k, 112)
  | some z => if z.1 = true ∧ behB S x z.2 = none then (none, k, 112) else pullA S l (k + 1) rest (hv ++ [z]) := by rw [pullA] <;> (cases pullB S l hv k k <;> rfl)
theorem pullA_nil {S : List Wq} {l : List ValA} {k : Nat} {hv : List (Bool × List Int)} : pullA S l k [] hv = match pullB S l hv k k with
  | none => (none, k, 112)
  | some z => if z.1 = true ∧ z.2 ≠ [] then (none, k, 112) else (some (hv ++ [z]), 0, 0) := by rw [pullA] <;> (cases pullB S l hv k k <;> rfl)
def pairP (p : PlA) : Bool × List Int := (p.r, p.st)
theorem prefix_push {S : List Wq} {l : List ValA} {hv : List (Bool × List Int)} {z : Bool × List Int} {k : Nat} (hlen : hv.length = k) (hi : ∀ j, j < k → hv[j]? = some (pairP (pushB S l hv j j))) (hz : z = pairP (pushB S l hv k k)) : ∀ j, j < k + 1 → (hv ++ [z])[j]? = some (pairP (pushB S l (hv ++ [z]) j j)) := by
 intro j hj
 rw [push_more S l hv z j j (by omega)]
 by_cases h : j < k
 ·rw [List.getElem?_append_left (by omega)]; exact hi j h
 ·obtain rfl : j = k := by omega
  rw [List.getElem?_append_right (by omega), hlen, Nat.sub_self, hz]
  rfl
theorem run_pull (S : List Wq) (l : List ValA) (h6 : ∀ i ∈ l, (opA i.kind).opd = 6 ↔ (i.kind = 25 ∨ i.kind = 26)) : ∀ (rest : List ValA) (k : Nat) (hv : List (Bool × List Int)) (ps : List PlA), rest = l.drop k → k ≤ l.length → hv.length = k → ps.length = l.length + 1 → (∀ t, t ≤ l.length → ps[t]? = some (pushB S l hv t k)) → (∀ j, j < k → hv[j]? = some (pairP (pushB S l hv j j))) →
  (runA S k rest ps).2 = (pullA S l k rest hv).2 ∧ (runA S k rest ps).1.map (List.map pairP) = (pullA S l k rest hv).1
 | [], k, hv, ps, hr, hkl, hlen, hps, hP, hi => by
  have hk : k = l.length := by
   have := congrArg List.length hr
   rw [List.length_drop] at this
   simp at this
   omega
  have hpk := hP k (by omega)
  rw [runA, pullA_nil, pull_push, hpk]
  simp only [Option.getD_some]
  have hz := push_zero S l hv k k
  have hfin : ps.map pairP = hv ++ [pairP (pushB S l hv k k)] := by
   apply List.ext_getElem?
   intro t
   rw [List.getElem?_map]
   by_cases ht : t ≤ l.length
   ·rw [hP t ht]
    by_cases htk : t < k
    ·rw [List.getElem?_append_left (by omega), hi t htk]
     have := push_stays S l hv t (k - t)
     rw [show t + (k - t) = k by omega] at this
     rw [this]
     rfl
    ·obtain rfl : t = k := by omega
     rw [List.getElem?_append_right (by omega), hlen, Nat.sub_self]
     rfl
   ·rw [List.getElem?_eq_none (by omega), List.getElem?_eq_none (by simp; omega)]
    rfl
  unfold pairP at hfin
  generalize pushB S l hv k k = P at *
  obtain ⟨r, st, u⟩ := P
  cases u with
  | true => simp
  | false =>
   cases r with
   | false =>
    have hz' := hz rfl
    unfold plZ at hz'
    simp only [PlA.mk.injEq] at hz'
    obtain ⟨_, rfl, _⟩ := hz'
    simp only [Bool.false_eq_true, List.length_nil, Nat.lt_irrefl, or_self, if_false, false_and]
    exact ⟨trivial, by rw [Option.map_some]; congr 1⟩
   | true =>
    cases st with
    | nil =>
     simp only [Bool.false_eq_true, List.length_nil, Nat.lt_irrefl, or_self, if_false, ne_eq, not_true, and_false]
     exact ⟨trivial, by rw [Option.map_some]; congr 1⟩
    | cons a b => simp
 | x :: rest, k, hv, ps, hr, hkl, hlen, hps, hP, hi => by
  have hkl' : k < l.length := by
   have := congrArg List.length hr
   rw [List.length_drop] at this
   simp at this
   omega
  have hx : l[k]? = some x ∧ rest = l.drop (k + 1) := by
   rw [List.drop_eq_getElem_cons hkl'] at hr
   simp only [List.cons.injEq] at hr
   exact ⟨by rw [List.getElem?_eq_getElem hkl', hr.1], hr.2⟩
  obtain ⟨hxk, hrest⟩ := hx
  have hpk := hP k (by omega)
  rw [runA, pullA_cons, pull_push]
  cases hrr : (pushB S l hv k k).r with
  | false =>
   have hz := push_zero S l hv k k hrr
   have hs : stepA S k x ps = some ps := by
    unfold stepA
    rw [hpk]
    simp only [Option.getD_some, hrr, if_true]
   rw [hs, hz]
   simp only [plZ, Bool.false_eq_true, if_false, false_and]
   refine run_pull S l h6 rest (k + 1) (hv ++ [(false, [])]) ps hrest hkl' (by simp [hlen]) hps (fun t ht => ?_) (prefix_push hlen hi (by rw [hz]; rfl))
   rw [pushB, push_more S l hv _ t k (by omega)]
   have hb : bringsB S l (hv ++ [(false, [])]) k t = none := by
    unfold bringsB
    rw [List.getElem?_append_right (by omega), hlen, Nat.sub_self, hxk]
    rfl
   rw [hb]
   exact hP t ht
  | true =>
   rw [stepA_on hpk hrr]
   by_cases hu : (pushB S l hv k k).u = true
   ·rw [if_pos hu, if_pos hu]
    exact ⟨rfl, rfl⟩
   ·rw [if_neg hu, if_neg hu]
    cases hb : behB S x (pushB S l hv k k).st with
    | none =>
     simp only [Option.map_none, hb, and_self, if_true]
    | some st =>
     simp only [Option.map_some, hb, reduceCtorEq, and_false, if_false]
     refine run_pull S l h6 rest (k + 1) (hv ++ [(true, (pushB S l hv k k).st)]) _ hrest hkl' (by simp [hlen]) ?_ (fun t ht => step_push hxk hlen hb (h6 x (List.mem_of_getElem? hxk)) (hP t ht)) (prefix_push hlen hi (by rw [pairP, hrr]))
     split <;> split <;> simp [bringAt_length, hps]
theorem fldT_isK {S : List Wq} {i : ValA} (hS : ∀ f ∈ S, isK f.type) (hf : formB i = 0) (hr : rightF S i = true) (h : (opA i.kind).of = 4 ∨ (opA i.kind).gives = 4) : isK (fldT S i) := by
 obtain ⟨n0, hn⟩ := names_ok hf hr h
 have hlt : i.n.toNat < S.length := by omega
 unfold fldT
 rw [List.getElem?_eq_getElem hlt]
 exact hS _ (List.getElem_mem hlt)
theorem behB_isK {S : List Wq} {i : ValA} {st st' : List Int} (hS : ∀ f ∈ S, isK f.type) (hf : formB i = 0) (hr : rightF S i = true) (hk : ∀ k ∈ st, isK k) (h : behB S i st = some st') : ∀ k ∈ st', isK k := by
 have e : st' = afterB S i st := by
  unfold behB at h
  split at h
  ·cases h
  ·split at h
   ·cases h
   ·split at h
    ·cases h; rfl
    ·cases h
 subst e
 obtain ⟨_, _, _, h4⟩ := op_facts _ (op_cases (formB_zero hf).1)
 intro k hk'
 unfold afterB at hk'
 rcases List.mem_append.1 hk' with q | q
 ·exact hk k (List.mem_of_mem_take q)
 ·by_cases hg : (opA i.kind).gives ≠ 0
  ·rw [if_pos hg, List.mem_singleton] at q
   subst q
   rcases h4 with e | e | e | e | e
   ·exact absurd e hg
   ·unfold ofF; rw [e]; exact Or.inl rfl
   ·unfold ofF; rw [e]; exact Or.inr (Or.inl rfl)
   ·unfold ofF; rw [e]; exact Or.inr (Or.inr rfl)
   ·unfold ofF; rw [if_pos e]; exact fldT_isK hS hf hr (Or.inr e)
  ·rw [if_neg hg] at q
   cases q
theorem schema_isK {S : List Wq} (h : errS S = 0) : ∀ f ∈ S, isK f.type := by
 intro f hf
 have hs : schemaB S = true := by
  rcases errS_eq S with ⟨q, _⟩ | ⟨_, q⟩
  ·exact q
  ·rw [h] at q; cases q
 unfold schemaB at hs
 simp only [Bool.and_eq_true, List.all_eq_true] at hs
 have hq := hs.1.1.2 f hf
 unfold fieldOK wideB at hq
 simp only [Bool.and_eq_true, decide_eq_true_iff] at hq
 unfold isK
 have hq2 := hq.2
 repeat' split at hq2
 all_goals omega
def rbs (hv : List (Bool × List Int)) : List Value := hv.map fun z => Value.bool z.1
def rss (hv : List (Bool × List Int)) : List Value := hv.map fun z => str (z.2.map letR)
theorem rbs_get {hv : List (Bool × List Int)} {k : Nat} {z : Bool × List Int} (h : hv[k]? = some z) : (rbs hv)[k]? = some (.bool z.1) := by simp [rbs, h]
theorem rss_get {hv : List (Bool × List Int)} {k : Nat} {z : Bool × List Int} (h : hv[k]? = some z) : (rss hv)[k]? = some (str (z.2.map letR)) := by simp [rss, h]
theorem rbs_set {hv : List (Bool × List Int)} {k : Nat} {z y : Bool × List Int} (h : hv.length = k) : (rbs (hv ++ [z])).set k (.bool y.1) = rbs (hv ++ [y]) := by
 subst h
 simp [rbs]
theorem rss_set {hv : List (Bool × List Int)} {k : Nat} {z y : Bool × List Int} (h : hv.length = k) : (rss (hv ++ [z])).set k (str (y.2.map letR)) = rss (hv ++ [y]) := by
 subst h
 simp [rss]
structure GoodH (S : List Wq) (l : List ValA) (hv : List (Bool × List Int)) : Prop where
 small : ∀ (k : Nat) (z : Bool × List Int), hv[k]? = some z → z.2.length ≤ 16 ∧ ∀ k ∈ z.2, isK k
 beh : ∀ (k : Nat) (st : List Int), hv[k]? = some (true, st) → ∃ x st', l[k]? = some x ∧ behB S x st = some st'
theorem GoodH.snoc {S : List Wq} {l : List ValA} {hv : List (Bool × List Int)} {z : Bool × List Int} (h : GoodH S l hv) (hz : z.2.length ≤ 16 ∧ ∀ k ∈ z.2, isK k) (hb : ∀ st, z = (true, st) → ∃ x st', l[hv.length]? = some x ∧ behB S x st = some st') : GoodH S l (hv ++ [z]) := by
 constructor
 ·intro k y hy
  by_cases hk : k < hv.length
  ·rw [List.getElem?_append_left hk] at hy; exact h.small k y hy
  ·rw [List.getElem?_append_right (by omega)] at hy
   cases hj : k - hv.length with
   | zero => rw [hj] at hy; simp at hy; subst hy; exact hz
   | succ j => rw [hj] at hy; simp at hy
 ·intro k st hy
  by_cases hk : k < hv.length
  ·rw [List.getElem?_append_left hk] at hy; exact h.beh k st hy
  ·rw [List.getElem?_append_right (by omega)] at hy
   cases hj : k - hv.length with
   | zero =>
    rw [hj] at hy
    simp at hy
    have := hb st hy
    rwa [show hv.length = k by omega] at this
   | succ j => rw [hj] at hy; simp at hy
theorem pullB_off {S : List Wq} {l : List ValA} {hv : List (Bool × List Int)} {p k : Nat} {z : Bool × List Int} {st : List Int} (h : pullB S l hv p k = some z) (hk : hv[k]? = some (false, st)) : pullB S l hv p (k + 1) = some z := by
 rw [pullB, h]
 have : bringsB S l hv k p = none := by unfold bringsB; rw [hk]
 rw [this]
theorem pullB_by {S : List Wq} {l : List ValA} {hv : List (Bool × List Int)} {p k : Nat} {z : Bool × List Int} {st : List Int} {x : ValA} (h : pullB S l hv p k = some z) (hk : hv[k]? = some (true, st)) (hx : l[k]? = some x) (hl : leadsB k x p = false) : pullB S l hv p (k + 1) = some z := by
 rw [pullB, h]
 have : bringsB S l hv k p = none := by unfold bringsB; rw [hk, hx]; simp [hl]
 rw [this]
theorem pullB_on {S : List Wq} {l : List ValA} {hv : List (Bool × List Int)} {p k : Nat} {z : Bool × List Int} {st st' : List Int} {x : ValA} (h : pullB S l hv p k = some z) (hk : hv[k]? = some (true, st)) (hx : l[k]? = some x) (hl : leadsB k x p = true) (hb : behB S x st = some st') : pullB S l hv p (k + 1) = if z.1 = true ∧ z.2 ≠ st' then none else some (true, st') := by
 rw [pullB, h]
 have : bringsB S l hv k p = some st' := by unfold bringsB; rw [hk, hx]; simp [hl, hb]
 rw [this]
theorem pullB_none {S : List Wq} {l : List ValA} {hv : List (Bool × List Int)} {p : Nat} : ∀ {n k : Nat}, pullB S l hv p k = none → pullB S l hv p (k + n) = none
 | 0, _, h => h
 | n + 1, k, h => by rw [show k + (n + 1) = (k + n) + 1 by omega, pullB, pullB_none h]
def Stacked (w : World) (vb vs : Value) (bad : Int) : Option (List (Bool × List Int)) × Nat × Int → Prop
 | (none, k, _) => vb = .slice none 0 0 ∧ vs = .slice none 0 0 ∧ bad = (k : Int)
 | (some hv, _, _) => bad = -1 ∧ w.ownsRow 0 4 1 vb hv.length (rbs hv) ∧ w.ownsRow 0 9 1 vs hv.length (rss hv)
theorem pullA_at {S : List Wq} {l : List ValA} {k : Nat} {x : ValA} {hv : List (Bool × List Int)} (h : l[k]? = some x) : pullA S l k (l.drop k) hv = match pullB S l hv k k with
  | none => (none, k, 112)
  | some z => if z.1 = true ∧ behB S x z.2 = none then (none, k, 112) else pullA S l (k + 1) (l.drop (k + 1)) (hv ++ [z]) := by
 obtain ⟨hk, hx⟩ := List.getElem?_eq_some_iff.1 h
 rw [List.drop_eq_getElem_cons hk, hx, pullA_cons] <;> (cases pullB S l hv k k <;> rfl)
theorem pullA_bad {S : List Wq} {l : List ValA} {k : Nat} {hv : List (Bool × List Int)} (hk : k ≤ l.length) (h : pullB S l hv k k = none) : pullA S l k (l.drop k) hv = (none, k, 112) := by
 by_cases hlt : k < l.length
 ·rw [pullA_at (List.getElem?_eq_getElem hlt), h]
 ·obtain rfl : k = l.length := by omega
  rw [List.drop_length, pullA_nil, h]
theorem field_at {S : List Wq} {x : ValA} {m : MS} (hf : formB x = 0) (hr : rightF S x = true) (hR : rowOK S m.here m.vals) (ho : (opA x.kind).opd = 3 ∨ (opA x.kind).opd = 4 ∨ (opA x.kind).opd = 5) : 0 ≤ x.n ∧ x.n.toNat < S.length ∧ (m.here = true → x.n.toNat < m.vals.length) := by
 have h0 := form_field hf ho
 have h1 : x.n < S.length := by
  unfold rightF at hr
  rcases ho with h | h | h
  ·rw [if_pos h] at hr; simpa using hr
  ·rw [if_neg (by omega), if_pos h] at hr; simp at hr; exact hr.1
  ·rw [if_neg (by omega), if_neg (by omega), if_pos h] at hr; simp at hr; exact hr.1
 refine ⟨h0.1, by omega, fun hh => ?_⟩
 unfold rowOK at hR
 rw [if_pos hh] at hR
 omega
theorem good_len {v : ValA} (h : goodV v) : v.s.length ≤ 20 := by
 rcases h with ⟨_, h⟩ | ⟨_, _, h⟩ | ⟨_, _, h⟩
 ·simp [h]
 ·simp [h]
 ·exact h
theorem MR.to {w0 w : World} {b : Nat} {sv rv : Value} {m m' : MS} (h : MR w0 w b sv rv m) (e : m = m') : MR w0 w b sv rv m' := e ▸ h
theorem step_v {w0 w : World} {b : Nat} {sv rv : Value} {m : MS} (S : List Wq) (h : MR w0 w b sv rv m) (hT : Types w0) (hS : Wt w0 sv S) (hz : errS S = 0) (x : ValA) {ts ts' : List Int} (hM : TyM S m ts) (hb : behB S x ts = some ts') (hf : formB x = 0) (hr : rightF S x = true) (hj : x.kind ≠ 25 ∧ x.kind ≠ 26) :
  Calls Tryz.prog 39 #[.pointer (some ⟨b, 0, none⟩), x.v] w fun e w' => e = .returned (.tuple #[]) ∧ (∃ rv', MR w0 w' b sv rv' (stepM S x m)) ∧ Wp (Own b rv) w w' := by
 obtain ⟨b1, _, b3, b4⟩ := beh_parts hb
 have hlen : ts.length = m.st.length := by rw [← hM.ty]; simp
 have hc := op_cases (formB_zero hf).1
 have hfld := field_at (m := m) hf hr hM.row
 have hl16 : (m.st.take (m.st.length - (opA x.kind).takes) ++ giveM S x m).length ≤ 16 := by
  have hst := (step_ty (schema_isK hz) hf hr hM hb).ty
  have := congrArg List.length hst
  rw [List.length_map] at this
  show (stepM S x m).st.length ≤ 16
  omega
 obtain ⟨o, n, s⟩ := x
 have one : ∀ {W : World} {m' : MS}, MR w0 W b sv rv m' ∧ Wp (fun q => q = b) w W → m' = stepM S ⟨o, n, s⟩ m → (∃ rv', MR w0 W b sv rv' (stepM S ⟨o, n, s⟩ m)) ∧ Wp (Own b rv) w W := fun hq e => ⟨⟨rv, hq.1.to e⟩, hq.2.mono fun q _ e => Or.inl e⟩
 simp only at hc hj b1
 have hgood := hM.good
 simp only [List.mem_cons, List.not_mem_nil, or_false] at hc
 rcases hc with rfl | rfl | rfl | rfl | rfl | rfl | rfl | rfl | rfl | rfl | rfl | rfl | rfl | rfl | rfl | rfl | rfl | rfl | rfl | rfl | rfl | rfl | rfl | rfl | rfl | rfl
 ·have hl : m.st.length < 16 := by
   have : (m.st.take (m.st.length - 0) ++ [toldV S ⟨1, n, s⟩ m]).length ≤ 16 := hl16
   rw [take_all, List.length_append] at this
   simp only [List.length_cons, List.length_nil] at this
   omega
  refine (stepA_v S h hS ⟨1, n, s⟩ (by simp) (fun q => absurd q (by simp)) hl).mono fun e W hq => ⟨hq.1, one hq.2 ?_⟩
  show _ = MS.mk (m.st.take (m.st.length - 0) ++ [toldV S ⟨1, n, s⟩ m]) m.here m.vals
  rw [take_all]
 ·have hl : m.st.length < 16 := by
   have : (m.st.take (m.st.length - 0) ++ [toldV S ⟨2, n, s⟩ m]).length ≤ 16 := hl16
   rw [take_all, List.length_append] at this
   simp only [List.length_cons, List.length_nil] at this
   omega
  refine (stepA_v S h hS ⟨2, n, s⟩ (by simp) (fun q => absurd q (by simp)) hl).mono fun e W hq => ⟨hq.1, one hq.2 ?_⟩
  show _ = MS.mk (m.st.take (m.st.length - 0) ++ [toldV S ⟨2, n, s⟩ m]) m.here m.vals
  rw [take_all]
 ·have hl : m.st.length < 16 := by
   have : (m.st.take (m.st.length - 0) ++ [toldV S ⟨3, n, s⟩ m]).length ≤ 16 := hl16
   rw [take_all, List.length_append] at this
   simp only [List.length_cons, List.length_nil] at this
   omega
  refine (stepA_v S h hS ⟨3, n, s⟩ (by simp) (fun q => absurd q (by simp)) hl).mono fun e W hq => ⟨hq.1, one hq.2 ?_⟩
  show _ = MS.mk (m.st.take (m.st.length - 0) ++ [toldV S ⟨3, n, s⟩ m]) m.here m.vals
  rw [take_all]
 ·have hl : m.st.length < 16 := by
   have : (m.st.take (m.st.length - 0) ++ [toldV S ⟨4, n, s⟩ m]).length ≤ 16 := hl16
   rw [take_all, List.length_append] at this
   simp only [List.length_cons, List.length_nil] at this
   omega
  refine (stepA_v S h hS ⟨4, n, s⟩ (by simp) (fun q => absurd q (by simp)) hl).mono fun e W hq => ⟨hq.1, one hq.2 ?_⟩
  show _ = MS.mk (m.st.take (m.st.length - 0) ++ [toldV S ⟨4, n, s⟩ m]) m.here m.vals
  rw [take_all]
 ·have hl : m.st.length < 16 := by
   have : (m.st.take (m.st.length - 0) ++ [toldV S ⟨5, n, s⟩ m]).length ≤ 16 := hl16
   rw [take_all, List.length_append] at this
   simp only [List.length_cons, List.length_nil] at this
   omega
  refine (stepA_v S h hS ⟨5, n, s⟩ (by simp) (fun _ => hfld (Or.inl rfl)) hl).mono fun e W hq => ⟨hq.1, one hq.2 ?_⟩
  show _ = MS.mk (m.st.take (m.st.length - 0) ++ [toldV S ⟨5, n, s⟩ m]) m.here m.vals
  rw [take_all]
 ·have hl : m.st.length < 16 := by
   have : (m.st.take (m.st.length - 0) ++ [toldV S ⟨6, n, s⟩ m]).length ≤ 16 := hl16
   rw [take_all, List.length_append] at this
   simp only [List.length_cons, List.length_nil] at this
   omega
  refine (stepA_v S h hS ⟨6, n, s⟩ (by simp) (fun _ => hfld (Or.inr (Or.inl rfl))) hl).mono fun e W hq => ⟨hq.1, one hq.2 ?_⟩
  show _ = MS.mk (m.st.take (m.st.length - 0) ++ [toldV S ⟨6, n, s⟩ m]) m.here m.vals
  rw [take_all]
 ·have hl : m.st.length < 16 := by
   have : (m.st.take (m.st.length - 0) ++ [toldV S ⟨7, n, s⟩ m]).length ≤ 16 := hl16
   rw [take_all, List.length_append] at this
   simp only [List.length_cons, List.length_nil] at this
   omega
  refine (stepA_v S h hS ⟨7, n, s⟩ (by simp) (fun q => absurd q (by simp)) hl).mono fun e W hq => ⟨hq.1, one hq.2 ?_⟩
  show _ = MS.mk (m.st.take (m.st.length - 0) ++ [toldV S ⟨7, n, s⟩ m]) m.here m.vals
  rw [take_all]
 ·have hb1 : 1 ≤ ts.length := b1
  obtain ⟨k, hk⟩ : ∃ k, m.st.length = k + 1 := ⟨m.st.length - 1, by omega⟩
  refine (step8_v h n s hk).mono fun e W hq => ⟨hq.1, one hq.2 ?_⟩
  show _ = MS.mk (m.st.take (m.st.length - 1) ++ [oneV 8 (topV m.st)]) m.here m.vals
  rw [hk, Nat.add_sub_cancel]
 ·have hb1 : 1 ≤ ts.length := b1
  obtain ⟨k, hk⟩ : ∃ k, m.st.length = k + 1 := ⟨m.st.length - 1, by omega⟩
  refine (step9_v h n s hk).mono fun e W hq => ⟨hq.1, one hq.2 ?_⟩
  show _ = MS.mk (m.st.take (m.st.length - 1) ++ [oneV 9 (topV m.st)]) m.here m.vals
  rw [hk, Nat.add_sub_cancel]
 ·have hb1 : 2 ≤ ts.length := b1
  obtain ⟨k, hk⟩ : ∃ k, m.st.length = k + 1 + 1 := ⟨m.st.length - 2, by omega⟩
  refine (step10_v h n s hk (good_len (hgood _ (sec_mem (t := 2) (Nat.le_refl _) (by omega)))) (good_len (hgood _ (top_mem (t := 2) (by omega) (by omega)).1))).mono fun e W hq => ⟨hq.1, one hq.2 ?_⟩
  show _ = MS.mk (m.st.take (m.st.length - 2) ++ [twoV 10 (secV m.st) (topV m.st)]) m.here m.vals
  rw [hk, show k + 1 + 1 - 2 = k by omega]
 ·have hb1 : 2 ≤ ts.length := b1
  obtain ⟨k, hk⟩ : ∃ k, m.st.length = k + 1 + 1 := ⟨m.st.length - 2, by omega⟩
  refine (step11_v h n s hk (good_len (hgood _ (sec_mem (t := 2) (Nat.le_refl _) (by omega)))) (good_len (hgood _ (top_mem (t := 2) (by omega) (by omega)).1))).mono fun e W hq => ⟨hq.1, one hq.2 ?_⟩
  show _ = MS.mk (m.st.take (m.st.length - 2) ++ [twoV 11 (secV m.st) (topV m.st)]) m.here m.vals
  rw [hk, show k + 1 + 1 - 2 = k by omega]
 ·have hb1 : 2 ≤ ts.length := b1
  obtain ⟨k, hk⟩ : ∃ k, m.st.length = k + 1 + 1 := ⟨m.st.length - 2, by omega⟩
  refine (step12_v h n s hk (good_len (hgood _ (sec_mem (t := 2) (Nat.le_refl _) (by omega)))) (good_len (hgood _ (top_mem (t := 2) (by omega) (by omega)).1))).mono fun e W hq => ⟨hq.1, one hq.2 ?_⟩
  show _ = MS.mk (m.st.take (m.st.length - 2) ++ [twoV 12 (secV m.st) (topV m.st)]) m.here m.vals
  rw [hk, show k + 1 + 1 - 2 = k by omega]
 ·have hb1 : 2 ≤ ts.length := b1
  obtain ⟨k, hk⟩ : ∃ k, m.st.length = k + 1 + 1 := ⟨m.st.length - 2, by omega⟩
  refine (step13_v h n s hk (good_len (hgood _ (sec_mem (t := 2) (Nat.le_refl _) (by omega)))) (good_len (hgood _ (top_mem (t := 2) (by omega) (by omega)).1))).mono fun e W hq => ⟨hq.1, one hq.2 ?_⟩
  show _ = MS.mk (m.st.take (m.st.length - 2) ++ [twoV 13 (secV m.st) (topV m.st)]) m.here m.vals
  rw [hk, show k + 1 + 1 - 2 = k by omega]
 ·have hb1 : 2 ≤ ts.length := b1
  obtain ⟨k, hk⟩ : ∃ k, m.st.length = k + 1 + 1 := ⟨m.st.length - 2, by omega⟩
  refine (step14_v h n s hk (good_len (hgood _ (sec_mem (t := 2) (Nat.le_refl _) (by omega)))) (good_len (hgood _ (top_mem (t := 2) (by omega) (by omega)).1))).mono fun e W hq => ⟨hq.1, one hq.2 ?_⟩
  show _ = MS.mk (m.st.take (m.st.length - 2) ++ [twoV 14 (secV m.st) (topV m.st)]) m.here m.vals
  rw [hk, show k + 1 + 1 - 2 = k by omega]
 ·have hb1 : 2 ≤ ts.length := b1
  obtain ⟨k, hk⟩ : ∃ k, m.st.length = k + 1 + 1 := ⟨m.st.length - 2, by omega⟩
  refine (step15_v h n s hk (good_len (hgood _ (sec_mem (t := 2) (Nat.le_refl _) (by omega)))) (good_len (hgood _ (top_mem (t := 2) (by omega) (by omega)).1))).mono fun e W hq => ⟨hq.1, one hq.2 ?_⟩
  show _ = MS.mk (m.st.take (m.st.length - 2) ++ [twoV 15 (secV m.st) (topV m.st)]) m.here m.vals
  rw [hk, show k + 1 + 1 - 2 = k by omega]
 ·have hb1 : 2 ≤ ts.length := b1
  obtain ⟨k, hk⟩ : ∃ k, m.st.length = k + 1 + 1 := ⟨m.st.length - 2, by omega⟩
  refine (step16_v h n s hk (good_len (hgood _ (sec_mem (t := 2) (Nat.le_refl _) (by omega)))) (good_len (hgood _ (top_mem (t := 2) (by omega) (by omega)).1))).mono fun e W hq => ⟨hq.1, one hq.2 ?_⟩
  show _ = MS.mk (m.st.take (m.st.length - 2) ++ [twoV 16 (secV m.st) (topV m.st)]) m.here m.vals
  rw [hk, show k + 1 + 1 - 2 = k by omega]
 ·have hb1 : 2 ≤ ts.length := b1
  obtain ⟨k, hk⟩ : ∃ k, m.st.length = k + 1 + 1 := ⟨m.st.length - 2, by omega⟩
  refine (step17_v h n s hk (good_len (hgood _ (sec_mem (t := 2) (Nat.le_refl _) (by omega)))) (good_len (hgood _ (top_mem (t := 2) (by omega) (by omega)).1))).mono fun e W hq => ⟨hq.1, one hq.2 ?_⟩
  show _ = MS.mk (m.st.take (m.st.length - 2) ++ [twoV 17 (secV m.st) (topV m.st)]) m.here m.vals
  rw [hk, show k + 1 + 1 - 2 = k by omega]
 ·have hb1 : 1 ≤ ts.length := b1
  obtain ⟨k, hk⟩ : ∃ k, m.st.length = k + 1 := ⟨m.st.length - 1, by omega⟩
  refine (step18_v h n s hk).mono fun e W hq => ⟨hq.1, one hq.2 ?_⟩
  show _ = MS.mk (m.st.take (m.st.length - 1) ++ [oneV 18 (topV m.st)]) m.here m.vals
  rw [hk, Nat.add_sub_cancel]
 ·have hb1 : 2 ≤ ts.length := b1
  obtain ⟨k, hk⟩ : ∃ k, m.st.length = k + 1 + 1 := ⟨m.st.length - 2, by omega⟩
  refine (step19_v h n s hk (good_len (hgood _ (sec_mem (t := 2) (Nat.le_refl _) (by omega)))) (good_len (hgood _ (top_mem (t := 2) (by omega) (by omega)).1))).mono fun e W hq => ⟨hq.1, one hq.2 ?_⟩
  show _ = MS.mk (m.st.take (m.st.length - 2) ++ [twoV 19 (secV m.st) (topV m.st)]) m.here m.vals
  rw [hk, show k + 1 + 1 - 2 = k by omega]
 ·obtain ⟨n0, n1, n2⟩ := hfld (Or.inl rfl)
  simp only at n0 n1 n2
  obtain ⟨N, rfl⟩ := Int.eq_ofNat_of_zero_le n0
  rw [Int.toNat_natCast] at n1 n2
  have hb1 : 1 ≤ ts.length := b1
  obtain ⟨k, hk⟩ : ∃ k, m.st.length = k + 1 := ⟨m.st.length - 1, by omega⟩
  refine (step20_v h N s hk n2).mono fun e W hq => ⟨hq.1, ⟨rv, hq.2.1.to ?_⟩, hq.2.2⟩
  show _ = MS.mk (m.st.take (m.st.length - 1) ++ []) (setR m ((N : Int).toNat) (topV m.st)).1 (setR m ((N : Int).toNat) (topV m.st)).2
  rw [hk, Nat.add_sub_cancel, List.append_nil, Int.toNat_natCast]
 ·obtain ⟨n0, n1, n2⟩ := hfld (Or.inr (Or.inr rfl))
  simp only at n0 n1 n2
  obtain ⟨N, rfl⟩ := Int.eq_ofNat_of_zero_le n0
  rw [Int.toNat_natCast] at n1 n2
  have hb1 : 1 ≤ ts.length := b1
  obtain ⟨k, hk⟩ : ∃ k, m.st.length = k + 1 := ⟨m.st.length - 1, by omega⟩
  refine (step21_v S h hS N s hk n2 n1).mono fun e W hq => ⟨hq.1, ⟨rv, hq.2.1.to ?_⟩, hq.2.2⟩
  show _ = MS.mk (m.st.take (m.st.length - 1) ++ []) (setR m ((N : Int).toNat) (numV (wrap64 ((loadV S m ((N : Int).toNat)).n + (topV m.st).n)))).1 (setR m ((N : Int).toNat) (numV (wrap64 ((loadV S m ((N : Int).toNat)).n + (topV m.st).n)))).2
  rw [hk, Nat.add_sub_cancel, List.append_nil, Int.toNat_natCast]
 ·obtain ⟨n0, n1, n2⟩ := hfld (Or.inr (Or.inl rfl))
  simp only at n0 n1 n2
  obtain ⟨N, rfl⟩ := Int.eq_ofNat_of_zero_le n0
  rw [Int.toNat_natCast] at n1 n2
  refine (step22_v h N s n2).mono fun e W hq => ⟨hq.1, ⟨rv, hq.2.1.to ?_⟩, hq.2.2⟩
  show _ = MS.mk (m.st.take (m.st.length - 0) ++ []) (setR m ((N : Int).toNat) zV).1 (setR m ((N : Int).toNat) zV).2
  rw [take_all, List.append_nil, Int.toNat_natCast]
 ·refine (step23_v S h hT hS hz n s).mono fun e W hq => ⟨hq.1, ?_, hq.2.2⟩
  obtain ⟨rv', hm⟩ := hq.2.1
  refine ⟨rv', hm.to ?_⟩
  show _ = MS.mk (m.st.take (m.st.length - 0) ++ []) (if m.here then (m.here, m.vals) else (true, S.map zeroV)).1 (if m.here then (m.here, m.vals) else (true, S.map zeroV)).2
  rw [take_all, List.append_nil]
  split <;> rfl
 ·refine (step24_v h n s).mono fun e W hq => ⟨hq.1, ?_, hq.2.2⟩
  obtain ⟨rv', hm⟩ := hq.2.1
  refine ⟨rv', hm.to ?_⟩
  show _ = MS.mk (m.st.take (m.st.length - 0) ++ []) false []
  rw [take_all, List.append_nil]
 ·exact absurd rfl hj.1
 ·exact absurd rfl hj.2
theorem Tryz.info4 : (Tryz.prog.info? 4).map (fun i => (i.zero, i.size, i.bytes)) = some (some (.bool false), 1, 1) := by kernel_rfl
theorem Tryz.info9s : (Tryz.prog.info? 9).map (fun i => (i.zero, i.size, i.bytes)) = some (some (.string ⟨#[]⟩), 1, 16) := by kernel_rfl
def rowsP (hv : List (Bool × List Int)) : List (Bool × List Int) := if hv = [] then [(true, [])] else hv
theorem rowsP_of {hv : List (Bool × List Int)} (h : hv ≠ []) : rowsP hv = hv := if_neg h
structure RowsAt (B : Nat) (w : World) (vr vh : Value) (N : Nat) (hv : List (Bool × List Int)) : Prop where
 len : hv.length = N
 bs : w.ownsRow B 4 1 vr N (rbs hv)
 ss : w.ownsRow B 9 1 vh N (rss hv)
theorem rows_start (w : World) : RowsAt w.heap.size ((w.alloc (.cells #[.bool true] 4)).alloc (.cells #[.string ⟨#[]⟩] 9)) (.slice (some ⟨w.heap.size, 0, none⟩) 1 1) (.slice (some ⟨w.heap.size + 1, 0, none⟩) 1 1) 1 (rowsP []) := by
 refine ⟨rfl, ?_, ?_⟩
 ·exact (World.ownsRow_lit (base := w.heap.size) (e := 4) (size := 1) w #[.bool true] 1 (Nat.le_refl _) (by unfold maxLen; omega) rfl).alloc _
 ·have := World.ownsRow_lit (base := w.heap.size) (e := 9) (size := 1) (w.alloc (.cells #[.bool true] 4)) #[.string ⟨#[]⟩] 1 (by simp) (by unfold maxLen; omega) rfl
  rw [World.size_alloc] at this
  exact this
theorem RowsAt.keepF {B : Nat} {w w' : World} {vr vh : Value} {N : Nat} {hv : List (Bool × List Int)} (h : RowsAt B w vr vh N hv) (hk : Wp (fun _ => False) w w') : RowsAt B w' vr vh N hv :=
 ⟨h.len, zI h.bs hk (fun _ _ => id), zI h.ss hk (fun _ _ => id)⟩
theorem RowsAt.form {B : Nat} {w : World} {vr vh : Value} {N : Nat} {hv : List (Bool × List Int)} (h : RowsAt B w vr vh N hv) (hN : 0 < N) : ∃ g1 c1 g2 c2, vr = .slice (some ⟨g1, 0, none⟩) N c1 ∧ vh = .slice (some ⟨g2, 0, none⟩) N c2 := by
 obtain ⟨g1, c1, e1, _⟩ := (World.ownsRow.form h.bs hN)
 obtain ⟨g2, c2, e2, _⟩ := (World.ownsRow.form h.ss hN)
 exact ⟨g1, c1, g2, c2, e1, e2⟩
theorem RowsAt.lt {B : Nat} {w : World} {g1 c1 g2 c2 : Nat} {N : Nat} {hv : List (Bool × List Int)} (h : RowsAt B w (.slice (some ⟨g1, 0, none⟩) N c1) (.slice (some ⟨g2, 0, none⟩) N c2) N hv) : (B ≤ g1 ∧ g1 < w.heap.size) ∧ (B ≤ g2 ∧ g2 < w.heap.size) ∧ g1 ≠ g2 := by
 refine ⟨h.bs.lt g1 rfl, h.ss.lt g2 rfl, ?_⟩
 rcases h.bs.2 with ⟨h', _⟩ | ⟨g', cap', cur, h', _, hg, _⟩
 ·simp at h'
 ·simp only [Value.slice.injEq, Option.some.injEq, Addr.mk.injEq, and_true, true_and] at h'
  obtain ⟨rfl, rfl⟩ := h'
  intro e
  exact ownsRow_ne h.ss hg (by decide) (by rw [e]; rfl)
theorem RowsAt.cell {B : Nat} {w : World} {g1 c1 g2 c2 : Nat} {N : Nat} {hv : List (Bool × List Int)} (h : RowsAt B w (.slice (some ⟨g1, 0, none⟩) N c1) (.slice (some ⟨g2, 0, none⟩) N c2) N hv) {k : Nat} {z : Bool × List Int} (hz : hv[k]? = some z) :
  w.cell? ⟨g1, k, none⟩ = some (.bool z.1) ∧ w.cell? ⟨g2, k, none⟩ = some (str (z.2.map letR)) := by
 have hk : k < N * 1 := by rw [← h.len, Nat.mul_one]; exact (List.getElem?_eq_some_iff.1 hz).1
 exact ⟨(h.bs.cellAt k hk).trans (rbs_get hz), (h.ss.cellAt k hk).trans (rss_get hz)⟩
theorem RowsAt.frozen {B : Nat} {w : World} {g1 c1 g2 c2 : Nat} {N : Nat} {hv : List (Bool × List Int)} (h : RowsAt B w (.slice (some ⟨g1, 0, none⟩) N c1) (.slice (some ⟨g2, 0, none⟩) N c2) N hv) (k : Nat) :
  w.frozen? ⟨g1, k, none⟩ = false ∧ w.frozen? ⟨g2, k, none⟩ = false := ⟨h.bs.frozenAt k, h.ss.frozenAt k⟩
theorem keeps_two (w : World) (g1 g2 o : Nat) (x y : Value) : Wp (fun q => q = g1 ∨ q = g2) w ((w.setCell ⟨g1, o, none⟩ x).setCell ⟨g2, o, none⟩ y) :=
 Wp.setCell (F := fun q => q = g1 ∨ q = g2) (p := ⟨g2, o, none⟩) (Wp.setCell (F := fun q => q = g1 ∨ q = g2) (p := ⟨g1, o, none⟩) (Wp.refl _ w) (fun _ => Or.inl rfl) x) (fun _ => Or.inr rfl) y
theorem RowsAt.put {B : Nat} {w : World} {g1 c1 g2 c2 : Nat} {N : Nat} {hv : List (Bool × List Int)} {z : Bool × List Int} (h : RowsAt B w (.slice (some ⟨g1, 0, none⟩) N c1) (.slice (some ⟨g2, 0, none⟩) N c2) N (hv ++ [z])) {p : Nat} (hp : hv.length = p) (st : List Int) :
  RowsAt B ((w.setCell ⟨g1, p, none⟩ (.bool true)).setCell ⟨g2, p, none⟩ (str (st.map letR))) (.slice (some ⟨g1, 0, none⟩) N c1) (.slice (some ⟨g2, 0, none⟩) N c2) N (hv ++ [(true, st)]) := by
 obtain ⟨_, _, hne⟩ := h.lt
 have h1 := (h.bs.stored p (.bool true)).1
 rw [rbs_set (y := (true, st)) hp] at h1
 have k1 : Wp (fun q => q = g1) w (w.setCell ⟨g1, p, none⟩ (.bool true)) := Wp.setCell (F := fun q => q = g1) (p := ⟨g1, p, none⟩) (Wp.refl _ w) (fun _ => rfl) _
 have h2 := zI h.ss k1 (fun q e hq => hne (by simp [Value.ownBlock] at e; omega))
 have h3 := (h2.stored p (str (st.map letR))).1
 rw [rss_set (y := (true, st)) hp] at h3
 have k2 : Wp (fun q => q = g2) (w.setCell ⟨g1, p, none⟩ (.bool true)) ((w.setCell ⟨g1, p, none⟩ (.bool true)).setCell ⟨g2, p, none⟩ (str (st.map letR))) := Wp.setCell (F := fun q => q = g2) (p := ⟨g2, p, none⟩) (Wp.refl _ _) (fun _ => rfl) _
 exact ⟨by simpa using h.len, zI h1 k2 (fun q e hq => hne (by simp [Value.ownBlock] at e; omega)), h3⟩
theorem owns_apart {w : World} {B C e f s r n m : Nat} {v u : Value} {xs ys : List Value} (h : w.ownsRow B e s v n xs) (k : w.ownsRow C f r u m ys) (hne : e ≠ f) : v.ownBlock = none ∨ v.ownBlock ≠ u.ownBlock := by
 rcases h.2 with ⟨h', _⟩ | ⟨g', cap', cur, h', _, hg, _⟩
 ·left; rw [h']; rfl
 ·right
  rw [h']
  intro q
  exact ownsRow_ne k hg hne q.symm
theorem rows_more {B : Nat} {w w1 w2 : World} {vr vh v1 v2 : Value} {p : Nat} {hv : List (Bool × List Int)} {o1 o2 : Obj} (h : RowsAt B w vr vh p hv) (h1 : w1.ownsRow B 4 1 v1 (p + 1) (rbs hv ++ [.bool false])) (g1 : (w.alloc o1).grownBy w1 vr.ownBlock) (h2 : w2.ownsRow B 9 1 v2 (p + 1) (rss hv ++ [.string ⟨#[]⟩])) (g2 : (w1.alloc o2).grownBy w2 vh.ownBlock) :
  RowsAt B w2 v1 v2 (p + 1) (hv ++ [(false, [])]) := by
 have hs1 : w1.ownsRow B 9 1 vh p (rss hv) := (h.ss.alloc o1).kept g1 (owns_apart h.ss h.bs (by decide))
 refine ⟨by simp [h.len], ?_, ?_⟩
 ·have := (h1.alloc o2).kept g2 (owns_apart h1 hs1 (by decide))
  simpa [rbs] using this
 ·simpa [rss, str] using h2
theorem good_nil (S : List Wq) (l : List ValA) : GoodH S l [] := ⟨fun k z h => by simp at h, fun k st h => by simp at h⟩
end Go.Proofs.YtbdlcaamanhapaaGreatDoor
