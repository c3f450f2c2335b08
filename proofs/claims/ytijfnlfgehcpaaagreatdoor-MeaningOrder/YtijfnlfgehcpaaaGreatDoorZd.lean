import Derived.Test.YtijfnlfgehcpaaaGreatDoorDs
namespace Go.Proofs.YtijfnlfgehcpaaaGreatDoor
open Go.RowKit Go.Maps

theorem less_asym : ∀ (a b : Txt), Op.bytesLess a b = true → Op.bytesLess b a = false
  | [], [], h => by simp [Op.bytesLess] at h
  | [], _ :: _, _ => by simp [Op.bytesLess]
  | _ :: _, [], h => by simp [Op.bytesLess] at h
  | x :: a, y :: b, h => by
    simp only [Op.bytesLess, Bool.or_eq_true, Bool.and_eq_true, decide_eq_true_eq, beq_iff_eq] at h
    simp only [Op.bytesLess, Bool.or_eq_false_iff, Bool.and_eq_false_iff, decide_eq_false_iff_not, beq_eq_false_iff_ne]
    rcases h with h | ⟨rfl, h⟩
    · refine ⟨fun q => ?_, Or.inl fun q => ?_⟩
      · have h1 := UInt8.lt_iff_toNat_lt.1 h
        have h2 := UInt8.lt_iff_toNat_lt.1 q
        omega
      · have h1 := UInt8.lt_iff_toNat_lt.1 h
        rw [q] at h1
        omega
    · refine ⟨fun q => ?_, Or.inr (less_asym a b h)⟩
      have h2 := UInt8.lt_iff_toNat_lt.1 q
      omega
theorem less_tri : ∀ (a b : Txt), Op.bytesLess a b = false → Op.bytesLess b a = false → a = b
  | [], [], _, _ => rfl
  | [], _ :: _, h, _ => by simp [Op.bytesLess] at h
  | _ :: _, [], _, h => by simp [Op.bytesLess] at h
  | x :: a, y :: b, h, h' => by
    simp only [Op.bytesLess, Bool.or_eq_false_iff, Bool.and_eq_false_iff, decide_eq_false_iff_not, beq_eq_false_iff_ne] at h h'
    have hxy : x = y := by
      apply UInt8.toNat_inj.1
      have h1 : ¬ x.toNat < y.toNat := fun q => h.1 (UInt8.lt_iff_toNat_lt.2 q)
      have h2 : ¬ y.toNat < x.toNat := fun q => h'.1 (UInt8.lt_iff_toNat_lt.2 q)
      omega
    subst hxy
    have h1 := h.2.resolve_left (fun q => q rfl)
    have h2 := h'.2.resolve_left (fun q => q rfl)
    rw [less_tri a b h1 h2]
theorem less_irr (a : Txt) : Op.bytesLess a a = false := by
  cases h : Op.bytesLess a a with
  | false => rfl
  | true => have := less_asym a a h; rw [h] at this; cases this
theorem less_trans : ∀ (a b c : Txt), Op.bytesLess a b = true → Op.bytesLess b c = true → Op.bytesLess a c = true
  | [], [], _, h, _ => by simp [Op.bytesLess] at h
  | [], _ :: _, [], _, h => by simp [Op.bytesLess] at h
  | [], _ :: _, _ :: _, _, _ => by simp [Op.bytesLess]
  | _ :: _, [], _, h, _ => by simp [Op.bytesLess] at h
  | _ :: _, _ :: _, [], _, h => by simp [Op.bytesLess] at h
  | a :: x, b :: y, c :: z, h1, h2 => by
    simp only [Op.bytesLess, Bool.or_eq_true, Bool.and_eq_true, decide_eq_true_eq, beq_iff_eq] at h1 h2 ⊢
    rcases h1 with h1 | ⟨rfl, h1⟩
    · rcases h2 with h2 | ⟨rfl, h2⟩
      · exact Or.inl (UInt8.lt_trans h1 h2)
      · exact Or.inl h1
    · rcases h2 with h2 | ⟨rfl, h2⟩
      · exact Or.inl h2
      · exact Or.inr ⟨rfl, less_trans x y z h1 h2⟩
theorem cmpT_cases (a b : Txt) : (cmpT a b = -1 ∧ cmpT b a = 1 ∧ Op.bytesLess a b = true) ∨ (cmpT a b = 0 ∧ cmpT b a = 0 ∧ a = b) ∨ (cmpT a b = 1 ∧ cmpT b a = -1 ∧ Op.bytesLess b a = true) := by
  cases h1 : Op.bytesLess a b with
  | true =>
    have h2 := less_asym a b h1
    have hne : b ≠ a := fun e => by
      rw [e, less_irr] at h1
      cases h1
    exact Or.inl ⟨by simp [cmpT, h1], by simp [cmpT, h2, hne], rfl⟩
  | false =>
    cases h2 : Op.bytesLess b a with
    | true =>
      have hne : a ≠ b := fun e => by
        rw [e, less_irr] at h2
        cases h2
      exact Or.inr (Or.inr ⟨by simp [cmpT, h1, hne], by simp [cmpT, h2], rfl⟩)
    | false =>
      have e := less_tri a b h1 h2
      subst e
      exact Or.inr (Or.inl ⟨by simp [cmpT, less_irr], by simp [cmpT, less_irr], rfl⟩)
/-- Is a ahead of b? -/
def Ahead (a b : ValA) : Prop := a.n < b.n ∨ a.n = b.n ∧ Op.bytesLess a.s b.s = true
theorem ord_cases (a b : ValA) : (ordV a b = -1 ∧ ordV b a = 1 ∧ Ahead a b) ∨ (ordV a b = 0 ∧ ordV b a = 0 ∧ a.n = b.n ∧ a.s = b.s) ∨ (ordV a b = 1 ∧ ordV b a = -1 ∧ Ahead b a) := by
  unfold ordV cmpI Ahead
  by_cases h1 : a.n < b.n
  · exact Or.inl ⟨by simp [h1], by have : ¬ b.n < a.n := by omega
                                   simp [h1, this], Or.inl h1⟩
  · by_cases h2 : b.n < a.n
    · exact Or.inr (Or.inr ⟨by simp [h1, h2], by simp [h2], Or.inl h2⟩)
    · have e : a.n = b.n := by omega
      have n1 : ¬ a.n < a.n := by omega
      rcases cmpT_cases a.s b.s with ⟨c1, c2, c3⟩ | ⟨c1, c2, c3⟩ | ⟨c1, c2, c3⟩
      · exact Or.inl ⟨by simp [h1, h2, c1], by simp [h1, h2, c2], Or.inr ⟨e, c3⟩⟩
      · exact Or.inr (Or.inl ⟨by simp [h1, h2, c1], by simp [h1, h2, c2], e, c3⟩)
      · exact Or.inr (Or.inr ⟨by simp [h1, h2, c1], by simp [h1, h2, c2], Or.inr ⟨e.symm, c3⟩⟩)
theorem ahead_trans {a b c : ValA} (h1 : Ahead a b) (h2 : Ahead b c) : Ahead a c := by
  rcases h1 with h1 | ⟨e1, h1⟩
  · rcases h2 with h2 | ⟨e2, _⟩
    · exact Or.inl (by omega)
    · exact Or.inl (by omega)
  · rcases h2 with h2 | ⟨e2, h2⟩
    · exact Or.inl (by omega)
    · exact Or.inr ⟨by omega, less_trans _ _ _ h1 h2⟩
theorem ahead_irr {a b : ValA} (h1 : Ahead a b) (h2 : Ahead b a) : False := by
  rcases ahead_trans h1 h2 with h | ⟨_, h⟩
  · omega
  · rw [less_irr] at h
    cases h
theorem ord_lt {a b : ValA} : ordV a b < 0 ↔ Ahead a b := by
  rcases ord_cases a b with ⟨c1, _, c3⟩ | ⟨c1, _, c3, c4⟩ | ⟨c1, _, c3⟩
  · simp [c1, c3]
  · constructor
    · intro h; omega
    · rintro (h | ⟨_, h⟩)
      · omega
      · rw [c4, less_irr] at h; cases h
  · constructor
    · intro h; omega
    · exact fun h => (ahead_irr h c3).elim
theorem not_tru (b : Bool) : opV 7 [truV b] = truV (!b) := by cases b <;> rfl
theorem and_tru (a b : Bool) : opV 18 [truV a, truV b] = truV (a && b) := by cases a <;> cases b <;> rfl
theorem tru_flip {p q : Prop} [Decidable p] [Decidable q] (h : p ↔ q) : truV (decide p) = truV (decide q) := by
  by_cases hp : p
  · have hq := h.1 hp; simp [hp, hq]
  · have hq : ¬ q := fun x => hp (h.2 x); simp [hp, hq]
theorem gt_val (a b : ValA) : opV 14 [a, b] = opV 12 [b, a] := by
  show truV (decide (0 < ordV a b)) = truV (decide (ordV b a < 0))
  refine tru_flip ?_
  rcases ord_cases a b with ⟨c1, c2, _⟩ | ⟨c1, c2, _⟩ | ⟨c1, c2, _⟩ <;> omega
theorem le_val (a b : ValA) : opV 13 [a, b] = opV 7 [opV 12 [b, a]] := by
  show truV (decide (ordV a b ≤ 0)) = opV 7 [truV (decide (ordV b a < 0))]
  rw [not_tru, ← decide_not]
  refine tru_flip ?_
  rcases ord_cases a b with ⟨c1, c2, _⟩ | ⟨c1, c2, _⟩ | ⟨c1, c2, _⟩ <;> omega
theorem ge_val (a b : ValA) : opV 15 [a, b] = opV 7 [opV 12 [a, b]] := by
  show truV (decide (0 ≤ ordV a b)) = opV 7 [truV (decide (ordV a b < 0))]
  rw [not_tru, ← decide_not]
  exact tru_flip (by omega)
theorem ne_val (a b : ValA) : opV 17 [a, b] = opV 7 [opV 16 [a, b]] := by
  show truV (!decide (a = b)) = opV 7 [truV (decide (a = b))]
  rw [not_tru]
theorem eq_val {a b : ValA} (hk : a.kind = b.kind) : opV 18 [opV 13 [a, b], opV 13 [b, a]] = opV 16 [a, b] := by
  show opV 18 [truV (decide (ordV a b ≤ 0)), truV (decide (ordV b a ≤ 0))] = truV (decide (a = b))
  rw [and_tru, ← Bool.decide_and]
  refine tru_flip ?_
  rcases ord_cases a b with ⟨c1, c2, c3⟩ | ⟨c1, c2, c3, c4⟩ | ⟨c1, c2, c3⟩
  · constructor
    · intro h; omega
    · intro e; subst e; exact (ahead_irr c3 c3).elim
  · constructor
    · intro _
      obtain ⟨ak, an, aq⟩ := a
      obtain ⟨bk, bn, bs⟩ := b
      simp only at hk c3 c4
      subst hk c3 c4
      rfl
    · intro _; omega
  · constructor
    · intro h; omega
    · intro e; subst e; exact (ahead_irr c3 c3).elim
theorem pick_tru (d : Bool) (a b : ValA) : opV 25 [truV d, a, b] = if d then a else b := by cases d <;> rfl
theorem ord_num (x y : Int) : ordV (numV x) (numV y) < 0 ↔ x < y := by
  rw [ord_lt]
  unfold Ahead numV
  simp [Op.bytesLess]
theorem min_val (x y : Int) : opV 21 [numV x, numV y] = opV 25 [opV 12 [numV x, numV y], numV x, numV y] := by
  show numV (min x y) = opV 25 [truV (decide (ordV (numV x) (numV y) < 0)), numV x, numV y]
  rw [pick_tru]
  by_cases h : x < y
  · rw [decide_eq_true ((ord_num x y).2 h), if_pos rfl, show min x y = x by omega]
  · rw [decide_eq_false (fun q => h ((ord_num x y).1 q)), if_neg (by simp), show min x y = y by omega]
theorem max_val (x y : Int) : opV 22 [numV x, numV y] = opV 25 [opV 12 [numV x, numV y], numV y, numV x] := by
  show numV (max x y) = opV 25 [truV (decide (ordV (numV x) (numV y) < 0)), numV y, numV x]
  rw [pick_tru]
  by_cases h : x < y
  · rw [decide_eq_true ((ord_num x y).2 h), if_pos rfl, show max x y = y by omega]
  · rw [decide_eq_false (fun q => h ((ord_num x y).1 q)), if_neg (by simp), show max x y = x by omega]
theorem or_val (a b : Bool) : opV 19 [truV a, truV b] = opV 7 [opV 18 [opV 7 [truV a], opV 7 [truV b]]] := by cases a <;> cases b <;> rfl
theorem chain_val (a b c : ValA) : opV 18 [opV 18 [opV 12 [a, b], opV 12 [b, c]], opV 12 [a, c]] = opV 18 [opV 12 [a, b], opV 12 [b, c]] := by
  show opV 18 [opV 18 [truV (decide (ordV a b < 0)), truV (decide (ordV b c < 0))], truV (decide (ordV a c < 0))] = opV 18 [truV (decide (ordV a b < 0)), truV (decide (ordV b c < 0))]
  rw [and_tru, and_tru]
  by_cases h1 : ordV a b < 0
  · by_cases h2 : ordV b c < 0
    · have h3 : ordV a c < 0 := ord_lt.2 (ahead_trans (ord_lt.1 h1) (ord_lt.1 h2))
      simp [h1, h2, h3]
    · simp [h2]
  · simp [h1]
theorem val3 {S : List FieldA} {h : Bool} {vals : List ValA} {k : Int} {a b c : XE} (hk : ¬ k ≤ 6) : (mk3 k a b c).val S h vals = opV k [a.val S h vals, b.val S h vals, c.val S h vals] := by
  unfold XE.val mk3 XE.el nodeV
  rw [if_neg hk]
  rfl
/-- A value of bool is a truth. -/
theorem fit_bool {k : KA} {v : ValA} (h : FitK k v) (ht : k.t = 2) (ho : k.o = false) : ∃ x, v = truV x := by
  obtain ⟨hg, hk⟩ := h.plain ho
  rw [ht] at hk
  obtain ⟨vk, vn, vs⟩ := v
  simp only at hk
  subst hk
  rcases hg with ⟨h2, _⟩ | ⟨_, hn, hs⟩ | ⟨h2, _⟩
  · simp at h2
  · simp only at hn hs
    subst hs
    rcases hn with rfl | rfl
    · exact ⟨false, rfl⟩
    · exact ⟨true, rfl⟩
  · simp at h2
/-- What MeaningOrder says, of the pure program. -/
theorem order_law (S : List FieldA) (h : Bool) (vals : List ValA) (a b c : XE) :
    Alike S h vals (mk2 14 a b) (mk2 12 b a) ∧ Alike S h vals (mk2 13 a b) (mk1 7 (mk2 12 b a)) ∧ Alike S h vals (mk2 15 a b) (mk1 7 (mk2 12 a b)) ∧ Alike S h vals (mk2 17 a b) (mk1 7 (mk2 16 a b)) ∧
    Alike S h vals (mk2 18 (mk2 13 a b) (mk2 13 b a)) (mk2 16 a b) ∧ Alike S h vals (mk2 21 a b) (mk3 25 (mk2 12 a b) a b) ∧ Alike S h vals (mk2 22 a b) (mk3 25 (mk2 12 a b) b a) ∧
    Alike S h vals (mk2 19 a b) (mk1 7 (mk2 18 (mk1 7 a) (mk1 7 b))) ∧ Alike S h vals (mk2 18 (mk2 18 (mk2 12 a b) (mk2 12 b c)) (mk2 12 a c)) (mk2 18 (mk2 12 a b) (mk2 12 b c)) := by
  refine ⟨alike_of fun hS hr h1 h2 => ?_, alike_of fun hS hr h1 h2 => ?_, alike_of fun hS hr h1 h2 => ?_, alike_of fun hS hr h1 h2 => ?_, alike_of fun hS hr h1 h2 => ?_, alike_of fun hS hr h1 h2 => ?_, alike_of fun hS hr h1 h2 => ?_, alike_of fun hS hr h1 h2 => ?_, alike_of fun hS hr h1 h2 => ?_⟩
  · rw [val2 (by decide), val2 (by decide), gt_val]
  · rw [val2 (by decide), val1 (by decide), val2 (by decide), le_val]
  · rw [val2 (by decide), val1 (by decide), val2 (by decide), ge_val]
  · rw [val2 (by decide), val1 (by decide), val2 (by decide), ne_val]
  · obtain ⟨oa, ob, hrule, _⟩ := ok2 h2
    obtain ⟨q1, q2⟩ := orI_zero (show orI (plainI (a.kind S) [1, 2, 3]) (plainI (b.kind S) [(a.kind S).t]) = 0 from hrule)
    obtain ⟨_, o1⟩ := plain_zero q1
    obtain ⟨t2, o2⟩ := plain_zero q2
    have ka := ((ok_fit hS hr oa).plain o1).2
    have kb := ((ok_fit hS hr ob).plain o2).2
    have t2' : (b.kind S).t = (a.kind S).t := by simpa using t2
    rw [val2 (by decide), val2 (by decide), val2 (by decide), val2 (by decide), eq_val (by rw [ka, kb, t2'])]
  · obtain ⟨oa, ob, hrule, _⟩ := ok2 h1
    obtain ⟨⟨t, o⟩, t2, o2⟩ := takesA2 (takesK_zero (show (takesK 1 [1, 1] [a.kind S, b.kind S]).2 = 0 from hrule)).1
    obtain ⟨x, hx⟩ := fit_int (ok_fit hS hr oa) t o
    obtain ⟨y, hy⟩ := fit_int (ok_fit hS hr ob) t2 o2
    rw [val2 (by decide), val3 (by decide), val2 (by decide), hx, hy, min_val]
  · obtain ⟨oa, ob, hrule, _⟩ := ok2 h1
    obtain ⟨⟨t, o⟩, t2, o2⟩ := takesA2 (takesK_zero (show (takesK 1 [1, 1] [a.kind S, b.kind S]).2 = 0 from hrule)).1
    obtain ⟨x, hx⟩ := fit_int (ok_fit hS hr oa) t o
    obtain ⟨y, hy⟩ := fit_int (ok_fit hS hr ob) t2 o2
    rw [val2 (by decide), val3 (by decide), val2 (by decide), hx, hy, max_val]
  · obtain ⟨oa, ob, hrule, _⟩ := ok2 h1
    obtain ⟨⟨t, o⟩, t2, o2⟩ := takesA2 (takesK_zero (show (takesK 2 [2, 2] [a.kind S, b.kind S]).2 = 0 from hrule)).1
    obtain ⟨x, hx⟩ := fit_bool (ok_fit hS hr oa) t o
    obtain ⟨y, hy⟩ := fit_bool (ok_fit hS hr ob) t2 o2
    rw [val2 (by decide), val1 (by decide), val2 (by decide), val1 (by decide), val1 (by decide), hx, hy, or_val]
  · rw [val2 (by decide), val2 (by decide), val2 (by decide), val2 (by decide), val2 (by decide), chain_val]
end Go.Proofs.YtijfnlfgehcpaaaGreatDoor
