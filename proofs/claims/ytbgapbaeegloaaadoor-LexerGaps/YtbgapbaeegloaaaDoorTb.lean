import Derived.Test.YtbgapbaeegloaaaDoorTa
import Derived.Test.YtbgapbaeegloaaaDoorMj
namespace Go.Proofs.YtbgapbaeegloaaaDoor
open Go.RowKit Go.Maps

theorem run_tw (T : Txt) : runB T = (T.takeWhile (fun c => partB (num c))).length := by
  unfold runB scan
  rw [List.drop_zero, Nat.zero_add]
theorem tw_take {p : UInt8 → Bool} : ∀ (T : Txt) (k : Nat), (T.take k).takeWhile p = (T.takeWhile p).take k
  | [], k => by simp
  | c :: r, 0 => by simp
  | c :: r, k + 1 => by
    simp only [List.take_succ_cons, List.takeWhile_cons]
    split
    · rw [tw_take r k, List.take_succ_cons]
    · simp
theorem run_take (T : Txt) (k : Nat) (h : runB T ≤ k) : runB (T.take k) = runB T := by
  rw [run_tw] at h
  rw [run_tw, run_tw, tw_take, List.length_take]
  omega
theorem tw_app {p : UInt8 → Bool} : ∀ (T S : Txt), ((T.takeWhile p).length < T.length ∨ (∀ y, S[0]? = some y → p y = false)) → (T ++ S).takeWhile p = T.takeWhile p
  | [], S, h => by
    rcases h with h | h
    · simp at h
    · cases S with
      | nil => rfl
      | cons y r => simp [h y rfl]
  | c :: r, S, h => by
    simp only [List.cons_append, List.takeWhile_cons] at h ⊢
    split
    · rename_i hc
      rw [if_pos hc] at h
      rw [tw_app r S (h.imp (fun q => by simpa using q) id)]
    · rfl
theorem run_app (T S : Txt) (h : runB T < T.length ∨ (∀ y, S[0]? = some y → partB (num y) = false)) : runB (T ++ S) = runB T := by
  rw [run_tw] at h
  rw [run_tw, run_tw, tw_app T S h]

/-- Two texts that begin alike. -/
def Agree (n : Nat) (t t' : Txt) : Prop := ∀ i, i < n → t[i]? = t'[i]?
theorem Agree.mono {n m : Nat} {t t' : Txt} (h : Agree n t t') (hm : m ≤ n) : Agree m t t' := fun i hi => h i (by omega)
theorem agree_take (t : Txt) (n k : Nat) (h : n ≤ k) : Agree n t (t.take k) := fun i hi => (List.getElem?_take_of_lt (by omega)).symm
theorem agree_app (t s : Txt) (n : Nat) (h : n ≤ t.length) : Agree n t (t ++ s) := fun i hi => (List.getElem?_append_left (by omega)).symm
theorem agree_take_eq {n m : Nat} {t t' : Txt} (h : Agree n t t') (hm : m ≤ n) : t.take m = t'.take m := by
  apply List.ext_getElem?
  intro i
  by_cases hi : i < m
  · rw [List.getElem?_take_of_lt hi, List.getElem?_take_of_lt hi]; exact h i (by omega)
  · rw [List.getElem?_eq_none (by rw [List.length_take]; omega), List.getElem?_eq_none (by rw [List.length_take]; omega)]
theorem agree_drop_take {n m a : Nat} {t t' : Txt} (h : Agree n t t') (hm : a + m ≤ n) : (t.drop a).take m = (t'.drop a).take m := by
  apply List.ext_getElem?
  intro i
  by_cases hi : i < m
  · rw [List.getElem?_take_of_lt hi, List.getElem?_take_of_lt hi, List.getElem?_drop, List.getElem?_drop]; exact h _ (by omega)
  · rw [List.getElem?_eq_none (by rw [List.length_take]; omega), List.getElem?_eq_none (by rw [List.length_take]; omega)]

theorem runeOf_local (c d d' : Int) (m1 m2 m3 n1 n2 n3 : Bool) (r : Int) (h : runeOf c d m1 m2 m3 = r) (h0 : r ≠ 0) (e1 : 1 < r → n1 = m1 ∧ d' = d) (e2 : 2 < r → n2 = m2) (e3 : 3 < r → n3 = m3) : runeOf c d' n1 n2 n3 = r := by
  unfold runeOf at h ⊢
  by_cases g1 : 194 ≤ c ∧ c ≤ 223 ∧ m1 = true
  · rw [if_pos g1] at h
    subst h
    obtain ⟨rfl, _⟩ := e1 (by omega)
    rw [if_pos g1]
  · rw [if_neg g1] at h
    by_cases g2 : 224 ≤ c ∧ c ≤ 239 ∧ m1 = true ∧ m2 = true
    · rw [if_pos g2] at h
      by_cases g3 : (c = 224 ∧ d < 160) ∨ (c = 237 ∧ 159 < d)
      · rw [if_pos g3] at h; exact absurd h.symm h0
      · rw [if_neg g3] at h
        subst h
        obtain ⟨rfl, rfl⟩ := e1 (by omega)
        obtain rfl := e2 (by omega)
        rw [if_neg g1, if_pos g2, if_neg g3]
    · rw [if_neg g2] at h
      by_cases g4 : 240 ≤ c ∧ c ≤ 244 ∧ m1 = true ∧ m2 = true ∧ m3 = true
      · rw [if_pos g4] at h
        by_cases g5 : (c = 240 ∧ d < 144) ∨ (c = 244 ∧ 143 < d)
        · rw [if_pos g5] at h; exact absurd h.symm h0
        · rw [if_neg g5] at h
          subst h
          obtain ⟨rfl, rfl⟩ := e1 (by omega)
          obtain rfl := e2 (by omega)
          obtain rfl := e3 (by omega)
          rw [if_neg (by omega), if_neg (by omega), if_pos g4, if_neg g5]
      · rw [if_neg g4] at h; exact absurd h.symm h0
theorem nth_agree {n a : Nat} {t t' : Txt} (h : Agree n t t') (ha : a < n) : nth t a = nth t' a := by
  unfold nth
  rw [List.getD_eq_getElem?_getD, List.getD_eq_getElem?_getD, h a ha]
theorem more_agree {n a : Nat} {t t' : Txt} (h : Agree n t t') (ha : a < n) : moreB t a = moreB t' a := by
  unfold moreB
  rw [h a ha]
theorem rune_agree {n a : Nat} {t t' : Txt} (h : Agree n t t') (h0 : runeB t a ≠ 0) (hn : a + (runeB t a).toNat ≤ n) : runeB t' a = runeB t a := by
  rcases runeB_le t a with e | ⟨e2, e3, e4⟩
  · exact absurd e h0
  · have hta : a < t.length := by omega
    have hta' : a < t'.length := by
      have := h a (by omega)
      rw [List.getElem?_eq_getElem hta] at this
      exact get_lt this.symm
    obtain ⟨r, hr⟩ : ∃ r, runeB t a = r := ⟨_, rfl⟩
    rw [hr] at h0 hn e2 e3 ⊢
    unfold runeB at hr ⊢
    rw [if_neg (by omega)] at hr ⊢
    rw [← nth_agree h (show a < n by omega)]
    exact runeOf_local _ _ _ _ _ _ _ _ _ r hr h0 (fun q => ⟨(more_agree h (by omega)).symm, (nth_agree h (by omega)).symm⟩) (fun q => (more_agree h (by omega)).symm) (fun q => (more_agree h (by omega)).symm)
theorem esc_agree {n a : Nat} {t t' : Txt} (h : Agree n t t') (h0 : (escB t a).2 ≠ 0) (hn : a + (escB t a).2.toNat ≤ n) : escB t' a = escB t a := by
  rcases (escB_range t a).2.2 with e | e | e
  · exact absurd e h0
  · rw [e] at hn
    have h1 : t'[a + 1]? = t[a + 1]? := (h (a + 1) (by simp at hn; omega)).symm
    unfold escB at e ⊢
    rw [h1]
    cases hc : t[a + 1]? with
    | none => rfl
    | some c =>
      rw [hc] at e
      simp only at e ⊢
      by_cases g : num c = 120
      · exfalso
        rw [if_neg (by omega), if_neg (by omega), if_neg (by omega), if_neg (by omega), if_pos g] at e
        split at e
        · split at e <;> simp at e
        · simp at e
      · simp only [if_neg g]
  · rw [e] at hn
    have h1 : t'[a + 1]? = t[a + 1]? := (h (a + 1) (by simp at hn; omega)).symm
    have h2 : t'[a + 2]? = t[a + 2]? := (h (a + 2) (by simp at hn; omega)).symm
    have h3 : t'[a + 3]? = t[a + 3]? := (h (a + 3) (by simp at hn; omega)).symm
    unfold escB
    rw [h1, h2, h3]
theorem piece_agree {n a : Nat} {t t' : Txt} {c : UInt8} (h : Agree n t t') (h0 : (pieceB t a c).2 ≠ 0) (hn : a + (pieceB t a c).2 ≤ n) : pieceB t' a c = pieceB t a c := by
  unfold pieceB at h0 hn ⊢
  split
  · rename_i hc
    rw [if_pos hc] at h0 hn
    simp only at h0 hn
    have := (escB_range t a).2.2
    rw [esc_agree h (by omega) hn]
  · rename_i hc
    rw [if_neg hc] at h0 hn
    split
    · rfl
    · rename_i hp
      rw [if_neg hp] at h0 hn
      simp only at h0 hn
      rw [rune_agree h (by omega) hn, agree_drop_take h hn]
theorem unq_agree : ∀ (f : Nat) {t t' b : Txt} {a : Nat} {r : Txt × Nat}, unqLoop f t b a = some r → Agree r.2 t t' → ∀ f', r.2 ≤ a + f' → unqLoop f' t' b a = some r := by
  intro f
  induction f with
  | zero => intro t t' b a r h; simp [unqLoop] at h
  | succ f ih =>
    intro t t' b a r h hag f' hf'
    have hge := unq_ge h
    obtain ⟨f', rfl⟩ : ∃ g, f' = g + 1 := ⟨f' - 1, by omega⟩
    rw [unqLoop] at h ⊢
    by_cases hb : b.length ≤ 20
    · rw [if_pos hb] at h ⊢
      rw [← hag a (by omega)]
      cases hx : t[a]? with
      | none => rw [hx] at h; simp at h
      | some c =>
        rw [hx] at h
        simp only at h ⊢
        by_cases h34 : c = 34
        · rw [if_pos h34] at h ⊢; exact h
        · rw [if_neg h34] at h ⊢
          by_cases h0 : (pieceB t a c).2 = 0
          · rw [if_pos h0] at h; simp at h
          · rw [if_neg h0] at h
            have hg2 := unq_ge h
            rw [piece_agree hag h0 (by omega), if_neg h0]
            exact ih h hag f' (by omega)
    · rw [if_neg hb] at h; simp at h
theorem lit_agree {T T' : Txt} {n : Nat} {k : TokA} (h : litP T = (k, n, 0)) (hn : n ≤ T'.length) (hag : Agree n T T') : litP T' = (k, n, 0) := by
  unfold litP at h ⊢
  by_cases h0 : (unquoteB T).2.2 = 0
  · rw [if_pos h0] at h
    simp only [Prod.mk.injEq, and_true] at h
    obtain ⟨hk, hnn⟩ := h
    have hT : T[0]? = some 34 := by
      unfold unquoteB at h0
      by_cases g : T[0]? = some 34
      · exact g
      · rw [if_neg g] at h0; simp at h0
    have e : unquoteB T = match unqLoop T.length T [] 1 with
      | some (b, n) => (b, n, 0)
      | none => ([], 0, 63) := by unfold unquoteB; rw [if_pos hT]; rfl
    cases hu : unqLoop T.length T [] 1 with
    | none => rw [e, hu] at h0; simp at h0
    | some r =>
      obtain ⟨b, m⟩ := r
      rw [hu] at e
      simp only at e
      rw [e] at hk hnn
      simp only at hk hnn
      subst hnn
      have hge := unq_ge hu
      simp only at hge
      have h2 := unq_agree _ hu hag T'.length (by simp only; omega)
      have hT' : T'[0]? = some 34 := by rw [← hag 0 (by omega)]; exact hT
      have e' : unquoteB T' = (b, m, 0) := by unfold unquoteB; rw [if_pos hT', h2]
      rw [e', if_pos rfl, hk]
  · rw [if_neg h0] at h
    simp at h
theorem marks_two : ∀ m ∈ marks, m.length = 2 → m[1]? = some 61 ∨ m[1]? = some 63 := by decide
theorem mark_take {T : Txt} {n k : Nat} {x : TokA} (h : markP T = (x, n, 0)) (hn : n ≤ k) : markP (T.take k) = (x, n, 0) := by
  unfold markP at h ⊢
  by_cases h2 : 2 ≤ T.length ∧ T.take 2 ∈ marks
  · rw [if_pos h2] at h
    simp only [Prod.mk.injEq, and_true] at h
    obtain ⟨hx, rfl⟩ := h
    rw [List.take_take, Nat.min_eq_left hn, List.length_take, if_pos ⟨by omega, h2.2⟩, hx]
  · rw [if_neg h2] at h
    by_cases h1 : T.take 1 ∈ marks
    · rw [if_pos h1] at h
      simp only [Prod.mk.injEq, and_true] at h
      obtain ⟨hx, rfl⟩ := h
      rw [List.take_take, List.take_take, Nat.min_eq_left hn, List.length_take]
      by_cases hk : 2 ≤ k
      · rw [Nat.min_eq_left hk, if_neg (by intro q; exact h2 ⟨by omega, q.2⟩), if_pos h1, hx]
      · rw [if_neg (by omega), if_pos h1, hx]
    · rw [if_neg h1] at h; simp at h
theorem mark_app {T S : Txt} {n : Nat} {x : TokA} (h : markP T = (x, n, 0)) (h0 : 1 ≤ T.length) (hs : n < T.length ∨ (∀ y, S[0]? = some y → y ≠ 61 ∧ y ≠ 63)) : markP (T ++ S) = (x, n, 0) := by
  unfold markP at h ⊢
  have t1 : (T ++ S).take 1 = T.take 1 := List.take_append_of_le_length h0
  by_cases h2 : 2 ≤ T.length
  · have t2 : (T ++ S).take 2 = T.take 2 := List.take_append_of_le_length h2
    rw [t1, t2, List.length_append]
    by_cases hm : T.take 2 ∈ marks
    · rw [if_pos ⟨h2, hm⟩] at h
      rw [if_pos ⟨by omega, hm⟩, h]
    · rw [if_neg (fun q => hm q.2)] at h
      rw [if_neg (fun q => hm q.2), h]
  · rw [if_neg (fun q => h2 q.1)] at h
    rw [t1]
    have hno : ¬ (2 ≤ (T ++ S).length ∧ (T ++ S).take 2 ∈ marks) := by
      rintro ⟨q1, q2⟩
      by_cases h1 : T.take 1 ∈ marks
      · rw [if_pos h1] at h
        simp only [Prod.mk.injEq, and_true] at h
        rcases hs with hs | hs
        · omega
        · have hl : ((T ++ S).take 2).length = 2 := by rw [List.length_take]; omega
          have h3 := marks_two _ q2 hl
          rw [List.getElem?_take_of_lt (by omega), List.getElem?_append_right (by omega), show 1 - T.length = 0 by omega] at h3
          rcases h3 with h3 | h3
          · exact (hs _ h3).1 rfl
          · exact (hs _ h3).2 rfl
      · rw [if_neg h1] at h; simp at h
    rw [if_neg hno, h]
theorem first_take {T : Txt} {c : UInt8} {n k : Nat} {x : TokA} (h : firstP c T = (x, n, 0)) (hT : T[0]? = some c) (hn : n ≤ k) : firstP c (T.take k) = (x, n, 0) := by
  have hle := first_le c T hT (by rw [h])
  rw [h] at hle
  simp only at hle
  unfold firstP at h ⊢
  cases hp : partB (num c) with
  | true =>
    rw [hp] at h
    simp only [if_true] at h ⊢
    have hr : runB T ≤ k := by
      obtain ⟨r1, r2⟩ := run_pos hT hp
      have hl : (T.take (runB T)).length = runB T := by rw [List.length_take]; omega
      split at h
      · unfold numP at h
        cases hv : numB (T.take (runB T)) with
        | none => rw [hv] at h; simp at h
        | some v => rw [hv] at h; simp only [Prod.mk.injEq] at h; rw [← hl, h.2.1]; exact hn
      · unfold wordP at h
        split at h
        · simp only [Prod.mk.injEq] at h; rw [← hl, h.2.1]; exact hn
        · split at h
          · simp only [Prod.mk.injEq] at h; rw [← hl, h.2.1]; exact hn
          · simp at h
    rw [run_take T k hr, List.take_take, Nat.min_eq_left hr]
    exact h
  | false =>
    rw [hp] at h
    simp only [Bool.false_eq_true, if_false] at h ⊢
    split
    · rename_i h34
      rw [if_pos h34] at h
      exact lit_agree h (by rw [List.length_take]; omega) (agree_take T n k hn)
    · rename_i h34
      rw [if_neg h34] at h
      exact mark_take h hn
/-- A byte that parts two tokens. -/
def sepB (y : UInt8) : Bool := !partB (num y) && decide (y ≠ 61) && decide (y ≠ 63)
theorem first_app {T S : Txt} {c : UInt8} {n : Nat} {x : TokA} (h : firstP c T = (x, n, 0)) (hT : T[0]? = some c) (hs : n < T.length ∨ (∀ y, S[0]? = some y → sepB y = true)) : firstP c (T ++ S) = (x, n, 0) := by
  have h1 := get_lt hT
  have hle := first_le c T hT (by rw [h])
  rw [h] at hle
  simp only at hle
  have hs1 : n < T.length ∨ (∀ y, S[0]? = some y → partB (num y) = false) := by
    rcases hs with hs | hs
    · exact .inl hs
    · exact .inr (fun y hy => by have := hs y hy; unfold sepB at this; simp at this; exact this.1.1)
  have hs2 : n < T.length ∨ (∀ y, S[0]? = some y → y ≠ 61 ∧ y ≠ 63) := by
    rcases hs with hs | hs
    · exact .inl hs
    · exact .inr (fun y hy => by have := hs y hy; unfold sepB at this; simp at this; exact ⟨this.1.2, this.2⟩)
  unfold firstP at h ⊢
  cases hp : partB (num c) with
  | true =>
    rw [hp] at h
    simp only [if_true] at h ⊢
    obtain ⟨r1, r2⟩ := run_pos hT hp
    have hl : (T.take (runB T)).length = runB T := by rw [List.length_take]; omega
    have hr : runB T = n := by
      split at h
      · unfold numP at h
        cases hv : numB (T.take (runB T)) with
        | none => rw [hv] at h; simp at h
        | some v => rw [hv] at h; simp only [Prod.mk.injEq] at h; rw [← hl, h.2.1]
      · unfold wordP at h
        split at h
        · simp only [Prod.mk.injEq] at h; rw [← hl, h.2.1]
        · split at h
          · simp only [Prod.mk.injEq] at h; rw [← hl, h.2.1]
          · simp at h
    rw [run_app T S (by rw [hr]; exact hs1), List.take_append_of_le_length r2]
    exact h
  | false =>
    rw [hp] at h
    simp only [Bool.false_eq_true, if_false] at h ⊢
    split
    · rename_i h34
      rw [if_pos h34] at h
      exact lit_agree h (by rw [List.length_append]; omega) (agree_app T S n hle.2)
    · rename_i h34
      rw [if_neg h34] at h
      exact mark_app h (by omega) hs2
end Go.Proofs.YtbgapbaeegloaaaDoor
