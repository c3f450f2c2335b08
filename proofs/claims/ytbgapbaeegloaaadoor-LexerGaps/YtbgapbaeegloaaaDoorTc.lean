import Derived.Test.YtbgapbaeegloaaaDoorTb
namespace Go.Proofs.YtbgapbaeegloaaaDoor
open Go.RowKit Go.Maps

theorem cut_acc (t : Txt) : ∀ (f : Nat) (acc acc' : List TokA) (a : Nat), (cutL t f acc a).2 = (cutL t f acc' a).2 ∧ ((cutL t f acc a).2.1 ≠ 0 → (cutL t f acc a).1 = []) ∧ ((cutL t f acc a).2.1 = 0 → (cutL t f acc a).2.2 = 0) := by
  intro f
  induction f with
  | zero => intro acc acc' a; exact ⟨rfl, fun h => absurd rfl h, fun _ => rfl⟩
  | succ f ih =>
    intro acc acc' a
    cases hx : t[a]? with
    | none => rw [cut_none hx, cut_none hx]; exact ⟨rfl, fun h => absurd rfl h, fun _ => rfl⟩
    | some c =>
      cases hb : blankB c with
      | true => rw [cut_blank hx hb, cut_blank hx hb]; exact ih acc acc' (a + 1)
      | false =>
        by_cases h35 : c = 35
        · rw [h35] at hx
          rw [cut_hash hx, cut_hash hx]
          split
          · exact ih acc acc' _
          · exact ⟨rfl, fun h => absurd rfl h, fun _ => rfl⟩
        · rw [cut_tok hx hb h35, cut_tok hx hb h35]
          split
          · exact ih _ _ _
          · rename_i h0
            exact ⟨rfl, fun _ => rfl, fun h => absurd h h0⟩
theorem line_take {t : Txt} {a p : Nat} (h : lineB t a < p) : lineB (t.take p) a = lineB t a := by
  unfold lineB scan at h ⊢
  rw [List.drop_take, tw_take, List.length_take]
  omega
theorem line_app {t S : Txt} {a : Nat} (ha : a ≤ t.length) (hS : S[0]? = some 10) : lineB (t ++ S) a = lineB t a := by
  unfold lineB scan
  rw [List.drop_append_of_le_length ha, tw_app]
  right
  intro y hy
  rw [hS] at hy
  cases hy
  rfl
theorem line_le (t : Txt) (a : Nat) (h : a ≤ t.length) : lineB t a ≤ t.length := scan_le _ _ _ h
theorem tw_stop {p : UInt8 → Bool} : ∀ (T : Txt) (y : UInt8), T[(T.takeWhile p).length]? = some y → p y = false
  | [], y, h => by simp at h
  | c :: r, y, h => by
    simp only [List.takeWhile_cons] at h
    split at h
    · rename_i hc
      exact tw_stop r y (by simpa using h)
    · rename_i hc
      simp at h
      rw [← h]
      simpa using hc
theorem line_at {t : Txt} {a : Nat} {y : UInt8} (h : t[lineB t a]? = some y) : y = 10 := by
  unfold lineB scan at h
  have := tw_stop (p := fun c => c != 10) (t.drop a) y (by rw [List.getElem?_drop]; exact h)
  simpa using this
theorem line_gt {t : Txt} {a : Nat} (h : t[a]? = some 35) : a + 1 ≤ lineB t a := by
  unfold lineB
  rw [scan_go h (by decide)]
  exact scan_ge _ _ _
/-- A source in order, with a line's end behind it, is gone through to its end. -/
theorem cut_through (t S : Txt) (hS : S[0]? = some 10) : ∀ (f : Nat) (acc : List TokA) (a : Nat), a ≤ t.length → t.length + 1 ≤ a + f → (cutL t f acc a).2.1 = 0 → ∀ (f' : Nat) (acc' : List TokA), (t ++ S).length + 1 ≤ a + f' → ∃ (f'' : Nat) (acc'' : List TokA), (t ++ S).length + 1 ≤ t.length + f'' ∧ cutL (t ++ S) f' acc' a = cutL (t ++ S) f'' acc'' t.length := by
  intro f
  induction f with
  | zero => intro acc a h1 h2; omega
  | succ f ih =>
    intro acc a h1 h2 hok f' acc' hf'
    have hSl : 1 ≤ S.length := get_lt hS
    rw [List.length_append] at hf' ⊢
    obtain ⟨f', rfl⟩ : ∃ g, f' = g + 1 := ⟨f' - 1, by omega⟩
    cases hx : t[a]? with
    | none =>
      have := get_ge hx
      obtain rfl : a = t.length := by omega
      exact ⟨f' + 1, acc', by omega, rfl⟩
    | some c =>
      have hlt := get_lt hx
      have hx' : (t ++ S)[a]? = some c := by rw [List.getElem?_append_left hlt]; exact hx
      cases hb : blankB c with
      | true =>
        rw [cut_blank hx hb] at hok
        rw [cut_blank hx' hb]
        have := ih acc (a + 1) (by omega) (by omega) hok f' acc' (by rw [List.length_append]; omega)
        rw [List.length_append] at this
        exact this
      | false =>
        by_cases h35 : c = 35
        · rw [h35] at hx hx'
          have hg := line_gt hx
          have hle := line_le t a (by omega)
          rw [cut_hash hx] at hok
          rw [cut_hash hx', line_app (by omega) hS, List.length_append, if_pos (by omega)]
          by_cases hl : lineB t a < t.length
          · rw [if_pos hl] at hok
            have := ih acc (lineB t a) (by omega) (by omega) hok f' acc' (by rw [List.length_append]; omega)
            rw [List.length_append] at this
            exact this
          · have e : lineB t a = t.length := by omega
            rw [e]
            exact ⟨f', acc', by omega, rfl⟩
        · rw [cut_tok hx hb h35] at hok
          rw [cut_tok hx' hb h35]
          have hT0 : (t.drop a)[0]? = some c := by rw [List.getElem?_drop, Nat.add_zero]; exact hx
          have ed : (t ++ S).drop a = t.drop a ++ S := List.drop_append_of_le_length (by omega)
          by_cases h0 : (firstP c (t.drop a)).2.2 = 0
          · rw [if_pos h0] at hok
            have hle := first_le c (t.drop a) hT0 h0
            rw [List.length_drop] at hle
            have e := first_app (T := t.drop a) (S := S) (c := c) (x := (firstP c (t.drop a)).1) (n := (firstP c (t.drop a)).2.1) (by rw [← h0]) hT0 (.inr (fun y hy => by rw [hS] at hy; cases hy; decide))
            rw [ed, e]
            simp only [if_true]
            have := ih _ (a + (firstP c (t.drop a)).2.1) (by omega) (by omega) hok f' (acc' ++ [{ (firstP c (t.drop a)).1 with pos := (a : Int) }]) (by rw [List.length_append]; omega)
            rw [List.length_append] at this
            exact this
          · rw [if_neg h0] at hok
            exact absurd hok h0
theorem part_ascii {c : UInt8} (h : partB (num c) = true) : c.toNat < 128 := by
  unfold partB num at h
  simp only [Bool.or_eq_true, Bool.and_eq_true, decide_eq_true_eq] at h
  omega
theorem blank_ascii {c : UInt8} (h : blankB c = true) : c.toNat < 128 := by
  unfold blankB at h
  simp only [Bool.or_eq_true, decide_eq_true_eq] at h
  rcases h with ((rfl | rfl) | rfl) | rfl <;> decide
theorem marks_ascii : ∀ m ∈ marks, m ≠ [] ∧ ∀ c ∈ m, c.toNat < 128 := by decide
theorem unq_last : ∀ (f : Nat) {t b : Txt} {a : Nat} {r : Txt × Nat}, unqLoop f t b a = some r → t[r.2 - 1]? = some 34 := by
  intro f
  induction f with
  | zero => intro t b a r h; simp [unqLoop] at h
  | succ f ih =>
    intro t b a r h
    rw [unqLoop] at h
    split at h
    · cases hx : t[a]? with
      | none => rw [hx] at h; simp at h
      | some c =>
        rw [hx] at h
        simp only at h
        split at h
        · rename_i h34
          simp at h
          rw [← h]
          simp only [Nat.add_sub_cancel]
          rw [hx, h34]
        · split at h
          · simp at h
          · exact ih h
    · simp at h
theorem tw_mem {p : UInt8 → Bool} {x : UInt8} : ∀ T : Txt, x ∈ T.takeWhile p → p x = true
  | [], h => by simp at h
  | c :: r, h => by
    simp only [List.takeWhile_cons] at h
    split at h
    · rename_i hc
      rcases List.mem_cons.1 h with rfl | h
      · exact hc
      · exact tw_mem r h
    · simp at h
theorem first_last {T : Txt} {c : UInt8} {n : Nat} {x : TokA} (h : firstP c T = (x, n, 0)) (hT : T[0]? = some c) : ∃ y, T[n - 1]? = some y ∧ y.toNat < 128 := by
  have hle := first_le c T hT (by rw [h])
  rw [h] at hle
  simp only at hle
  have hy : T[n - 1]? = some T[n - 1] := List.getElem?_eq_getElem (by omega)
  refine ⟨_, hy, ?_⟩
  unfold firstP at h
  cases hp : partB (num c) with
  | true =>
    rw [hp] at h
    simp only [if_true] at h
    obtain ⟨r1, r2⟩ := run_pos hT hp
    have hl : (T.take (runB T)).length = runB T := by rw [List.length_take]; omega
    have hr : runB T = n := by
      split at h
      · unfold numP at h
        cases hv : numB (T.take (runB T)) with
        | none => rw [hv] at h; simp at h
        | some v => rw [hv] at h; simp only [Prod.mk.injEq] at h; rw [← hl, h.2.1]
      · unfold wordP at h
        split at h
        · simp only [Prod.mk.injEq] at h; rw [← hl, h.2.1]
        · split at h
          · simp only [Prod.mk.injEq] at h; rw [← hl, h.2.1]
          · simp at h
    have hm : T[n - 1] ∈ T.takeWhile (fun c => partB (num c)) := by
      have hpre : T.takeWhile (fun c => partB (num c)) <+: T := List.takeWhile_prefix _
      have hlt : n - 1 < (T.takeWhile (fun c => partB (num c))).length := by rw [← run_tw]; omega
      have e := List.IsPrefix.getElem hpre hlt
      rw [← e]
      exact List.getElem_mem hlt
    exact part_ascii (tw_mem (p := fun c => partB (num c)) _ hm)
  | false =>
    rw [hp] at h
    simp only [Bool.false_eq_true, if_false] at h
    split at h
    · unfold litP at h
      split at h
      · rename_i h0
        simp only [Prod.mk.injEq, and_true] at h
        obtain ⟨_, hnn⟩ := h
        unfold unquoteB at hnn h0
        by_cases g : T[0]? = some 34
        · rw [if_pos g] at hnn h0
          cases hu : unqLoop T.length T [] 1 with
          | none => rw [hu] at h0; simp at h0
          | some r =>
            rw [hu] at hnn
            simp only at hnn
            have := unq_last _ hu
            rw [hnn, hy] at this
            rw [Option.some.inj this]
            decide
        · rw [if_neg g] at h0; simp at h0
      · simp at h
    · unfold markP at h
      split at h
      · rename_i h2
        simp only [Prod.mk.injEq, and_true] at h
        obtain ⟨_, rfl⟩ := h
        refine (marks_ascii _ h2.2).2 _ (List.mem_of_getElem? (i := 1) ?_)
        rw [List.getElem?_take_of_lt (by omega)]
        exact hy
      · split at h
        · rename_i h1
          simp only [Prod.mk.injEq, and_true] at h
          obtain ⟨_, rfl⟩ := h
          refine (marks_ascii _ h1).2 _ (List.mem_of_getElem? (i := 0) ?_)
          rw [List.getElem?_take_of_lt (by omega)]
          exact hy
        · simp at h
/-- Where an error of a token is told. -/
theorem cut_blames (t : Txt) : ∀ (f : Nat) (acc : List TokA) (a : Nat), a ≤ t.length → t.length + 1 ≤ a + f → (cutL t f acc a).2.1 ≠ 0 →
    a ≤ (cutL t f acc a).2.2 ∧ (∃ c, t[(cutL t f acc a).2.2]? = some c ∧ blankB c = false ∧ c ≠ 35 ∧ (firstP c (t.drop (cutL t f acc a).2.2)).2.2 = (cutL t f acc a).2.1) ∧
    (∀ (f' : Nat) (acc' : List TokA), (cutL t f acc a).2.2 + 1 ≤ a + f' → (cutL (t.take (cutL t f acc a).2.2) f' acc' a).2.1 = 0) ∧
    ((cutL t f acc a).2.2 = a ∨ ∃ y, t[(cutL t f acc a).2.2 - 1]? = some y ∧ y.toNat < 128) := by
  intro f
  induction f with
  | zero => intro acc a h1 h2; omega
  | succ f ih =>
    intro acc a h1 h2 her
    cases hx : t[a]? with
    | none => rw [cut_none hx] at her; exact absurd rfl her
    | some c =>
      have hlt := get_lt hx
      cases hb : blankB c with
      | true =>
        rw [cut_blank hx hb] at her ⊢
        obtain ⟨i1, i2, i3, i4⟩ := ih acc (a + 1) (by omega) (by omega) her
        generalize (cutL t f acc (a + 1)).2 = R at *
        obtain ⟨e, p⟩ := R
        simp only at i1 i2 i3 i4 her ⊢
        refine ⟨by omega, i2, fun f' acc' hf' => ?_, ?_⟩
        · obtain ⟨f', rfl⟩ : ∃ g, f' = g + 1 := ⟨f' - 1, by omega⟩
          rw [cut_blank (by rw [List.getElem?_take_of_lt (by omega)]; exact hx) hb]
          exact i3 f' acc' (by omega)
        · rcases i4 with rfl | i4
          · exact .inr ⟨c, hx, blank_ascii hb⟩
          · exact .inr i4
      | false =>
        by_cases h35 : c = 35
        · rw [h35] at hx
          have hg := line_gt hx
          rw [cut_hash hx] at her ⊢
          by_cases hl : lineB t a < t.length
          · rw [if_pos hl] at her ⊢
            obtain ⟨i1, i2, i3, i4⟩ := ih acc (lineB t a) (by omega) (by omega) her
            generalize (cutL t f acc (lineB t a)).2 = R at *
            obtain ⟨e, p⟩ := R
            simp only at i1 i2 i3 i4 her ⊢
            have hpl : lineB t a < p := by
              obtain ⟨y, hy, hb', _⟩ := i2
              rcases Nat.lt_or_ge (lineB t a) p with h | h
              · exact h
              · exfalso
                obtain rfl : p = lineB t a := by omega
                rw [line_at hy] at hb'
                exact absurd hb' (by decide)
            refine ⟨by omega, i2, fun f' acc' hf' => ?_, ?_⟩
            · obtain ⟨f', rfl⟩ : ∃ g, f' = g + 1 := ⟨f' - 1, by omega⟩
              have hpt : p < t.length := by obtain ⟨y, hy, _⟩ := i2; exact get_lt hy
              rw [cut_hash (by rw [List.getElem?_take_of_lt (by omega)]; exact hx), line_take hpl, List.length_take, if_pos (by omega)]
              exact i3 f' acc' (by omega)
            · rcases i4 with i4 | i4
              · omega
              · exact .inr i4
          · rw [if_neg hl] at her; exact absurd rfl her
        · rw [cut_tok hx hb h35] at her ⊢
          have hT0 : (t.drop a)[0]? = some c := by rw [List.getElem?_drop, Nat.add_zero]; exact hx
          by_cases h0 : (firstP c (t.drop a)).2.2 = 0
          · rw [if_pos h0] at her ⊢
            have hle := first_le c (t.drop a) hT0 h0
            rw [List.length_drop] at hle
            have hfe : firstP c (t.drop a) = ((firstP c (t.drop a)).1, (firstP c (t.drop a)).2.1, 0) := by rw [← h0]
            obtain ⟨i1, i2, i3, i4⟩ := ih _ (a + (firstP c (t.drop a)).2.1) (by omega) (by omega) her
            have hlast := first_last hfe hT0
            generalize (cutL t f (acc ++ [{ (firstP c (t.drop a)).1 with pos := (a : Int) }]) (a + (firstP c (t.drop a)).2.1)).2 = R at *
            obtain ⟨e, p⟩ := R
            simp only at i1 i2 i3 i4 her ⊢
            refine ⟨by omega, i2, fun f' acc' hf' => ?_, ?_⟩
            · obtain ⟨f', rfl⟩ : ∃ g, f' = g + 1 := ⟨f' - 1, by omega⟩
              have hft := first_take (k := p - a) hfe hT0 (by omega)
              rw [cut_tok (by rw [List.getElem?_take_of_lt (by omega)]; exact hx) hb h35, List.drop_take, hft]
              simp only [if_true]
              exact i3 f' _ (by omega)
            · rcases i4 with i4 | i4
              · right
                obtain ⟨y, hy, hy8⟩ := hlast
                refine ⟨y, ?_, hy8⟩
                rw [List.getElem?_drop] at hy
                rw [i4, show a + (firstP c (t.drop a)).2.1 - 1 = a + ((firstP c (t.drop a)).2.1 - 1) by omega]
                exact hy
              · exact .inr i4
          · rw [if_neg h0]
            refine ⟨Nat.le_refl _, ⟨c, hx, hb, h35, rfl⟩, fun f' acc' hf' => ?_, .inl rfl⟩
            obtain ⟨f', rfl⟩ : ∃ g, f' = g + 1 := ⟨f' - 1, by simp only at hf'; omega⟩
            rw [cut_none (by rw [List.getElem?_eq_none]; rw [List.length_take]; simp only; omega)]
end Go.Proofs.YtbgapbaeegloaaaDoor
