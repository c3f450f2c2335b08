import Derived.Test.YtbgapbaeegloaaaDoorTh
namespace Go.Proofs.YtbgapbaeegloaaaDoor
open Go.RowKit Go.Maps

/-- A token's own text begins so, and is read as this token. -/
structure Reads (x : TokA) (s : Txt) : Prop where
  ascii : ∀ y ∈ s, y.toNat < 128
  head : ∃ c, s[0]? = some c ∧ blankB c = false ∧ c ≠ 35 ∧ firstP c s = ({ x with pos := 0 }, s.length, 0)
def okText (k : Int) (m : Txt) : Bool := match m[0]? with
  | some c => !blankB c && decide (c ≠ 35) && decide (firstP c m = (⟨k, m, 0, 0⟩, m.length, 0)) && m.all (fun y => decide (y.toNat < 128))
  | none => false
theorem okText_reads {k : Int} {m : Txt} {x : TokA} (h : okText k m = true) (hx : { x with pos := 0 } = (⟨k, m, 0, 0⟩ : TokA)) : Reads x m := by
  unfold okText at h
  cases hc : m[0]? with
  | none => rw [hc] at h; simp at h
  | some c =>
    rw [hc] at h
    simp only [Bool.and_eq_true, Bool.not_eq_true', decide_eq_true_eq, List.all_eq_true] at h
    exact ⟨h.2, c, hc, h.1.1.1, h.1.1.2, by rw [hx]; exact h.1.2⟩
theorem kws_ok : ∀ m ∈ kws, okText 4 m = true := by decide +kernel
theorem marks_ok : ∀ m ∈ marks, okText 5 m = true := by decide +kernel
theorem run_all {x : Txt} (h : x.all (fun c => partB (num c)) = true) : runB x = x.length := by
  rw [run_tw]
  have := (takeWhile_all (p := fun c => partB (num c)) x).mpr h
  exact this
theorem part_blank {c : UInt8} (h : partB (num c) = true) : blankB c = false ∧ c ≠ 35 := by
  have hb : blankB c = false := by
    cases e : blankB c with
    | false => rfl
    | true =>
      exfalso
      unfold blankB at e
      simp only [Bool.or_eq_true, decide_eq_true_eq] at e
      rcases e with ((rfl | rfl) | rfl) | rfl <;> exact absurd h (by decide)
  exact ⟨hb, by rintro rfl; exact absurd h (by decide)⟩
theorem name_reads {x : TokA} (hk : x.kind = 1) (hn : x.n = 0) (h : nameB x.text = true) : Reads x x.text := by
  unfold nameB at h
  cases hc : x.text[0]? with
  | none => rw [hc] at h; have := get_ge hc; simp only [Bool.and_eq_true, decide_eq_true_eq] at h; exact absurd (List.eq_nil_of_length_eq_zero (by omega)) h.1.1.1.1
  | some c =>
    have hnm : nameB x.text = true := by unfold nameB; exact h
    rw [hc] at h
    simp only [Bool.and_eq_true, Bool.not_eq_true', decide_eq_true_eq] at h
    obtain ⟨⟨⟨⟨h1, h2⟩, h3⟩, h4⟩, h5⟩ := h
    have hp : partB (num c) = true := List.all_eq_true.1 h4 c (List.mem_of_getElem? hc)
    have hd : digitB (num c) = false := h3
    refine ⟨fun y hy => part_ascii (List.all_eq_true.1 h4 y hy), c, hc, (part_blank hp).1, (part_blank hp).2, ?_⟩
    unfold firstP
    rw [hp, hd, run_all h4, List.take_length]
    simp only [if_true, Bool.false_eq_true, if_false]
    unfold wordP
    rw [if_neg (of_decide_eq_false h5), if_pos hnm]
    obtain ⟨k, tx, n, ps⟩ := x
    simp only at hk hn ⊢
    rw [hk, hn]
theorem decU_digits (u : Nat) : ∀ c ∈ decU u, 48 ≤ c.toNat ∧ c.toNat ≤ 57 := by
  have h : ∀ u : Nat, ∀ c ∈ decN u, 48 ≤ c.toNat ∧ c.toNat ≤ 57 := by
    intro u
    induction u using Nat.strongRecOn with
    | ind u ih =>
      intro c hc
      by_cases h0 : u = 0
      · subst h0; rw [decN_zero] at hc; cases hc
      · rw [decN_pos (by omega)] at hc
        rcases List.mem_append.1 hc with hc | hc
        · exact ih (u / 10) (by omega) c hc
        · rw [List.mem_singleton] at hc
          rw [hc, UInt8.toNat_ofNat']
          omega
  unfold decU
  split
  · intro c hc; simp at hc; rw [hc]; decide
  · exact h u
theorem decN_first {u : Nat} (h : 0 < u) : ∃ c, (decN u)[0]? = some c ∧ 49 ≤ c.toNat ∧ c.toNat ≤ 57 := by
  induction u using Nat.strongRecOn with
  | ind u ih =>
    rw [decN_pos h]
    by_cases h1 : u / 10 = 0
    · rw [h1, decN_zero]
      exact ⟨_, rfl, by rw [UInt8.toNat_ofNat']; omega, by rw [UInt8.toNat_ofNat']; omega⟩
    · obtain ⟨c, e, h2⟩ := ih (u / 10) (by omega) (by omega)
      exact ⟨c, by rw [List.getElem?_append_left (get_lt e)]; exact e, h2⟩
theorem noGap_digits : ∀ (s : Txt), (∀ c ∈ s, 48 ≤ c.toNat ∧ c.toNat ≤ 57) → noGap true s = true ∧ (s ≠ [] → noGap false s = true) ∧ s.filter (fun c => decide (c ≠ 95)) = s
  | [], _ => ⟨rfl, fun h => absurd rfl h, rfl⟩
  | c :: r, h => by
    have hc := h c (List.mem_cons_self ..)
    have h95 : c ≠ 95 := by rintro rfl; simp at hc
    obtain ⟨i1, i2, i3⟩ := noGap_digits r (fun x hx => h x (List.mem_cons_of_mem _ hx))
    refine ⟨by rw [noGap, if_neg h95]; exact i1, fun _ => by rw [noGap, if_neg h95]; exact i1, ?_⟩
    rw [List.filter_cons_of_pos (by simpa using h95), i3]
theorem numB_dec (u : Nat) (hu : u ≤ 9223372036854775808) : numB (decU u) = some u := by
  unfold decU
  by_cases h0 : u = 0
  · rw [if_pos h0, h0]; rfl
  · rw [if_neg h0]
    obtain ⟨c, hc, hc1, hc2⟩ := decN_first (show 0 < u by omega)
    have hdig : ∀ c ∈ decN u, 48 ≤ c.toNat ∧ c.toNat ≤ 57 := by
      have := decU_digits u
      unfold decU at this
      rw [if_neg h0] at this
      exact this
    have hne : decN u ≠ [] := by intro e; rw [e] at hc; simp at hc
    have c48 : c ≠ 48 := by rintro rfl; simp at hc1
    rw [numB_ten (by
      intro e
      have h2 : (decN u)[0]? = some 48 := by rw [← List.getElem?_take_of_lt (show 0 < 2 by omega), e]; rfl
      rw [hc] at h2
      exact c48 (by simpa using h2)) (.inl (by rw [hc]; simpa using c48))]
    obtain ⟨_, g2, g3⟩ := noGap_digits _ hdig
    rw [dig_pu 10 (by omega) _ _ _ (by omega), g2 hne, g3, (pu_ten (decN u) 0 (by omega) u).1 (pum_decN u (by omega))]
    simp [hu]
theorem int_reads {x : TokA} (hk : x.kind = 2) (ht : x.text = []) (h0 : 0 ≤ x.n ∨ x.n = -9223372036854775808) (hb : x.n ≤ 9223372036854775807) : Reads x (decU (unat x.n)) := by
  have hu : unat x.n ≤ 9223372036854775808 ∧ IntKind.i64.wrap (unat x.n : Int) = x.n := by
    unfold unat
    rw [IntKind.wrap_u64, IntKind.wrap_i64]
    omega
  obtain ⟨hu1, hu2⟩ := hu
  generalize unat x.n = u at *
  have hdig := decU_digits u
  obtain ⟨c, hc⟩ : ∃ c, (decU u)[0]? = some c := by
    unfold decU
    split
    · exact ⟨48, rfl⟩
    · rename_i hz
      obtain ⟨c, hc, _⟩ := decN_first (show 0 < u by omega)
      exact ⟨c, hc⟩
  have hd : ∀ y ∈ decU u, digitB (num y) = true ∧ partB (num y) = true := fun y hy => by
    have := hdig y hy
    have e : digitB (num y) = true := by unfold digitB num; simp; omega
    exact ⟨e, by rw [part_split, e]; simp⟩
  have hall : (decU u).all (fun c => partB (num c)) = true := List.all_eq_true.2 (fun y hy => (hd y hy).2)
  obtain ⟨hdc, hpc⟩ := hd c (List.mem_of_getElem? hc)
  refine ⟨fun y hy => by have := hdig y hy; omega, c, hc, (part_blank hpc).1, (part_blank hpc).2, ?_⟩
  unfold firstP
  rw [hpc, hdc, run_all hall, List.take_length]
  simp only [if_true]
  unfold numP
  rw [numB_dec u hu1]
  simp only
  rw [hu2]
  obtain ⟨k, tx, n, ps⟩ := x
  simp only at hk ht ⊢
  rw [hk, ht]
theorem quote_ascii (s : Txt) : ∀ y ∈ quoteB s, y.toNat < 128 := by
  have h1 : ∀ n : Fin 256, ∀ y ∈ quote1 (UInt8.ofNat n.val), y.toNat < 128 := by decide +kernel
  intro y hy
  unfold quoteB at hy
  rcases List.mem_cons.1 hy with rfl | hy
  · decide
  · rcases List.mem_append.1 hy with hy | hy
    · obtain ⟨c, _, hc⟩ := List.mem_flatMap.1 hy
      have := h1 ⟨c.toNat, c.toNat_lt⟩
      simp only [UInt8.ofNat_toNat] at this
      exact this y hc
    · simp at hy; rw [hy]; decide
theorem lit_reads {x : TokA} (hk : x.kind = 3) (hn : x.n = 0) (h20 : x.text.length ≤ 20) : Reads x (quoteB x.text) := by
  refine ⟨quote_ascii _, 34, rfl, by decide, by decide, ?_⟩
  have hu := unquote_quote x.text [] h20
  rw [List.append_nil] at hu
  unfold firstP
  rw [show partB (num 34) = false by decide]
  simp only [Bool.false_eq_true, if_false, if_true]
  unfold litP
  rw [hu]
  obtain ⟨k, tx, n, ps⟩ := x
  simp only at hk hn ⊢
  rw [hk, hn]
  rfl
theorem tok_back {x : TokA} (h : (textB x).2 = true) (hb : x.n ≤ 9223372036854775807) : Reads x (textB x).1 := by
  unfold textB at h ⊢
  by_cases h2 : x.kind = 2
  · rw [if_pos h2] at h ⊢
    simp only [Bool.and_eq_true, Bool.or_eq_true, decide_eq_true_eq] at h
    exact int_reads h2 h.1 h.2 hb
  · rw [if_neg h2] at h ⊢
    by_cases hn : x.n ≠ 0
    · rw [if_pos hn] at h; cases h
    · rw [if_neg hn] at h ⊢
      have hn0 : x.n = 0 := by omega
      by_cases h1 : x.kind = 1
      · rw [if_pos h1] at h ⊢; exact name_reads h1 hn0 h
      · rw [if_neg h1] at h ⊢
        by_cases h3 : x.kind = 3
        · rw [if_pos h3] at h ⊢
          by_cases hl : 20 < x.text.length
          · rw [if_pos hl] at h; cases h
          · rw [if_neg hl]; exact lit_reads h3 hn0 (by omega)
        · rw [if_neg h3] at h ⊢
          by_cases h4 : x.kind = 4
          · rw [if_pos h4] at h ⊢
            refine okText_reads (kws_ok _ (of_decide_eq_true h)) ?_
            obtain ⟨k, tx, n, ps⟩ := x
            simp only at h4 hn0 ⊢
            rw [h4, hn0]
          · rw [if_neg h4] at h ⊢
            by_cases h5 : x.kind = 5
            · rw [if_pos h5] at h ⊢
              refine okText_reads (marks_ok _ (of_decide_eq_true h)) ?_
              obtain ⟨k, tx, n, ps⟩ := x
              simp only at h5 hn0 ⊢
              rw [h5, hn0]
            · rw [if_neg h5] at h; cases h
/-- The same tokens, their places aside. -/
def Alike (a b : List TokA) : Prop := a.length = b.length ∧ ∀ (i : Nat) (x y : TokA), a[i]? = some x → b[i]? = some y → x.kind = y.kind ∧ x.text = y.text ∧ x.n = y.n
theorem cut_join (s : Txt) : ∀ (l : List TokA) (f : Nat) (acc : List TokA) (a : Nat), okAll l = true → (∀ x ∈ l, x.n ≤ 9223372036854775807) → a ≤ s.length → s.drop a = jt (texts l) → s.length + 1 ≤ a + f → ∃ l', cutL s f acc a = (acc ++ l', 0, 0) ∧ Alike l' l := by
  intro l
  induction l with
  | nil =>
    intro f acc a _ _ ha hd hf
    obtain ⟨f, rfl⟩ : ∃ g, f = g + 1 := ⟨f - 1, by omega⟩
    have hl : (s.drop a).length = 0 := by rw [hd]; rfl
    rw [List.length_drop] at hl
    rw [cut_none (List.getElem?_eq_none (by omega))]
    exact ⟨[], by simp, rfl, fun i x y hx => by simp at hx⟩
  | cons x r ih =>
    intro f acc a hok hbd ha hd hf
    have hok' : (textB x).2 = true ∧ okAll r = true := by unfold okAll at hok ⊢; simpa using hok
    obtain ⟨_, c, hc, hb, h35, hfi⟩ := tok_back hok'.1 (hbd x (List.mem_cons_self ..))
    obtain ⟨f, rfl⟩ : ∃ g, f = g + 1 := ⟨f - 1, by omega⟩
    have hd2 : s.drop a = (textB x).1 ++ (texts r).flatMap (fun y => 32 :: y) := by rw [hd]; rfl
    have hx0 : s[a]? = some c := by
      have : (s.drop a)[0]? = some c := by rw [hd2, List.getElem?_append_left (get_lt hc)]; exact hc
      rwa [List.getElem?_drop, Nat.add_zero] at this
    have hfa : firstP c (s.drop a) = ({ x with pos := 0 }, (textB x).1.length, 0) := by
      rw [hd2]
      refine first_app hfi hc (.inr (fun y hy => ?_))
      cases hr : texts r with
      | nil => rw [hr] at hy; simp at hy
      | cons z q => rw [hr] at hy; simp at hy; rw [← hy]; decide
    have hlen : s.length - a = (textB x).1.length + ((texts r).flatMap (fun y => 32 :: y)).length := by rw [← List.length_drop, hd2, List.length_append]
    have hc0 := get_lt hc
    rw [cut_tok hx0 hb h35, hfa]
    simp only [if_true]
    have hdn : s.drop (a + (textB x).1.length) = (texts r).flatMap (fun y => 32 :: y) := by rw [← List.drop_drop, hd2, List.drop_left]
    cases hr : texts r with
    | nil =>
      have hr0 : r = [] := by unfold texts at hr; simpa using hr
      subst hr0
      rw [hr] at hlen hdn
      simp at hlen
      obtain ⟨f, rfl⟩ : ∃ g, f = g + 1 := ⟨f - 1, by omega⟩
      rw [cut_none (List.getElem?_eq_none (by omega))]
      refine ⟨[{ x with pos := (a : Int) }], rfl, rfl, fun i y z hy hz => ?_⟩
      match i, hy, hz with
      | 0, hy, hz => simp at hy hz; subst hy; subst hz; exact ⟨rfl, rfl, rfl⟩
    | cons z q =>
      rw [hr] at hlen hdn
      have h32 : s[a + (textB x).1.length]? = some 32 := by
        have : (s.drop (a + (textB x).1.length))[0]? = some 32 := by rw [hdn]; rfl
        rwa [List.getElem?_drop, Nat.add_zero] at this
      have hlt := get_lt h32
      obtain ⟨f, rfl⟩ : ∃ g, f = g + 1 := ⟨f - 1, by omega⟩
      rw [cut_blank h32 (by decide)]
      have hd3 : s.drop (a + (textB x).1.length + 1) = jt (texts r) := by
        rw [← List.drop_drop, hdn, hr]
        rfl
      obtain ⟨l', e, hal⟩ := ih f (acc ++ [{ x with pos := (a : Int) }]) (a + (textB x).1.length + 1) hok'.2 (fun y hy => hbd y (List.mem_cons_of_mem _ hy)) (by omega) hd3 (by omega)
      refine ⟨{ x with pos := (a : Int) } :: l', by rw [e]; simp, by simp [hal.1], fun i y z hy hz => ?_⟩
      match i, hy, hz with
      | 0, hy, hz => simp at hy hz; subst hy; subst hz; exact ⟨rfl, rfl, rfl⟩
      | i + 1, hy, hz => exact hal.2 i y z (by simpa using hy) (by simpa using hz)
theorem lex_join (l : List TokA) (hb : ∀ x ∈ l, x.n ≤ 9223372036854775807) (h : (joinP l).2 = 0) : ∃ l', lexP (joinP l).1 = (l', 0, 0) ∧ Alike l' l := by
  unfold joinP at h ⊢
  by_cases h256 : 256 < l.length
  · rw [if_pos h256] at h; simp at h
  · rw [if_neg h256] at h ⊢
    cases hok : okAll l with
    | false => rw [hok] at h; simp at h
    | true =>
      rw [hok] at h
      simp only [if_true] at h ⊢
      by_cases hj : 256 < (jt (texts l)).length
      · rw [if_pos hj] at h; simp at h
      · rw [if_neg hj]
        simp only
        have hv : Val (jt (texts l)) := by
          refine val_ascii _ (fun y hy => ?_)
          have hm : ∀ z ∈ texts l, ∀ y ∈ z, y.toNat < 128 := by
            intro z hz y hy
            unfold texts at hz
            obtain ⟨x, hx, rfl⟩ := List.mem_map.1 hz
            exact (tok_back (List.all_eq_true.1 hok x hx) (hb x hx)).ascii y hy
          cases ht : texts l with
          | nil => rw [ht] at hy; cases hy
          | cons z q =>
            rw [ht] at hy hm
            rcases List.mem_append.1 hy with hy | hy
            · exact hm z (List.mem_cons_self ..) y hy
            · obtain ⟨u, hu, hyu⟩ := List.mem_flatMap.1 hy
              rcases List.mem_cons.1 hyu with rfl | hyu
              · decide
              · exact hm u (List.mem_cons_of_mem _ hu) y hyu
        obtain ⟨l', e, hal⟩ := cut_join (jt (texts l)) l ((jt (texts l)).length + 1) [] 0 hok hb (by omega) (by rw [List.drop_zero]) (by omega)
        exact ⟨l', by rw [lex_val hv (by omega), e]; rfl, hal⟩
end Go.Proofs.YtbgapbaeegloaaaDoor
