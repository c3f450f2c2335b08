import Derived.Test.YtbgapbaeegloaaaDoorTd
namespace Go.Proofs.YtbgapbaeegloaaaDoor
open Go.RowKit Go.Maps

theorem cut_len (t : Txt) : ∀ (f : Nat) (acc : List TokA) (a : Nat), acc.length ≤ a → a ≤ t.length → (cutL t f acc a).1.length ≤ t.length := by
  intro f
  induction f with
  | zero => intro acc a h1 h2; simp only [cutL]; omega
  | succ f ih =>
    intro acc a h1 h2
    cases hx : t[a]? with
    | none => rw [cut_none hx]; simp only; omega
    | some c =>
      have hlt := get_lt hx
      cases hb : blankB c with
      | true => rw [cut_blank hx hb]; exact ih acc (a + 1) (by omega) (by omega)
      | false =>
        by_cases h35 : c = 35
        · rw [h35] at hx
          rw [cut_hash hx]
          have hge : a ≤ lineB t a := scan_ge _ _ _
          split
          · exact ih acc _ (by omega) (by omega)
          · simp only; omega
        · rw [cut_tok hx hb h35]
          split
          · rename_i h0
            have hT0 : (t.drop a)[0]? = some c := by rw [List.getElem?_drop, Nat.add_zero]; exact hx
            obtain ⟨k1, k2⟩ := first_le c (t.drop a) hT0 h0
            rw [List.length_drop] at k2
            exact ih _ _ (by rw [List.length_append]; simp only [List.length_cons, List.length_nil]; omega) (by omega)
          · simp
/-- From one place to another stand blanks and comments alone. -/
inductive Gap (t : Txt) : Nat → Nat → Prop
  | refl (a : Nat) : Gap t a a
  | blank {a p : Nat} {c : UInt8} (h : t[a]? = some c) (hb : blankB c = true) (k : Gap t (a + 1) p) : Gap t a p
  | hash {a p : Nat} (h : t[a]? = some 35) (hl : lineB t a < t.length) (k : Gap t (lineB t a) p) : Gap t a p
  | last {a : Nat} (h : t[a]? = some 35) (hl : lineB t a = t.length) : Gap t a t.length
/-- From a place on stand these tokens. -/
inductive Seg (t : Txt) : Nat → List TokA → Prop
  | done {a : Nat} (h : Gap t a t.length) : Seg t a []
  | tok {a p n : Nat} {c : UInt8} {x : TokA} {l : List TokA} (g : Gap t a p) (hc : t[p]? = some c) (hb : blankB c = false) (h35 : c ≠ 35) (hf : firstP c (t.drop p) = (x, n, 0)) (k : Seg t (p + n) l) : Seg t a ({ x with pos := (p : Int) } :: l)
theorem Gap.le {t : Txt} {a p : Nat} (h : Gap t a p) : a ≤ p ∧ (a ≤ t.length → p ≤ t.length) := by
  induction h with
  | refl a => exact ⟨Nat.le_refl _, id⟩
  | blank h hb k ih => have := get_lt h; exact ⟨by omega, fun _ => ih.2 (by omega)⟩
  | hash h hl k ih => have := line_gt h; exact ⟨by omega, fun _ => ih.2 (by omega)⟩
  | last h hl => have := get_lt h; exact ⟨by omega, fun _ => Nat.le_refl _⟩
theorem Gap.trans {t : Txt} {a b c : Nat} (h : Gap t a b) (k : Gap t b c) : Gap t a c := by
  induction h with
  | refl a => exact k
  | blank h hb _ ih => exact .blank h hb (ih k)
  | hash h hl _ ih => exact .hash h hl (ih k)
  | last h hl =>
    generalize e : t.length = m at k
    cases k with
    | refl => rw [← e]; exact .last h hl
    | blank h' _ _ => rw [← e] at h'; simp at h'
    | hash h' _ _ => rw [← e] at h'; simp at h'
    | last h' _ => rw [← e] at h'; simp at h'
theorem Seg.pre {t : Txt} {a b : Nat} {l : List TokA} (g : Gap t a b) (h : Seg t b l) : Seg t a l := by
  cases h with
  | done h => exact .done (g.trans h)
  | tok g' hc hb h35 hf k => exact .tok (g.trans g') hc hb h35 hf k
theorem cut_seg (t : Txt) : ∀ (f : Nat) (acc : List TokA) (a : Nat), a ≤ t.length → t.length + 1 ≤ a + f → (cutL t f acc a).2.1 = 0 → ∃ l, (cutL t f acc a).1 = acc ++ l ∧ Seg t a l := by
  intro f
  induction f with
  | zero => intro acc a h1 h2; omega
  | succ f ih =>
    intro acc a h1 h2 hok
    cases hx : t[a]? with
    | none =>
      have := get_ge hx
      obtain rfl : a = t.length := by omega
      rw [cut_none hx]
      exact ⟨[], by simp, .done (.refl _)⟩
    | some c =>
      have hlt := get_lt hx
      cases hb : blankB c with
      | true =>
        rw [cut_blank hx hb] at hok ⊢
        obtain ⟨l, e, s⟩ := ih acc (a + 1) (by omega) (by omega) hok
        exact ⟨l, e, s.pre (.blank hx hb (.refl _))⟩
      | false =>
        by_cases h35 : c = 35
        · rw [h35] at hx
          have hg := line_gt hx
          rw [cut_hash hx] at hok ⊢
          by_cases hl : lineB t a < t.length
          · rw [if_pos hl] at hok ⊢
            obtain ⟨l, e, s⟩ := ih acc (lineB t a) (by omega) (by omega) hok
            exact ⟨l, e, s.pre (.hash hx hl (.refl _))⟩
          · rw [if_neg hl]
            have := line_le t a (by omega)
            exact ⟨[], by simp, .done (.last hx (by omega))⟩
        · rw [cut_tok hx hb h35] at hok ⊢
          have hT0 : (t.drop a)[0]? = some c := by rw [List.getElem?_drop, Nat.add_zero]; exact hx
          by_cases h0 : (firstP c (t.drop a)).2.2 = 0
          · rw [if_pos h0] at hok ⊢
            have hle := first_le c (t.drop a) hT0 h0
            rw [List.length_drop] at hle
            obtain ⟨l, e, s⟩ := ih _ (a + (firstP c (t.drop a)).2.1) (by omega) (by omega) hok
            refine ⟨{ (firstP c (t.drop a)).1 with pos := (a : Int) } :: l, by rw [e]; simp, ?_⟩
            exact .tok (.refl _) hx hb h35 (by rw [← h0]) s
          · rw [if_neg h0] at hok; exact absurd hok h0
theorem piece_len (t : Txt) (q p : Nat) (h : p ≤ t.length) : ((t.drop q).take (p - q)).length = p - q := by rw [List.length_take, List.length_drop]; omega
theorem piece_at (t : Txt) (q p a : Nat) (hq : q ≤ a) (h : a < p) : ((t.drop q).take (p - q))[a - q]? = t[a]? := by
  rw [List.getElem?_take_of_lt (by omega), List.getElem?_drop, show q + (a - q) = a by omega]
theorem piece_line (t : Txt) (q p a : Nat) (hq : q ≤ a) (hp : a ≤ p) (h : lineB t a ≤ p) : lineB ((t.drop q).take (p - q)) (a - q) = lineB t a - q := by
  unfold lineB scan at h ⊢
  rw [List.drop_take, List.drop_drop, show q + (a - q) = a by omega, tw_take, List.length_take]
  omega
theorem gap_cut {t : Txt} {a p : Nat} (h : Gap t a p) : ∀ (q : Nat), q ≤ a → p ≤ t.length → ∀ (f : Nat) (acc : List TokA), p - q + 1 ≤ a - q + f → cutL ((t.drop q).take (p - q)) f acc (a - q) = (acc, 0, 0) := by
  induction h with
  | refl a =>
    intro q hq hp f acc hf
    obtain ⟨f, rfl⟩ : ∃ g, f = g + 1 := ⟨f - 1, by omega⟩
    exact cut_none (List.getElem?_eq_none (by rw [piece_len t q a hp]; omega))
  | blank h hb k ih =>
    rename_i a p c
    intro q hq hp f acc hf
    have hle := k.le.1
    obtain ⟨f, rfl⟩ : ∃ g, f = g + 1 := ⟨f - 1, by omega⟩
    rw [cut_blank (by rw [piece_at t q p a hq (by omega)]; exact h) hb, show a - q + 1 = a + 1 - q by omega]
    exact ih q (by omega) hp f acc (by omega)
  | hash h hl k ih =>
    rename_i a p
    intro q hq hp f acc hf
    have hle := k.le.1
    have hg := line_gt h
    obtain ⟨f, rfl⟩ : ∃ g, f = g + 1 := ⟨f - 1, by omega⟩
    rw [cut_hash (by rw [piece_at t q p a hq (by omega)]; exact h), piece_line t q p a hq (by omega) hle, piece_len t q p hp]
    by_cases hlt : lineB t a < p
    · rw [if_pos (by omega)]
      exact ih q (by omega) hp f acc (by omega)
    · rw [if_neg (by omega)]
  | last h hl =>
    rename_i a
    intro q hq hp f acc hf
    have hg := line_gt h
    have hlt := get_lt h
    obtain ⟨f, rfl⟩ : ∃ g, f = g + 1 := ⟨f - 1, by omega⟩
    rw [cut_hash (by rw [piece_at t q t.length a hq hlt]; exact h), piece_line t q t.length a hq (by omega) (by omega), piece_len t q t.length hp, if_neg (by omega)]
/-- A place where a new rune begins. -/
def PrevA (t : Txt) (e : Nat) : Prop := e = t.length ∨ e = 0 ∨ ∃ y, t[e - 1]? = some y ∧ y.toNat < 128
def BegA (t : Txt) (e : Nat) : Prop := PrevA t e ∨ t[e]? = some 10
theorem Gap.beg {t : Txt} {a p : Nat} (h : Gap t a p) : BegA t a → BegA t p := by
  induction h with
  | refl a => exact id
  | blank h hb k ih => exact fun _ => ih (.inl (.inr (.inr ⟨_, by rw [Nat.add_sub_cancel]; exact h, blank_ascii hb⟩)))
  | hash h hl k ih =>
    rename_i a p
    refine fun _ => ih (.inr ?_)
    obtain ⟨y, hy⟩ : ∃ y, t[lineB t a]? = some y := ⟨_, List.getElem?_eq_getElem hl⟩
    rw [hy, line_at hy]
  | last h hl => exact fun _ => .inl (.inl rfl)
theorem Gap.prev {t : Txt} {a p : Nat} (h : Gap t a p) (ha : PrevA t a) (hn : ∀ y, t[p]? = some y → blankB y = false) : PrevA t p := by
  rcases h.beg (.inl ha) with h | h
  · exact h
  · exact absurd (hn 10 h) (by decide)
theorem val_drop {t : Txt} (hv : Val t) {p : Nat} (h : PrevA t p) : Val (t.drop p) := by
  rcases h with rfl | rfl | ⟨y, hy, hy8⟩
  · rw [List.drop_length]; exact .nil
  · rw [List.drop_zero]; exact hv
  · rcases Nat.eq_zero_or_pos p with rfl | hp
    · rw [List.drop_zero]; exact hv
    · have := (hv.cut (p - 1) y hy hy8).2.2.2
      rwa [show p - 1 + 1 = p by omega] at this
theorem val_piece {t : Txt} (hv : Val t) {p e : Nat} (hp : PrevA t p) (he : PrevA t e) (hpe : p ≤ e) (hel : e ≤ t.length) : Val ((t.drop p).take (e - p)) := by
  have hd := val_drop hv hp
  rcases Nat.eq_or_lt_of_le hpe with rfl | hlt
  · rw [Nat.sub_self, List.take_zero]; exact .nil
  · rcases he with rfl | rfl | ⟨y, hy, hy8⟩
    · rw [List.take_of_length_le (by rw [List.length_drop]; omega)]; exact hd
    · omega
    · have hy' : (t.drop p)[e - 1 - p]? = some y := by rw [List.getElem?_drop, show p + (e - 1 - p) = e - 1 by omega]; exact hy
      have := (hd.cut (e - 1 - p) y hy' hy8).2.2.1
      rwa [show e - 1 - p + 1 = e - p by omega] at this
/-- Where the token of a number begins, or the source ends. -/
def endP (t : Txt) (l : List TokA) (j : Nat) : Nat := match l[j]? with
  | some y => y.pos.toNat
  | none => t.length
theorem seg_pieces {t : Txt} (hv : Val t) (h256 : t.length ≤ 256) {a : Nat} {l : List TokA} (h : Seg t a l) : a ≤ t.length → PrevA t a →
    (Gap t a (endP t l 0) ∧ a ≤ endP t l 0 ∧ endP t l 0 ≤ t.length ∧ PrevA t (endP t l 0)) ∧ ∀ i x, l[i]? = some x → ∃ p : Nat, x.pos = (p : Int) ∧ p < endP t l (i + 1) ∧ endP t l (i + 1) ≤ t.length ∧ lexP ((t.drop p).take (endP t l (i + 1) - p)) = ([{ x with pos := 0 }], 0, 0) := by
  induction h with
  | done g =>
    intro ha hp
    exact ⟨⟨g, g.le.1, Nat.le_refl _, .inl rfl⟩, fun i x hx => by simp at hx⟩
  | tok g hc hb h35 hf k ih =>
    rename_i a p n c x l
    intro ha hpa
    have hgl := g.le
    have hlt := get_lt hc
    have hT0 : (t.drop p)[0]? = some c := by rw [List.getElem?_drop, Nat.add_zero]; exact hc
    have hle := first_le c (t.drop p) hT0 (by rw [hf])
    rw [hf, List.length_drop] at hle
    simp only at hle
    have hpp : PrevA t p := g.prev hpa (fun y hy => by rw [hc] at hy; cases hy; exact hb)
    obtain ⟨y, hy, hy8⟩ := first_last hf hT0
    rw [List.getElem?_drop] at hy
    have hpn : PrevA t (p + n) := .inr (.inr ⟨y, by rw [show p + n - 1 = p + (n - 1) by omega]; exact hy, hy8⟩)
    obtain ⟨⟨g1, g2, g3, g4⟩, ihp⟩ := ih (by omega) hpn
    have e0 : endP t ({ x with pos := (p : Int) } :: l) 0 = p := by simp [endP]
    have es : ∀ j, endP t ({ x with pos := (p : Int) } :: l) (j + 1) = endP t l j := fun j => by simp [endP]
    refine ⟨by rw [e0]; exact ⟨g, hgl.1, by omega, hpp⟩, fun i z hz => ?_⟩
    cases i with
    | zero =>
      simp at hz
      subst hz
      refine ⟨p, rfl, ?_, ?_, ?_⟩
      · rw [es]; omega
      · rw [es]; exact g3
      · rw [es]
        have hBl := piece_len t p (endP t l 0) g3
        have hB0 : ((t.drop p).take (endP t l 0 - p))[0]? = some c := by rw [List.getElem?_take_of_lt (by omega)]; exact hT0
        rw [lex_val (val_piece hv hpp g4 (by omega) g3) (by omega), cut_tok hB0 hb h35, List.drop_zero, first_take hf hT0 (by omega)]
        simp only [if_true, Nat.zero_add]
        have := gap_cut g1 p (by omega) g3 ((t.drop p).take (endP t l 0 - p)).length ([] ++ [{ x with pos := ((0 : Nat) : Int) }]) (by omega)
        rw [show p + n - p = n by omega] at this
        rw [this]
        rfl
    | succ i =>
      have hz' : l[i]? = some z := by simpa using hz
      obtain ⟨p', k1, k2, k3, k4⟩ := ihp i z hz'
      exact ⟨p', k1, by rw [es]; exact k2, by rw [es]; exact k3, by rw [es]; exact k4⟩
theorem lex_pieces (t : Txt) (h : (lexP t).2.1 = 0) : t.length ≤ 256 ∧ endP t (lexP t).1 0 ≤ t.length ∧ lexP (t.take (endP t (lexP t).1 0)) = ([], 0, 0) ∧ ∀ i x, (lexP t).1[i]? = some x → ∃ p : Nat, x.pos = (p : Int) ∧ p < endP t (lexP t).1 (i + 1) ∧ endP t (lexP t).1 (i + 1) ≤ t.length ∧ lexP ((t.drop p).take (endP t (lexP t).1 (i + 1) - p)) = ([{ x with pos := 0 }], 0, 0) := by
  rcases lex_cases t with ⟨_, e⟩ | ⟨_, _, e⟩ | ⟨hl, hv, e⟩
  · rw [e] at h; simp at h
  · rw [e] at h; simp at h
  · rw [e] at h ⊢
    obtain ⟨l, e1, s⟩ := cut_seg t _ [] 0 (by omega) (by omega) h
    rw [e1, List.nil_append]
    obtain ⟨⟨g1, g2, g3, g4⟩, ihp⟩ := seg_pieces hv hl s (by omega) (.inr (.inl rfl))
    refine ⟨hl, g3, ?_, ihp⟩
    have h0 := gap_cut g1 0 (Nat.le_refl _) g3 ((t.take (endP t l 0)).length + 1) [] (by rw [List.length_take]; omega)
    have hv0 := val_piece hv (p := 0) (.inr (.inl rfl)) g4 (by omega) g3
    rw [List.drop_zero, Nat.sub_zero] at h0 hv0
    rw [lex_val hv0 (by rw [List.length_take]; omega)]
    exact h0
end Go.Proofs.YtbgapbaeegloaaaDoor
