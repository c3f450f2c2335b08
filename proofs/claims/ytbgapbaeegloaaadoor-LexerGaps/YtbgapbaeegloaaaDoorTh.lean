import Derived.Test.YtbgapbaeegloaaaDoorTg
import Derived.Lib.ParseIntB
namespace Go.Proofs.YtbgapbaeegloaaaDoor
open Go.RowKit Go.Maps

theorem quote_split (t R : Txt) (k : Nat) : quoteB t ++ R = quoteTo t k ++ ((t.drop k).flatMap quote1 ++ 34 :: R) := by
  unfold quoteB quoteTo
  have h : t.flatMap quote1 = (t.take k).flatMap quote1 ++ (t.drop k).flatMap quote1 := by rw [← List.flatMap_append, List.take_append_drop]
  rw [h]
  simp
theorem quote_split1 {t : Txt} (R : Txt) {k : Nat} {c : UInt8} (h : t[k]? = some c) : quoteB t ++ R = quoteTo t k ++ (quote1 c ++ ((t.drop (k + 1)).flatMap quote1 ++ 34 :: R)) := by
  rw [quote_split t R k]
  congr 1
  have hl := get_lt h
  rw [List.drop_eq_getElem_cons hl]
  have : t[k] = c := by rw [List.getElem?_eq_getElem hl] at h; simpa using h
  rw [this]
  simp
theorem quoteTo_full (t : Txt) : (quoteTo t t.length).length + 1 = (quoteB t).length := by unfold quoteTo quoteB; rw [List.take_length]; simp
theorem hexB_hexD : ∀ n : Fin 16, hexB (num (hexD n.val)) = (n.val : Int) := by decide +kernel
/-- A byte's own piece of a literal means this byte. -/
theorem piece_quote1 (c : UInt8) (S : Txt) : ∃ y, (quote1 c ++ S)[0]? = some y ∧ y ≠ 34 ∧ pieceB (quote1 c ++ S) 0 y = ([c], (quote1 c).length) := by
  by_cases hesc : c = 34 ∨ c = 92
  · have hq : quote1 c = [92, c] := by unfold quote1; rw [if_pos hesc]
    rw [hq]
    refine ⟨92, rfl, by decide, ?_⟩
    unfold pieceB
    rw [if_pos rfl]
    have he : escB ([92, c] ++ S) 0 = (num c, 2) := by
      unfold escB
      rw [show ([92, c] ++ S)[0 + 1]? = some c from rfl]
      rcases hesc with rfl | rfl <;> rfl
    rw [he]
    rcases hesc with rfl | rfl <;> rfl
  · have n34 : c ≠ 34 := fun e => hesc (.inl e)
    have n92 : c ≠ 92 := fun e => hesc (.inr e)
    by_cases hpl : 32 ≤ c.toNat ∧ c.toNat ≤ 126
    · have hq : quote1 c = [c] := by unfold quote1; rw [if_neg hesc, if_pos hpl]
      rw [hq]
      refine ⟨c, rfl, n34, ?_⟩
      unfold pieceB
      rw [if_neg n92, if_pos (by unfold num; omega)]
      rfl
    · have hq : quote1 c = [92, 120, hexD (c.toNat / 16), hexD (c.toNat % 16)] := by unfold quote1; rw [if_neg hesc, if_neg hpl]
      rw [hq]
      refine ⟨92, rfl, by decide, ?_⟩
      have hcl := c.toNat_lt
      have h1 := hexB_hexD ⟨c.toNat / 16, by omega⟩
      have h2 := hexB_hexD ⟨c.toNat % 16, by omega⟩
      simp only at h1 h2
      unfold pieceB
      rw [if_pos rfl, escB_in _ 0 (c := 120) (h := hexD (c.toNat / 16)) (l := hexD (c.toNat % 16)) rfl rfl rfl rfl, h1, h2, if_neg (by omega)]
      have e : ((16 : Int) * ((c.toNat / 16 : Nat) : Int) + ((c.toNat % 16 : Nat) : Int)).toNat = c.toNat := by omega
      simp only [e]
      simp
theorem unq_quote (s R : Txt) (hs : s.length ≤ 20) : ∀ (n k f : Nat), k + n = s.length → n + 1 ≤ f → unqLoop f (quoteB s ++ R) (s.take k) (quoteTo s k).length = some (s, (quoteB s).length)
  | 0, k, f, hk, hf => by
    obtain ⟨f, rfl⟩ : ∃ f', f = f' + 1 := ⟨f - 1, by omega⟩
    obtain rfl : k = s.length := by omega
    rw [unq_end (by rw [quote_split s R s.length, List.getElem?_append_right (Nat.le_refl _)]; simp) (by rw [List.take_length]; exact hs), List.take_length, quoteTo_full]
  | n + 1, k, f, hk, hf => by
    obtain ⟨f, rfl⟩ : ∃ f', f = f' + 1 := ⟨f - 1, by omega⟩
    obtain ⟨c, hc⟩ : ∃ c, s[k]? = some c := ⟨_, List.getElem?_eq_getElem (by omega)⟩
    obtain ⟨S, hS⟩ : ∃ S, S = (s.drop (k + 1)).flatMap quote1 ++ 34 :: R := ⟨_, rfl⟩
    have ht : quoteB s ++ R = quoteTo s k ++ (quote1 c ++ S) := by rw [quote_split1 R hc, hS]
    obtain ⟨y, h1, h2, h3⟩ := piece_quote1 c S
    have hd : (quoteB s ++ R).drop (quoteTo s k).length = quote1 c ++ S := by rw [ht, List.drop_left]
    have hy : (quoteB s ++ R)[(quoteTo s k).length]? = some y := by
      rw [ht, List.getElem?_append_right (Nat.le_refl _), Nat.sub_self]; exact h1
    rw [unq_step hy h2 (by rw [List.length_take]; omega), ← piece_drop _ _ _ (by rw [ht, List.length_append]; omega), hd, h3]
    have hq : (quote1 c).length ≠ 0 := by
      intro e
      have : quote1 c = [] := List.eq_nil_of_length_eq_zero e
      unfold quote1 at this
      split at this
      · cases this
      · split at this <;> cases this
    simp only [if_neg hq]
    have := unq_quote s R hs n (k + 1) f (by omega) (by omega)
    rw [take_snoc _ _ _ hc, quoteTo_snoc hc, List.length_append] at this
    exact this
theorem unquote_quote (s R : Txt) (hs : s.length ≤ 20) : unquoteB (quoteB s ++ R) = (s, (quoteB s).length, 0) := by
  unfold unquoteB
  rw [if_pos (show (quoteB s ++ R)[0]? = some 34 from rfl)]
  have hl : s.length + 1 ≤ (quoteB s ++ R).length := by
    have h : ∀ s : Txt, s.length ≤ (s.flatMap quote1).length := by
      intro s
      induction s with
      | nil => simp
      | cons c r ih =>
        obtain ⟨y, h1, _, _⟩ := piece_quote1 c []
        have : 1 ≤ (quote1 c).length := by
          rw [List.append_nil] at h1
          exact get_lt h1
        simp only [List.flatMap_cons, List.length_append, List.length_cons]
        omega
    have := h s
    unfold quoteB
    simp only [List.length_append, List.length_cons]
    omega
  have := unq_quote s R hs s.length 0 (quoteB s ++ R).length (by omega) hl
  rw [List.take_zero, show (quoteTo s 0).length = 1 from rfl] at this
  rw [this]

theorem pum_app (M : Nat) : ∀ (l r : Txt) (acc a : Nat), Lib.parseUintM M acc l = .ok a → Lib.parseUintM M acc (l ++ r) = Lib.parseUintM M a r
  | [], r, acc, a, h => by simp only [Lib.parseUintM, Lib.NumEnd.ok.injEq] at h; rw [List.nil_append, h]
  | c :: l, r, acc, a, h => by
    simp only [Lib.parseUintM] at h
    rw [List.cons_append, Lib.parseUintM]
    split at h
    · rename_i h1
      rw [if_pos h1]
      split at h
      · cases h
      · rename_i h2
        rw [if_neg h2]
        split at h
        · cases h
        · rename_i h3
          rw [if_neg h3]
          exact pum_app M l r _ a h
    · cases h
theorem pum_decN : ∀ u : Nat, u ≤ 18446744073709551615 → Lib.parseUintM 18446744073709551615 0 (decN u) = .ok u := by
  intro u
  induction u using Nat.strongRecOn with
  | ind u ih =>
    intro h
    by_cases h0 : u = 0
    · subst h0; rw [decN_zero]; rfl
    · rw [decN_pos (by omega), pum_app _ _ _ _ _ (ih (u / 10) (by omega) (by omega)), Lib.parseUintM]
      have hd : (UInt8.ofNat (48 + u % 10)).toNat = 48 + u % 10 := by rw [UInt8.toNat_ofNat']; omega
      rw [hd, if_pos (by omega), if_neg (by omega), if_neg (by omega), Lib.parseUintM]
      congr 1
      omega
end Go.Proofs.YtbgapbaeegloaaaDoor
