import Derived.Test.YtajklagdjokojaaGreatDoorSc
namespace Go.Proofs.YtajklagdjokojaaGreatDoor
open Go.RowKit Go.Maps

theorem hexB_hexD : ∀ n : Fin 16, hexB (num (hexD n.val)) = (n.val : Int) := by decide +kernel
/-- A byte's own piece of a literal means this byte. -/
theorem piece_quote1 (c : UInt8) (S : Txt) : ∃ y, (quote1 c ++ S)[0]? = some y ∧ y ≠ 34 ∧ pieceB (quote1 c ++ S) 0 y = ([c], (quote1 c).length) := by
  by_cases hesc : c = 34 ∨ c = 92
  · have hq : quote1 c = [92, c] := by unfold quote1; rw [if_pos hesc]
    rw [hq]
    refine ⟨92, rfl, by decide, ?_⟩
    unfold pieceB
    rw [if_pos rfl]
    have he : escB ([92, c] ++ S) 0 = (num c, 2) := by
      unfold escB
      rw [show ([92, c] ++ S)[0 + 1]? = some c from rfl]
      rcases hesc with rfl | rfl <;> rfl
    rw [he]
    rcases hesc with rfl | rfl <;> rfl
  · have n34 : c ≠ 34 := fun e => hesc (.inl e)
    have n92 : c ≠ 92 := fun e => hesc (.inr e)
    by_cases hpl : 32 ≤ c.toNat ∧ c.toNat ≤ 126
    · have hq : quote1 c = [c] := by unfold quote1; rw [if_neg hesc, if_pos hpl]
      rw [hq]
      refine ⟨c, rfl, n34, ?_⟩
      unfold pieceB
      rw [if_neg n92, if_pos (by unfold num; omega)]
      rfl
    · have hq : quote1 c = [92, 120, hexD (c.toNat / 16), hexD (c.toNat % 16)] := by unfold quote1; rw [if_neg hesc, if_neg hpl]
      rw [hq]
      refine ⟨92, rfl, by decide, ?_⟩
      have hcl := c.toNat_lt
      have h1 := hexB_hexD ⟨c.toNat / 16, by omega⟩
      have h2 := hexB_hexD ⟨c.toNat % 16, by omega⟩
      simp only at h1 h2
      unfold pieceB
      rw [if_pos rfl, escB_in _ 0 (c := 120) (h := hexD (c.toNat / 16)) (l := hexD (c.toNat % 16)) rfl rfl rfl rfl, h1, h2, if_neg (by omega)]
      have e : ((16 : Int) * ((c.toNat / 16 : Nat) : Int) + ((c.toNat % 16 : Nat) : Int)).toNat = c.toNat := by omega
      simp only [e]
      simp
theorem unq_quote (s R : Txt) (hs : s.length ≤ 20) : ∀ (n k f : Nat), k + n = s.length → n + 1 ≤ f → unqLoop f (quoteB s ++ R) (s.take k) (quoteTo s k).length = some (s, (quoteB s).length)
  | 0, k, f, hk, hf => by
    obtain ⟨f, rfl⟩ : ∃ f', f = f' + 1 := ⟨f - 1, by omega⟩
    obtain rfl : k = s.length := by omega
    rw [unq_end (by rw [quote_split s R s.length, List.getElem?_append_right (Nat.le_refl _)]; simp) (by rw [List.take_length]; exact hs), List.take_length, quoteTo_full]
  | n + 1, k, f, hk, hf => by
    obtain ⟨f, rfl⟩ : ∃ f', f = f' + 1 := ⟨f - 1, by omega⟩
    obtain ⟨c, hc⟩ : ∃ c, s[k]? = some c := ⟨_, List.getElem?_eq_getElem (by omega)⟩
    obtain ⟨S, hS⟩ : ∃ S, S = (s.drop (k + 1)).flatMap quote1 ++ 34 :: R := ⟨_, rfl⟩
    have ht : quoteB s ++ R = quoteTo s k ++ (quote1 c ++ S) := by rw [quote_split1 R hc, hS]
    obtain ⟨y, h1, h2, h3⟩ := piece_quote1 c S
    have hd : (quoteB s ++ R).drop (quoteTo s k).length = quote1 c ++ S := by rw [ht, List.drop_left]
    have hy : (quoteB s ++ R)[(quoteTo s k).length]? = some y := by
      rw [ht, List.getElem?_append_right (Nat.le_refl _), Nat.sub_self]; exact h1
    rw [unq_step hy h2 (by rw [List.length_take]; omega), ← piece_drop _ _ _ (by rw [ht, List.length_append]; omega), hd, h3]
    have hq : (quote1 c).length ≠ 0 := by
      intro e
      have : quote1 c = [] := List.eq_nil_of_length_eq_zero e
      unfold quote1 at this
      split at this
      · cases this
      · split at this <;> cases this
    simp only [if_neg hq]
    have := unq_quote s R hs n (k + 1) f (by omega) (by omega)
    rw [take_snoc _ _ _ hc, quoteTo_snoc hc, List.length_append] at this
    exact this
theorem unquote_quote (s R : Txt) (hs : s.length ≤ 20) : unquoteB (quoteB s ++ R) = (s, (quoteB s).length, 0) := by
  unfold unquoteB
  rw [if_pos (show (quoteB s ++ R)[0]? = some 34 from rfl)]
  have hl : s.length + 1 ≤ (quoteB s ++ R).length := by
    have h : ∀ s : Txt, s.length ≤ (s.flatMap quote1).length := by
      intro s
      induction s with
      | nil => simp
      | cons c r ih =>
        obtain ⟨y, h1, _, _⟩ := piece_quote1 c []
        have : 1 ≤ (quote1 c).length := by
          rw [List.append_nil] at h1
          exact get_lt h1
        simp only [List.flatMap_cons, List.length_append, List.length_cons]
        omega
    have := h s
    unfold quoteB
    simp only [List.length_append, List.length_cons]
    omega
  have := unq_quote s R hs s.length 0 (quoteB s ++ R).length (by omega) hl
  rw [List.take_zero, show (quoteTo s 0).length = 1 from rfl] at this
  rw [this]

/-- The inside of a record's text, with its end. -/
def joinT : Bool → List Txt → Txt
  | _, [] => [125]
  | first, a :: r => (if first then [] else [44]) ++ (a ++ joinT false r)
theorem joinT_false : ∀ r : List Txt, joinT false r = r.flatMap (fun x => 44 :: x) ++ [125]
  | [] => rfl
  | a :: r => by simp [joinT, joinT_false r]
theorem joinT_true (L : List Txt) : joinT true L = joinB L ++ [125] := by
  cases L with
  | nil => rfl
  | cons a r => simp [joinT, joinT_false, joinB]
theorem joinT_end (L : List Txt) : EndT (joinT false L) := by
  cases L with
  | nil => exact .inr ⟨125, [], rfl, .inr rfl⟩
  | cons a r => exact .inr ⟨44, a ++ joinT false r, rfl, .inl rfl⟩
theorem cut_at {c : UInt8} : ∀ {a b A B : Txt}, (∀ x ∈ a, x ≠ c) → (∀ x ∈ b, x ≠ c) → a ++ c :: A = b ++ c :: B → a = b ∧ A = B
  | [], [], A, B, _, _, h => ⟨rfl, by simpa using h⟩
  | [], y :: b, A, B, _, hb, h => by
    simp only [List.nil_append, List.cons_append, List.cons.injEq] at h
    exact absurd h.1.symm (hb y (by simp))
  | x :: a, [], A, B, ha, _, h => by
    simp only [List.nil_append, List.cons_append, List.cons.injEq] at h
    exact absurd h.1 (ha x (by simp))
  | x :: a, y :: b, A, B, ha, hb, h => by
    simp only [List.cons_append, List.cons.injEq] at h
    obtain ⟨h1, h2⟩ := cut_at (fun z hz => ha z (List.mem_cons_of_mem _ hz)) (fun z hz => hb z (List.mem_cons_of_mem _ hz)) h.2
    exact ⟨by rw [h.1, h1], h2⟩
theorem pv_shown {f : FieldA} {x : ValA} (h : fitsB f x = true) (hk : x.kind ≠ 0) (hf : f.type = 1 ∨ f.type = 2 ∨ f.type = 3) (hI : -9223372036854775808 ≤ x.n ∧ x.n ≤ 9223372036854775807) (R : Txt) (hR : EndT R) : pvP f.type (shownB x ++ R) = some (x, R) := by
  have hty := fits_type h hk
  obtain ⟨k, n, s⟩ := x
  simp only at hty hI hk
  subst hty
  unfold fitsB at h
  simp only [if_neg hk, ne_eq, not_true_eq_false, if_false] at h
  unfold pvP shownB
  rcases hf with e | e | e
  · rw [e] at h ⊢
    simp only [if_true, decide_eq_true_eq] at h ⊢
    subst h
    obtain ⟨t1, t2⟩ := numC_end hR
    rw [tw_app (decimal_numC n), dw_app (decimal_numC n), t1, t2, List.append_nil, numberB_decimal n hI.1 hI.2]
    rfl
  · rw [e] at h ⊢
    simp only [show ¬ (2 : Int) = 1 by omega, if_false, if_true, Bool.and_eq_true, Bool.or_eq_true, decide_eq_true_eq] at h ⊢
    obtain ⟨hn, rfl⟩ := h
    rcases hn with rfl | rfl
    · rfl
    · rfl
  · rw [e] at h ⊢
    simp only [show ¬ (3 : Int) = 1 by omega, show ¬ (3 : Int) = 2 by omega, if_false] at h ⊢
    have h2 : n = 0 ∧ s.length ≤ 20 := by simpa using h
    obtain ⟨rfl, hs⟩ := h2
    rw [unquote_quote s R hs]
    simp
theorem no_pre {f : FieldA} {l : List FieldA} {r : List ValA} {sm : Bool} (hn : nameB f.name = true) (hl : ∀ g ∈ l, nameB g.name = true ∧ g.name ≠ f.name) : (preP f sm).isPrefixOf (joinT (!sm) (items (l.zip r))) = false := by
  obtain ⟨h0, ha⟩ := part_chars hn
  cases hp : (preP f sm).isPrefixOf (joinT (!sm) (items (l.zip r))) with
  | false => rfl
  | true =>
    exfalso
    have e := prefix_app hp
    obtain ⟨A, hA⟩ : ∃ A, (joinT (!sm) (items (l.zip r))).drop (preP f sm).length = A := ⟨_, rfl⟩
    rw [hA] at e
    unfold preP at e
    cases hi : items (l.zip r) with
    | nil =>
      rw [hi] at e
      have hl := congrArg List.length e
      have := List.length_pos_iff.2 h0
      simp only [joinT, List.length_append, List.length_cons, List.length_nil] at hl
      omega
    | cons it L =>
      have hm : it ∈ items (l.zip r) := by rw [hi]; simp
      obtain ⟨p, hp, rfl⟩ := items_mem hm
      have hg : p.1 ∈ l := (List.of_mem_zip hp).1
      obtain ⟨g1, g2⟩ := hl p.1 hg
      rw [hi] at e
      have e2 : p.1.name ++ 61 :: (shownB p.2 ++ joinT false L) = f.name ++ 61 :: A := by
        cases sm
        · simpa [joinT] using e
        · simpa [joinT] using e
      have c1 : ∀ x ∈ p.1.name, x ≠ 61 := fun x hx => (part_not (List.all_eq_true.1 (part_chars g1).2 x hx)).2.2.1
      have c2 : ∀ x ∈ f.name, x ≠ 61 := fun x hx => (part_not (List.all_eq_true.1 ha x hx)).2.2.1
      exact g2 (cut_at c1 c2 e2).1
theorem items_cons (f : FieldA) (x : ValA) (z : List (FieldA × ValA)) : items ((f, x) :: z) = (if x.kind = 0 then [] else [f.name ++ [61] ++ shownB x]) ++ items z := by
  unfold items
  simp only [List.flatMap_cons]
theorem par_print : ∀ (l : List FieldA) (r : List ValA) (sm : Bool), r.length = l.length → fitAll l r = true → l.all fieldOK = true → (l.map FieldA.name).Nodup → InR r → parP l (joinT (!sm) (items (l.zip r))) sm = some (r, [125])
  | [], [], sm, _, _, _, _, _ => by simp [parP, items, joinT]
  | [], x :: r, _, hl, _, _, _, _ => by simp at hl
  | f :: l, [], _, hl, _, _, _, _ => by simp at hl
  | f :: l, x :: r, sm, hl, hf, hok, hnd, hI => by
    simp only [List.all_cons, Bool.and_eq_true] at hok
    unfold fitAll at hf
    simp only [List.zip_cons_cons, List.all_cons, Bool.and_eq_true] at hf
    simp only [List.map_cons, List.nodup_cons] at hnd
    have hnm : ∀ g : FieldA, fieldOK g = true → nameB g.name = true := fun g h => by unfold fieldOK at h; simp only [Bool.and_eq_true] at h; exact h.1
    have ih := fun sm => par_print l r sm (by simpa using hl) hf.2 hok.2 hnd.2 (fun y hy => hI y (List.mem_cons_of_mem _ hy))
    rw [List.zip_cons_cons, items_cons, parP]
    by_cases hk : x.kind = 0
    · rw [if_pos hk, List.nil_append, no_pre (hnm f hok.1) (fun g hg => ⟨hnm g (List.all_eq_true.1 hok.2 g hg), fun e => hnd.1 (by rw [← e]; exact List.mem_map_of_mem hg)⟩), ih sm]
      obtain ⟨ho, rfl⟩ := fits_absent hf.1 hk
      simp [zeroV, ho]
    · rw [if_neg hk]
      have hj : joinT (!sm) ([f.name ++ [61] ++ shownB x] ++ items (l.zip r)) = preP f sm ++ (shownB x ++ joinT false (items (l.zip r))) := by
        cases sm <;> simp [joinT, preP]
      rw [hj, if_pos (by simp [List.isPrefixOf_iff_prefix]), List.drop_left, pv_shown hf.1 hk (type_of hok.1) (hI x (by simp)) _ (joinT_end _)]
      simp only
      have := ih true
      simp only [Bool.not_true] at this
      rw [this]
      rfl
theorem record_back {l : List FieldA} {r : List ValA} (he : errR l r = 0) (hI : InR r) : parseB l (printB l r) = (r, 0) := by
  obtain ⟨hs, hl, hf⟩ := errR_zero he
  have hnd : (l.map FieldA.name).Nodup := by
    unfold schemaB at hs
    simp only [Bool.and_eq_true, decide_eq_true_eq] at hs
    exact hs.1.2
  have e : printB l r = 123 :: joinT true (items (l.zip r)) := by
    rw [← print_eq]
    unfold printP
    rw [if_pos he, joinT_true]
    simp
  rw [parse_eq l hs, e, if_pos (by simp [List.isPrefixOf]), show (123 :: joinT true (items (l.zip r))).drop 1 = joinT true (items (l.zip r)) from rfl]
  have := par_print l r false hl hf (schemaB_ok hs) hnd hI
  simp only [Bool.not_false] at this
  rw [this]
  simp [finP]
theorem bytes_back {l : List FieldA} {r : List ValA} (he : errR l r = 0) (hI : InR r) : decodeB l (encodeB l r) = (r, 0) := by
  obtain ⟨hs, hl, hf⟩ := errR_zero he
  rw [← decode_eq]
  unfold encodeB decodeV
  rw [if_pos he, if_neg (by simp [hs]), decodeP_enc hs he hI]
end Go.Proofs.YtajklagdjokojaaGreatDoor
