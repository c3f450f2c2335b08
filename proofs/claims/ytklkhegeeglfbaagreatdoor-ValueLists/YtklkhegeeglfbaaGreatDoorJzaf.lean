import Derived.Test.YtklkhegeeglfbaaGreatDoorJz
import Derived.Test.YtklkhegeeglfbaaGreatDoorRows
import Derived.ProofKit
import Derived.OpenShut
import Derived.ShutString
import Derived.ChangeOld
import Derived.Stop.Joined
import Derived.Deep.Slices
import Derived.Deep.Strs
import Derived.SizedLaws
import Derived.Test.YtklkhegeeglfbaaGreatDoorShelf
import Derived.Lib.LaidU8T
import Derived.LaidLaws
import Derived.LaidMore
import Derived.LaidSub
import Derived.Lib.LaidTab
import Derived.Test.YtklkhegeeglfbaaGreatDoorJd
import Derived.ArgAppend
import Derived.Deep.DeepAppendRoom
import Derived.Deep.DeepCutAuto
import Derived.BigRegion
namespace Go.Proofs.YtklkhegeeglfbaaGreatDoor
open Go.RowKit Go.Maps

theorem make_self {l : List FieldA} {r : List ValA} (he : errR l r = 0) : makeB l r = (r, 0) := by
  obtain ⟨hs, hl, hf⟩ := errR_zero he
  rw [makeB_eq hs (by omega), if_pos hf]
  unfold madeR
  rw [hl, List.drop_length]
  simp [zeros]

/- A schema's text gives it back. -/
theorem part_chars {x : Txt} (h : nameB x = true) : x ≠ [] ∧ x.all (fun c => partB (num c)) = true := by
  unfold nameB at h
  simp only [Bool.and_eq_true, decide_eq_true_eq] at h
  exact ⟨h.1.1.1.1, h.1.2⟩
theorem part_not {c : UInt8} (h : partB (num c) = true) : c ≠ 44 ∧ c ≠ 58 ∧ c ≠ 61 ∧ c ≠ 125 := by
  refine ⟨?_, ?_, ?_, ?_⟩ <;> (rintro rfl; simp [partB, num] at h)
theorem runB_app {x r : Txt} (h : x.all (fun c => partB (num c)) = true) (hr : ∃ s, r = 58 :: s) : runB (x ++ r) = x.length := by
  obtain ⟨s, rfl⟩ := hr
  refine scan_eq (k := x.length) (c := 58) ?_ ?_ (by decide)
  · rw [List.take_left]; exact h
  · rw [List.getElem?_append_right (Nat.le_refl _), Nat.sub_self]; rfl
theorem sfield_print {g : FieldA} (h : fieldOK g = true) : sfieldB (pfield g) = some g := by
  rw [← sfield_eq]
  have hn : nameB g.name = true := by unfold fieldOK at h; simp only [Bool.and_eq_true] at h; exact h.1
  obtain ⟨h0, ha⟩ := part_chars hn
  have hp : pfield g = g.name ++ 58 :: (wordB g.type ++ (if g.opt then [63] else [])) := by unfold pfield; simp
  have hr : runB (pfield g) = g.name.length := by rw [hp]; exact runB_app ha ⟨_, rfl⟩
  have hl : 0 < g.name.length := List.length_pos_iff.2 h0
  have h58 : (pfield g)[g.name.length]? = some 58 := by rw [hp, List.getElem?_append_right (Nat.le_refl _), Nat.sub_self]; rfl
  have hd : (pfield g).drop (g.name.length + 1) = wordB g.type ++ (if g.opt then [63] else []) := by rw [hp, ← List.drop_drop, List.drop_left]; rfl
  have ht : (pfield g).take g.name.length = g.name := by rw [hp, List.take_left]
  unfold sfieldP
  rw [hr, if_neg (by simp only [h58]; simp; omega), hd, ht]
  obtain ⟨nm, ty, op⟩ := g
  rcases type_of h with e | e | e
  all_goals
    simp only at e
    subst e
    cases op <;> rfl
theorem pfield_comma {g : FieldA} (h : fieldOK g = true) : ∀ x ∈ pfield g, (x != 44) = true := by
  have hn : nameB g.name = true := by unfold fieldOK at h; simp only [Bool.and_eq_true] at h; exact h.1
  obtain ⟨h0, ha⟩ := part_chars hn
  intro x hx
  unfold pfield at hx
  simp only [List.mem_append] at hx
  rcases hx with ((hx | hx) | hx) | hx
  · have := (part_not (List.all_eq_true.1 ha x hx)).1
    simpa using this
  · simp only [List.mem_singleton] at hx; subst hx; rfl
  · rcases type_of h with e | e | e <;> (rw [e] at hx; simp [wordB] at hx; rcases hx with rfl | rfl | rfl | rfl | rfl <;> rfl)
  · split at hx
    · simp only [List.mem_singleton] at hx; subst hx; rfl
    · cases hx
theorem psLoop_print : ∀ (L : List FieldA) (f : Nat) (t : Txt) (acc : List FieldA) (a : Nat), L ≠ [] → L.all fieldOK = true → L.length ≤ f → a ≤ t.length → t.drop a = joinB (L.map pfield) → psLoop f t acc a = some (acc ++ L)
  | [], _, _, _, _, h, _, _, _, _ => absurd rfl h
  | g :: M, 0, t, acc, a, _, _, hf, _, _ => by simp at hf
  | g :: M, f + 1, t, acc, a, _, hok, hf, ha, hd => by
    simp only [List.all_cons, Bool.and_eq_true] at hok
    have hlen := congrArg List.length hd
    rw [List.length_drop] at hlen
    rw [psLoop_step ha]
    have hcm : comma t a = a + ((t.drop a).takeWhile (fun x => x != 44)).length := rfl
    cases M with
    | nil =>
      have hd' : t.drop a = pfield g := by rw [hd]; simp [joinB]
      rw [hd', tw_full (pfield_comma hok.1)] at hcm
      have hl : (pfield g).length = t.length - a := by rw [← hd', List.length_drop]
      rw [hd', hcm, Nat.add_sub_cancel_left, List.take_length, sfield_print hok.1]
      show psLoop f t (acc ++ [g]) (a + (pfield g).length + 1) = _
      rw [psLoop_end (by omega)]
    | cons h N =>
      have hd' : t.drop a = pfield g ++ 44 :: joinB ((h :: N).map pfield) := by rw [hd]; simp [joinB]
      have htw : (t.drop a).takeWhile (fun x => x != 44) = pfield g := by
        rw [hd', tw_app (pfield_comma hok.1)]
        simp
      rw [htw] at hcm
      rw [hcm, Nat.add_sub_cancel_left, show (t.drop a).take (pfield g).length = pfield g by rw [hd', List.take_left], sfield_print hok.1]
      show psLoop f t (acc ++ [g]) (a + (pfield g).length + 1) = _
      have hl : (pfield g).length + 1 ≤ t.length - a := by rw [← List.length_drop, hd', List.length_append, List.length_cons]; omega
      rw [psLoop_print (h :: N) f t (acc ++ [g]) (a + (pfield g).length + 1) (by simp) (by simpa using hok.2) (by simp at hf ⊢; omega) (by omega) (by rw [Nat.add_assoc, ← List.drop_drop, hd', ← List.drop_drop, List.drop_left]; rfl)]
      simp
theorem pfield_len (g : FieldA) : 1 ≤ (pfield g).length := by unfold pfield; simp; omega
theorem joinB_len : ∀ L : List FieldA, L.length ≤ (joinB (L.map pfield)).length
  | [] => by simp [joinB]
  | g :: M => by
    have h1 := pfield_len g
    have h2 : ∀ M : List FieldA, M.length ≤ ((M.map pfield).flatMap (fun x => 44 :: x)).length := by
      intro M
      induction M with
      | nil => simp
      | cons x r ih => simp only [List.map_cons, List.flatMap_cons, List.length_append, List.length_cons]; omega
    have := h2 M
    simp only [List.map_cons, joinB, List.length_append, List.length_cons]
    omega
theorem schema_back {l : List FieldA} (hs : schemaB l = true) : parseSchemaB (printSchemaB l) = (l, 0) := by
  have e : printSchemaB l = joinB (l.map pfield) := by unfold printSchemaB; rw [if_pos hs, psF_eq]
  have h1 := (schemaB_len hs).1
  unfold parseSchemaB
  rw [e, psLoop_print l _ _ [] 0 (by rintro rfl; simp at h1) (schemaB_ok hs) (by have := joinB_len l; omega) (by omega) (by rw [List.drop_zero])]
  simp [hs]
end Go.Proofs.YtklkhegeeglfbaaGreatDoor
namespace Go.Proofs.YtklkhegeeglfbaaGreatDoor
open Go.RowKit Go.Maps

theorem hexB_hexD : ∀ n : Fin 16, hexB (num (hexD n.val)) = (n.val : Int) := by decide +kernel
/-- A byte's own piece of a literal means this byte. -/
theorem piece_quote1 (c : UInt8) (S : Txt) : ∃ y, (quote1 c ++ S)[0]? = some y ∧ y ≠ 34 ∧ pieceB (quote1 c ++ S) 0 y = ([c], (quote1 c).length) := by
  by_cases hesc : c = 34 ∨ c = 92
  · have hq : quote1 c = [92, c] := by unfold quote1; rw [if_pos hesc]
    rw [hq]
    refine ⟨92, rfl, by decide, ?_⟩
    unfold pieceB
    rw [if_pos rfl]
    have he : escB ([92, c] ++ S) 0 = (num c, 2) := by
      unfold escB
      rw [show ([92, c] ++ S)[0 + 1]? = some c from rfl]
      rcases hesc with rfl | rfl <;> rfl
    rw [he]
    rcases hesc with rfl | rfl <;> rfl
  · have n34 : c ≠ 34 := fun e => hesc (.inl e)
    have n92 : c ≠ 92 := fun e => hesc (.inr e)
    by_cases hpl : 32 ≤ c.toNat ∧ c.toNat ≤ 126
    · have hq : quote1 c = [c] := by unfold quote1; rw [if_neg hesc, if_pos hpl]
      rw [hq]
      refine ⟨c, rfl, n34, ?_⟩
      unfold pieceB
      rw [if_neg n92, if_pos (by unfold num; omega)]
      rfl
    · have hq : quote1 c = [92, 120, hexD (c.toNat / 16), hexD (c.toNat % 16)] := by unfold quote1; rw [if_neg hesc, if_neg hpl]
      rw [hq]
      refine ⟨92, rfl, by decide, ?_⟩
      have hcl := c.toNat_lt
      have h1 := hexB_hexD ⟨c.toNat / 16, by omega⟩
      have h2 := hexB_hexD ⟨c.toNat % 16, by omega⟩
      simp only at h1 h2
      unfold pieceB
      rw [if_pos rfl, escB_in _ 0 (c := 120) (h := hexD (c.toNat / 16)) (l := hexD (c.toNat % 16)) rfl rfl rfl rfl, h1, h2, if_neg (by omega)]
      have e : ((16 : Int) * ((c.toNat / 16 : Nat) : Int) + ((c.toNat % 16 : Nat) : Int)).toNat = c.toNat := by omega
      simp only [e]
      simp
theorem unq_quote (s R : Txt) (hs : s.length ≤ 20) : ∀ (n k f : Nat), k + n = s.length → n + 1 ≤ f → unqLoop f (quoteB s ++ R) (s.take k) (quoteTo s k).length = some (s, (quoteB s).length)
  | 0, k, f, hk, hf => by
    obtain ⟨f, rfl⟩ : ∃ f', f = f' + 1 := ⟨f - 1, by omega⟩
    obtain rfl : k = s.length := by omega
    rw [unq_end (by rw [quote_split s R s.length, List.getElem?_append_right (Nat.le_refl _)]; simp) (by rw [List.take_length]; exact hs), List.take_length, quoteTo_full]
  | n + 1, k, f, hk, hf => by
    obtain ⟨f, rfl⟩ : ∃ f', f = f' + 1 := ⟨f - 1, by omega⟩
    obtain ⟨c, hc⟩ : ∃ c, s[k]? = some c := ⟨_, List.getElem?_eq_getElem (by omega)⟩
    obtain ⟨S, hS⟩ : ∃ S, S = (s.drop (k + 1)).flatMap quote1 ++ 34 :: R := ⟨_, rfl⟩
    have ht : quoteB s ++ R = quoteTo s k ++ (quote1 c ++ S) := by rw [quote_split1 R hc, hS]
    obtain ⟨y, h1, h2, h3⟩ := piece_quote1 c S
    have hd : (quoteB s ++ R).drop (quoteTo s k).length = quote1 c ++ S := by rw [ht, List.drop_left]
    have hy : (quoteB s ++ R)[(quoteTo s k).length]? = some y := by
      rw [ht, List.getElem?_append_right (Nat.le_refl _), Nat.sub_self]; exact h1
    rw [unq_step hy h2 (by rw [List.length_take]; omega), ← piece_drop _ _ _ (by rw [ht, List.length_append]; omega), hd, h3]
    have hq : (quote1 c).length ≠ 0 := by
      intro e
      have : quote1 c = [] := List.eq_nil_of_length_eq_zero e
      unfold quote1 at this
      split at this
      · cases this
      · split at this <;> cases this
    simp only [if_neg hq]
    have := unq_quote s R hs n (k + 1) f (by omega) (by omega)
    rw [take_snoc _ _ _ hc, quoteTo_snoc hc, List.length_append] at this
    exact this
theorem unquote_quote (s R : Txt) (hs : s.length ≤ 20) : unquoteB (quoteB s ++ R) = (s, (quoteB s).length, 0) := by
  unfold unquoteB
  rw [if_pos (show (quoteB s ++ R)[0]? = some 34 from rfl)]
  have hl : s.length + 1 ≤ (quoteB s ++ R).length := by
    have h : ∀ s : Txt, s.length ≤ (s.flatMap quote1).length := by
      intro s
      induction s with
      | nil => simp
      | cons c r ih =>
        obtain ⟨y, h1, _, _⟩ := piece_quote1 c []
        have : 1 ≤ (quote1 c).length := by
          rw [List.append_nil] at h1
          exact get_lt h1
        simp only [List.flatMap_cons, List.length_append, List.length_cons]
        omega
    have := h s
    unfold quoteB
    simp only [List.length_append, List.length_cons]
    omega
  have := unq_quote s R hs s.length 0 (quoteB s ++ R).length (by omega) hl
  rw [List.take_zero, show (quoteTo s 0).length = 1 from rfl] at this
  rw [this]

/-- The inside of a record's text, with its end. -/
def joinT : Bool → List Txt → Txt
  | _, [] => [125]
  | first, a :: r => (if first then [] else [44]) ++ (a ++ joinT false r)
theorem joinT_false : ∀ r : List Txt, joinT false r = r.flatMap (fun x => 44 :: x) ++ [125]
  | [] => rfl
  | a :: r => by simp [joinT, joinT_false r]
theorem joinT_true (L : List Txt) : joinT true L = joinB L ++ [125] := by
  cases L with
  | nil => rfl
  | cons a r => simp [joinT, joinT_false, joinB]
theorem joinT_end (L : List Txt) : EndT (joinT false L) := by
  cases L with
  | nil => exact .inr ⟨125, [], rfl, .inr rfl⟩
  | cons a r => exact .inr ⟨44, a ++ joinT false r, rfl, .inl rfl⟩
theorem cut_at {c : UInt8} : ∀ {a b A B : Txt}, (∀ x ∈ a, x ≠ c) → (∀ x ∈ b, x ≠ c) → a ++ c :: A = b ++ c :: B → a = b ∧ A = B
  | [], [], A, B, _, _, h => ⟨rfl, by simpa using h⟩
  | [], y :: b, A, B, _, hb, h => by
    simp only [List.nil_append, List.cons_append, List.cons.injEq] at h
    exact absurd h.1.symm (hb y (by simp))
  | x :: a, [], A, B, ha, _, h => by
    simp only [List.nil_append, List.cons_append, List.cons.injEq] at h
    exact absurd h.1 (ha x (by simp))
  | x :: a, y :: b, A, B, ha, hb, h => by
    simp only [List.cons_append, List.cons.injEq] at h
    obtain ⟨h1, h2⟩ := cut_at (fun z hz => ha z (List.mem_cons_of_mem _ hz)) (fun z hz => hb z (List.mem_cons_of_mem _ hz)) h.2
    exact ⟨by rw [h.1, h1], h2⟩
theorem pv_shown {f : FieldA} {x : ValA} (h : fitsB f x = true) (hk : x.kind ≠ 0) (hf : f.type = 1 ∨ f.type = 2 ∨ f.type = 3) (hI : -9223372036854775808 ≤ x.n ∧ x.n ≤ 9223372036854775807) (R : Txt) (hR : EndT R) : pvP f.type (shownB x ++ R) = some (x, R) := by
  have hty := fits_type h hk
  obtain ⟨k, n, s⟩ := x
  simp only at hty hI hk
  subst hty
  unfold fitsB at h
  simp only [if_neg hk, ne_eq, not_true_eq_false, if_false] at h
  unfold pvP shownB
  rcases hf with e | e | e
  · rw [e] at h ⊢
    simp only [if_true, decide_eq_true_eq] at h ⊢
    subst h
    obtain ⟨t1, t2⟩ := numC_end hR
    rw [tw_app (decimal_numC n), dw_app (decimal_numC n), t1, t2, List.append_nil, numberB_decimal n hI.1 hI.2]
    rfl
  · rw [e] at h ⊢
    simp only [show ¬ (2 : Int) = 1 by omega, if_false, if_true, Bool.and_eq_true, Bool.or_eq_true, decide_eq_true_eq] at h ⊢
    obtain ⟨hn, rfl⟩ := h
    rcases hn with rfl | rfl
    · rfl
    · rfl
  · rw [e] at h ⊢
    simp only [show ¬ (3 : Int) = 1 by omega, show ¬ (3 : Int) = 2 by omega, if_false] at h ⊢
    have h2 : n = 0 ∧ s.length ≤ 20 := by simpa using h
    obtain ⟨rfl, hs⟩ := h2
    rw [unquote_quote s R hs]
    simp
theorem no_pre {f : FieldA} {l : List FieldA} {r : List ValA} {sm : Bool} (hn : nameB f.name = true) (hl : ∀ g ∈ l, nameB g.name = true ∧ g.name ≠ f.name) : (preP f sm).isPrefixOf (joinT (!sm) (items (l.zip r))) = false := by
  obtain ⟨h0, ha⟩ := part_chars hn
  cases hp : (preP f sm).isPrefixOf (joinT (!sm) (items (l.zip r))) with
  | false => rfl
  | true =>
    exfalso
    have e := prefix_app hp
    obtain ⟨A, hA⟩ : ∃ A, (joinT (!sm) (items (l.zip r))).drop (preP f sm).length = A := ⟨_, rfl⟩
    rw [hA] at e
    unfold preP at e
    cases hi : items (l.zip r) with
    | nil =>
      rw [hi] at e
      have hl := congrArg List.length e
      have := List.length_pos_iff.2 h0
      simp only [joinT, List.length_append, List.length_cons, List.length_nil] at hl
      omega
    | cons it L =>
      have hm : it ∈ items (l.zip r) := by rw [hi]; simp
      obtain ⟨p, hp, rfl⟩ := items_mem hm
      have hg : p.1 ∈ l := (List.of_mem_zip hp).1
      obtain ⟨g1, g2⟩ := hl p.1 hg
      rw [hi] at e
      have e2 : p.1.name ++ 61 :: (shownB p.2 ++ joinT false L) = f.name ++ 61 :: A := by
        cases sm
        · simpa [joinT] using e
        · simpa [joinT] using e
      have c1 : ∀ x ∈ p.1.name, x ≠ 61 := fun x hx => (part_not (List.all_eq_true.1 (part_chars g1).2 x hx)).2.2.1
      have c2 : ∀ x ∈ f.name, x ≠ 61 := fun x hx => (part_not (List.all_eq_true.1 ha x hx)).2.2.1
      exact g2 (cut_at c1 c2 e2).1
theorem items_cons (f : FieldA) (x : ValA) (z : List (FieldA × ValA)) : items ((f, x) :: z) = (if x.kind = 0 then [] else [f.name ++ [61] ++ shownB x]) ++ items z := by
  unfold items
  simp only [List.flatMap_cons]
theorem par_print : ∀ (l : List FieldA) (r : List ValA) (sm : Bool), r.length = l.length → fitAll l r = true → l.all fieldOK = true → (l.map FieldA.name).Nodup → InR r → parP l (joinT (!sm) (items (l.zip r))) sm = some (r, [125])
  | [], [], sm, _, _, _, _, _ => by simp [parP, items, joinT]
  | [], x :: r, _, hl, _, _, _, _ => by simp at hl
  | f :: l, [], _, hl, _, _, _, _ => by simp at hl
  | f :: l, x :: r, sm, hl, hf, hok, hnd, hI => by
    simp only [List.all_cons, Bool.and_eq_true] at hok
    unfold fitAll at hf
    simp only [List.zip_cons_cons, List.all_cons, Bool.and_eq_true] at hf
    simp only [List.map_cons, List.nodup_cons] at hnd
    have hnm : ∀ g : FieldA, fieldOK g = true → nameB g.name = true := fun g h => by unfold fieldOK at h; simp only [Bool.and_eq_true] at h; exact h.1
    have ih := fun sm => par_print l r sm (by simpa using hl) hf.2 hok.2 hnd.2 (fun y hy => hI y (List.mem_cons_of_mem _ hy))
    rw [List.zip_cons_cons, items_cons, parP]
    by_cases hk : x.kind = 0
    · rw [if_pos hk, List.nil_append, no_pre (hnm f hok.1) (fun g hg => ⟨hnm g (List.all_eq_true.1 hok.2 g hg), fun e => hnd.1 (by rw [← e]; exact List.mem_map_of_mem hg)⟩), ih sm]
      obtain ⟨ho, rfl⟩ := fits_absent hf.1 hk
      simp [zeroV, ho]
    · rw [if_neg hk]
      have hj : joinT (!sm) ([f.name ++ [61] ++ shownB x] ++ items (l.zip r)) = preP f sm ++ (shownB x ++ joinT false (items (l.zip r))) := by
        cases sm <;> simp [joinT, preP]
      rw [hj, if_pos (by simp [List.isPrefixOf_iff_prefix]), List.drop_left, pv_shown hf.1 hk (type_of hok.1) (hI x (by simp)) _ (joinT_end _)]
      simp only
      have := ih true
      simp only [Bool.not_true] at this
      rw [this]
      rfl
theorem record_back {l : List FieldA} {r : List ValA} (he : errR l r = 0) (hI : InR r) : parseB l (printB l r) = (r, 0) := by
  obtain ⟨hs, hl, hf⟩ := errR_zero he
  have hnd : (l.map FieldA.name).Nodup := by
    unfold schemaB at hs
    simp only [Bool.and_eq_true, decide_eq_true_eq] at hs
    exact hs.1.2
  have e : printB l r = 123 :: joinT true (items (l.zip r)) := by
    rw [← print_eq]
    unfold printP
    rw [if_pos he, joinT_true]
    simp
  rw [parse_eq l hs, e, if_pos (by simp [List.isPrefixOf]), show (123 :: joinT true (items (l.zip r))).drop 1 = joinT true (items (l.zip r)) from rfl]
  have := par_print l r false hl hf (schemaB_ok hs) hnd hI
  simp only [Bool.not_false] at this
  rw [this]
  simp [finP]
theorem bytes_back {l : List FieldA} {r : List ValA} (he : errR l r = 0) (hI : InR r) : decodeB l (encodeB l r) = (r, 0) := by
  obtain ⟨hs, hl, hf⟩ := errR_zero he
  rw [← decode_eq]
  unfold encodeB decodeV
  rw [if_pos he, if_neg (by simp [hs]), decodeP_enc hs he hI]
end Go.Proofs.YtklkhegeeglfbaaGreatDoor
namespace Go.Proofs.YtklkhegeeglfbaaGreatDoor
open Go.ChangeShapes Go.WideShapes Go.ChangeAt Go.RowKit Go.Deep

theorem own : ownKnob Tryz.prog.godebug = none := by kernel_rfl
theorem laidOut : laidOutB Tryz.prog = true := by kernel_rfl
theorem i64_hi {x : Int} (h : (Lit.int .i64 x).wf = true) : -9223372036854775808 ≤ x ∧ x ≤ 9223372036854775807 := by
  have := bounds_i64 h
  omega
theorem u8_in {x : Int} (h : (Lit.int .u8 x).wf = true) : 0 ≤ x ∧ x ≤ 255 := by
  simp [Lit.wf, IntKind.min, IntKind.max, IntKind.signed, IntKind.bits] at h
  omega
theorem str_of (s : ByteArray) : Value.string s = str s.data.toList := by cases s; simp
theorem e3 : Tryz.prog.cellsOf 3 = 1 := by kernel_rfl
theorem e2 : Tryz.prog.cellsOf 2 = 1 := by kernel_rfl
theorem e4 : Tryz.prog.cellsOf 4 = 1 := by kernel_rfl
theorem e9 : Tryz.prog.cellsOf 9 = 1 := by kernel_rfl
theorem e5 : Tryz.prog.cellsOf 5 = 1 := by kernel_rfl


theorem e40 : Tryz.prog.cellsOf 40 = 3 := by kernel_rfl

theorem gTypes : Tryz.prog.globalNamed "arbor/value.types" = some 0 := by kernel_rfl
theorem tTypes : (Tryz.prog.globals[0]?).map (·.type) = some 100 := by kernel_rfl
theorem c102 : Tryz.prog.cellsOf 99 = 2 := by kernel_rfl
theorem c103 : Tryz.prog.cellsOf 100 = 8 := by kernel_rfl
theorem types_el {W : World} {m : Nat} {a b : Value} {x : DataW Unit × List MemPlace} {s : Txt} {n : Int} (h : DataW.trod (fun _ => ()) Tryz.prog W 0 (fun _ => true) false m 99 [a, b] = some x) (hx : x.1 = .agg [.lit (.string s), .lit (.int .i64 n)]) : a = str s ∧ b = .int .i64 n := by
  obtain ⟨xs, k, _, rfl, hl, hlen, hf⟩ := DataW.trod_struct Tryz.underlying99 h
  match xs, hlen with
  | [y0, y1], _ =>
    have h0 : DataW.trod (fun _ => ()) Tryz.prog W 0 (fun _ => true) false k 9 (([a, b].drop 0).take (Tryz.prog.cellsOf 9)) = some y0 := hf 0 _ rfl
    have h1 : DataW.trod (fun _ => ()) Tryz.prog W 0 (fun _ => true) false k 3 (([a, b].drop 1).take (Tryz.prog.cellsOf 3)) = some y1 := hf 1 _ rfl
    rw [e9] at h0
    rw [e3] at h1
    obtain ⟨s', q0, hs', _⟩ := DataW.trod_string Tryz.underlying9 h0
    obtain ⟨n', q1, hn', _⟩ := DataW.trod_int Tryz.underlying3 h1
    simp only [DataW.agg.injEq, List.map_cons, List.map_nil, List.cons.injEq, and_true] at hx
    rw [hs', hn'] at hx
    simp at hx q0 q1
    rw [q0, q1, str_of, hx.1, hx.2]
    exact ⟨rfl, rfl⟩

set_option maxRecDepth 100000 in
theorem types_met {W : World} (h : Lib.VarReads Tryz.prog W "arbor/value.types" Rows.laid_arbor_value_types) : Types W := by
  obtain ⟨g0, t0, cs0, f0, p0, hg0, ht0, hv0, hd0⟩ := h
  obtain rfl := Option.some.inj (gTypes.symm.trans hg0)
  obtain rfl := Option.some.inj (tTypes.symm.trans ht0)
  obtain ⟨xs, m1, rfl, hx1, hlen, hn3, hel⟩ := DataW.trod_array Tryz.underlying100 hd0
  have q := fun j => World.var?_cell hg0 hv0 j
  obtain ⟨cl⟩ := cs0
  have hlen' : cl.length = 8 := hlen.trans c103
  have hel' : ∀ i, i < 4 → DataW.trod (fun _ => ()) Tryz.prog W 0 (fun _ => true) false m1 99 ((cl.drop (i * 2)).take 2) = xs[i]? := fun i hi => by
    have := hel i hi
    rw [c102] at this
    exact this
  clear hel hlen hd0
  match cl, hlen', xs, hn3 with
  | [c0, c1, c2, c3, c4, c5, c6, c7], _, [x0, x1, x2, x3], _ =>
    simp only [Prod.mk.injEq, Rows.laid_arbor_value_types, DataW.agg.injEq, List.map_cons, List.map_nil, List.cons.injEq, and_true] at hx1
    obtain ⟨⟨e0, e1, e2, e3⟩, _⟩ := hx1
    have h0 := types_el (hel' 0 (by decide)) e0.symm
    have h1 := types_el (hel' 1 (by decide)) e1.symm
    have h2 := types_el (hel' 2 (by decide)) e2.symm
    have h3 := types_el (hel' 3 (by decide)) e3.symm
    have hq0 := q 0
    have hlt : 0 < W.heap.size := by
      have := World.block_lt_of_cell? W ⟨0, 0, none⟩ (u := c0) (by rw [hq0]; rfl)
      exact this
    refine ⟨hlt, fun j x hx => ?_⟩
    rw [q j]
    obtain ⟨rfl, rfl⟩ := h0
    obtain ⟨rfl, rfl⟩ := h1
    obtain ⟨rfl, rfl⟩ := h2
    obtain ⟨rfl, rfl⟩ := h3
    exact hx

theorem extra8 : U8Extra Tryz.prog Tryz.lays197_ren := ⟨by kernel_rfl, by kernel_rfl, by kernel_rfl, by kernel_rfl, by kernel_rfl, by kernel_rfl, by kernel_rfl⟩
theorem tabs_met {W : World} (h3 : Lib.VarReads Tryz.prog W "unicode/utf8.first" Rows.laid_unicode_utf8_first) (h4 : Lib.VarReads Tryz.prog W "unicode/utf8.acceptRanges" Rows.laid_unicode_utf8_acceptRanges) : Lib.Utf8Tabs 7 8 W := by
  rw [show (Rows.laid_unicode_utf8_first : DataW Unit) = Lib.firstData by kernel_rfl] at h3
  rw [show (Rows.laid_unicode_utf8_acceptRanges : DataW Unit) = Lib.acceptData by kernel_rfl] at h4
  exact utf8Tabs_of_readsT (ρ := Tryz.lays197_ren) { Tryz.lays197 with } extra8 h3 h4
theorem err_met {W : World} {n nm : String} {d : DataW Unit} {k : Nat} (h : Lib.VarReads Tryz.prog W n (.iface nm d)) (hg : Tryz.prog.globalNamed n = some k) (ht : (Tryz.prog.globals[k]?).map (·.type) = some 126) : ∃ ev, W.cell? ⟨k, 0, none⟩ = some ev ∧ (ev = .nilIface ∨ ∃ te pe, ev = .iface te pe) := by
  obtain ⟨g0, t0, cs0, f0, p0, hg0, ht0, hv0, hd0⟩ := h
  obtain rfl := Option.some.inj (hg.symm.trans hg0)
  obtain rfl := Option.some.inj (ht.symm.trans ht0)
  obtain ⟨f', u, v, hcs, _, _⟩ := iface_of_trod Tryz.underlying126 hd0
  have q := World.var?_cell hg0 hv0 0
  refine ⟨.iface u v, ?_, .inr ⟨u, v, rfl⟩⟩
  rw [q, ← Array.getElem?_toList, hcs]
  rfl
theorem pow_met {W : World} (h : laidMet Tryz.prog [("internal/strconv.uint64pow10", Rows.laid_internal_strconv_uint64pow10)] W) : Pow W := by
  have e : (Rows.laid_internal_strconv_uint64pow10 : DataW Unit) = Lib.tabData .u64 Lib.pow10Tab := by kernel_rfl
  rw [e] at h
  exact Lib.tabIs_of_head (rest := []) (g := 2) (t := 168) (e := 79) (n := 20) (by kernel_rfl) (by kernel_rfl) Tryz.underlying168 Tryz.underlying79 (by kernel_rfl) (by kernel_rfl) h
/-- What the rows lay. -/
def laidL : List (String × DataW Unit) := [("math/bits.deBruijn32tab", Rows.laid_math_bits_deBruijn32tab), ("math/bits.deBruijn64tab", Rows.laid_math_bits_deBruijn64tab), ("internal/strconv.uint64pow10", Rows.laid_internal_strconv_uint64pow10), ("unicode/utf8.acceptRanges", Rows.laid_unicode_utf8_acceptRanges), ("strconv.ErrRange", Rows.laid_strconv_ErrRange), ("strconv.ErrSyntax", Rows.laid_strconv_ErrSyntax), ("arbor/value.types", Rows.laid_arbor_value_types), ("unicode/utf8.first", Rows.laid_unicode_utf8_first)]
theorem env_met {W : World} (h : laidMetH Tryz.prog laidL W) (hsh : W.ShapedOpen Tryz.prog) : Env W := by
  have hpow := h.filter (fun x => x.1 == "internal/strconv.uint64pow10")
  rw [show laidL.filter (fun x => x.1 == "internal/strconv.uint64pow10") = [("internal/strconv.uint64pow10", Rows.laid_internal_strconv_uint64pow10)] by rfl, MakeChecks.laidMetH_plain _ _ _ (by kernel_rfl)] at hpow
  rw [MakeChecks.laidMetH_plain _ _ _ (by kernel_rfl)] at h
  have r := fun n d (hm : (n, d) ∈ laidL) => Lib.laidMet.reads h hm
  exact ⟨types_met (r _ _ (by simp [laidL])), pow_met hpow, Tryz.laysM145.s1_3 W hsh, tabs_met (r _ _ (by simp [laidL])) (r _ _ (by simp [laidL])),
    err_met (r "strconv.ErrSyntax" _ (by simp [laidL]; rfl)) (by kernel_rfl) (by kernel_rfl), err_met (r "strconv.ErrRange" _ (by simp [laidL]; rfl)) (by kernel_rfl) (by kernel_rfl)⟩
end Go.Proofs.YtklkhegeeglfbaaGreatDoor
namespace Go.Proofs.YtklkhegeeglfbaaGreatDoor
open Go.RowKit Go.Maps

theorem own_geO {w : World} {B e size n : Nat} {v : Value} {xs : List Value} (h : w.ownsRow B e size v n xs) {k : Nat} (hk : v.ownBlock = some k) : B ≤ k := by
  rcases h.2 with ⟨hv, _⟩ | ⟨g, cap, cur, hv, hb, hg, rest⟩
  · rw [hv] at hk; cases hk
  · rw [hv] at hk
    simp [Value.ownBlock] at hk
    subst hk
    exact hb
theorem ownsRow_low {w : World} {B C e size n : Nat} {v : Value} {xs : List Value} (h : w.ownsRow B e size v n xs) (hC : C ≤ B) : w.ownsRow C e size v n xs :=
  ⟨h.1, h.2.imp id fun ⟨g, cap, cur, a1, a2, a3⟩ => ⟨g, cap, cur, a1, Nat.le_trans hC a2, a3⟩⟩
theorem own_lt {w : World} {B e z n : Nat} {v : Value} {xs : List Value} (h : w.ownsRow B e z v n xs) {k : Nat} (hk : v.ownBlock = some k) : k < w.heap.size := by
  rcases h.2 with ⟨rfl, _⟩ | ⟨g, cap, cur, rfl, _, hg, _⟩
  · cases hk
  · simp [Value.ownBlock] at hk
    subst hk
    exact lt_of_block hg
theorem own_typed {w : World} {B e z n : Nat} {v : Value} {xs : List Value} (h : w.ownsRow B e z v n xs) {k : Nat} (hk : v.ownBlock = some k) : B ≤ k ∧ ∃ c, w.heap[k]? = some (.cells c e (0, 0)) := by
  rcases h.2 with ⟨rfl, _⟩ | ⟨g, cap, cur, rfl, hb, hg, _⟩
  · cases hk
  · simp [Value.ownBlock] at hk
    subst hk
    exact ⟨hb, cur, hg⟩
theorem own_apart {w : World} {B e size n : Nat} {v : Value} {xs : List Value} {B' e' size' n' : Nat} {v' : Value} {xs' : List Value} (h : w.ownsRow B e size v n xs) (h' : w.ownsRow B' e' size' v' n' xs') (he : e ≠ e') (k : Nat) (hk : v.ownBlock = some k) (hk' : v'.ownBlock = some k) : False := by
  rcases h.2 with ⟨rfl, _⟩ | ⟨g, cap, cur, rfl, _, hg, _⟩
  · cases hk
  · rcases h'.2 with ⟨rfl, _⟩ | ⟨g', cap', cur', rfl, _, hg', _⟩
    · cases hk'
    · simp [Value.ownBlock] at hk hk'
      subst hk
      subst hk'
      rw [hg] at hg'
      simp only [Option.some.injEq, Obj.cells.injEq] at hg'
      exact he hg'.2.1
/-- append onto a row of one's own: in place, or into a new block with all old blocks as they were. -/
theorem append_two {P : Program} (w : World) {ops : Array Oper} {rest : List Oper} {o : Oper} {a : Act} {Q : Exit → Act → World → Prop} (hgd : o.guard = none) (s x : Operand) (t : TypeId)
    (ho : o.op = .call { callee := .builtin .append, args := #[s, x], argTypes := #[t, t] })
    (base : Nat) (e : TypeId) (i : TypeInfo) (z : Value) (size bytes : Nat) (ht : P.underlying t = some (.slice e)) (hi : P.info? e = some i) (hz : i.zero = some z)
    (hsize : i.size = size) (hby : i.bytes = bytes) (hzs : z.cells.size = size) (hsz : 0 < size)
    (v : Value) (n : Nat) (xs : List Value) (hs : a.eval s = v) (hown : w.ownsRow base e size v n xs)
    (ad : Addr) (m c : Nat) (news : List Value) (hx : a.eval x = .slice (some ad) m c) (hl : news.length = m * size) (hnews : ∀ j u, news[j]? = some u → w.cell? (ad.add j) = some u) (h1 : ∀ u ∈ news, u.oneCell' = true)
    (hm : 0 < m) (h63 : n + m ≤ maxLen) (hbytes : (n + m) * bytes ≤ 140737488355328) (hbase : base ≤ w.heap.size)
    (h : ∀ g cap w', w'.ownsRow base e size (.slice (some ⟨g, 0, none⟩) (n + m) cap) (n + m) (xs ++ news) → ((v = .slice (some ⟨g, 0, none⟩) n cap ∧ w.grownBy w' (some g)) ∨ (w.heap.size ≤ g ∧ w.grownBy w' none)) → wpList P ops Q rest (a.put o.dst (.slice (some ⟨g, 0, none⟩) (n + m) cap)) w') : wpList P ops Q (o :: rest) a w := by
  have grows : ∀ v' w', w'.ownsRow w.heap.size e size v' (n + m) (xs ++ news) → w.grownBy w' none → wpList P ops Q rest (a.put o.dst v') w' := by
    intro v' w' h2 h3
    obtain ⟨g, cap, rfl, hg, hlt⟩ := h2.form (by omega)
    exact h g cap w' (ownsRow_low h2 hbase) (Or.inr ⟨hg, h3⟩)
  rcases hown.2 with ⟨rfl, rfl⟩ | ⟨g, cap, cur, rfl, hbg, hg, hnc, hcm, hcs, htake⟩
  · have hx0 : xs = [] := List.eq_nil_of_length_eq_zero (by simpa using hown.1)
    subst hx0
    exact wpList_append_grows w hgd s x t ho e i z size bytes ht hi hz hsize hby hzs hsz none 0 0 [] hs (fun _ => ⟨rfl, rfl⟩) (by simp) (fun _ h => by cases h) ad m c news hx hl hnews h1 (by omega) h63 hbytes grows
  · by_cases hroom : n + m ≤ cap
    · refine wpList_append_own_spare w hgd s x t ho base e i size ht hi hsize g n cap xs hs hown ad m c news hx hl hnews h1 hroom (fun w' h2 h3 => ?_)
      exact h g cap w' h2 (Or.inl ⟨rfl, h3⟩)
    · refine wpList_append_grows w hgd s x t ho e i z size bytes ht hi hz hsize hby hzs hsz (some ⟨g, 0, none⟩) n cap xs hs (fun h => by cases h) hown.1 (fun b hb j u hu => ?_) ad m c news hx hl hnews h1 (by omega) h63 hbytes grows
      cases hb
      have hadd : (⟨g, 0, none⟩ : Addr).add j = ⟨g, j, none⟩ := by unfold Addr.add; split <;> simp_all
      rw [hadd, cell_of_row w g j cur e (0, 0) hg]
      rw [← htake] at hu
      rw [List.getElem?_take] at hu
      split at hu
      · simpa using hu
      · cases hu
/-- A shorter row at the head of a row, in the same block with the same room. -/
theorem own_head {w : World} {B e z n m g cap : Nat} {xs ys : List Value} (h : w.ownsRow B e z (.slice (some ⟨g, 0, none⟩) m cap) m (xs ++ ys)) (hn : xs.length = n * z) (hz : 0 < z) : w.ownsRow B e z (.slice (some ⟨g, 0, none⟩) n cap) n xs := by
  refine ⟨hn, Or.inr ?_⟩
  rcases h.2 with ⟨h0, _⟩ | ⟨g', cap', cur, hv, hbg, hg, hnc, hcm, hcs, htake⟩
  · cases h0
  · cases hv
    have hl := h.1
    rw [List.length_append, hn] at hl
    have hnm : n ≤ m := Nat.le_of_mul_le_mul_right (by omega : n * z ≤ m * z) hz
    refine ⟨g, cap, cur, rfl, hbg, hg, by omega, hcm, hcs, ?_⟩
    have : (cur.toList.take (m * z)).take (n * z) = xs := by rw [htake, ← hn]; exact List.take_left
    rwa [List.take_take, Nat.min_eq_left (by omega)] at this
theorem same_cap {w : World} {B C e z n m g c d : Nat} {xs ys : List Value} (h : w.ownsRow B e z (.slice (some ⟨g, 0, none⟩) n c) n xs) (h' : w.ownsRow C e z (.slice (some ⟨g, 0, none⟩) m d) m ys) (hz : 0 < z) : c = d := by
  rcases h.2 with ⟨h0, _⟩ | ⟨g', cap', cur, hv, _, hg, _, _, hcs, _⟩
  · cases h0
  · rcases h'.2 with ⟨h0, _⟩ | ⟨g2, cap2, cur2, hv2, _, hg2, _, _, hcs2, _⟩
    · cases h0
    · cases hv
      cases hv2
      rw [hg] at hg2
      simp only [Option.some.injEq, Obj.cells.injEq] at hg2
      obtain ⟨rfl, _⟩ := hg2
      exact Nat.eq_of_mul_eq_mul_right hz (hcs.symm.trans hcs2)
/-- A row, and a longer one that was grown out of it: the row stays while the longer one grows on. -/
theorem both_grow {w w' : World} {B C e z n m k g cap : Nat} {vx vm : Value} {xs ys zs : List Value} (hx : w.ownsRow B e z vx n xs) (hm : w.ownsRow C e z vm m (xs ++ ys)) (hz : 0 < z)
    (h' : w'.ownsRow C e z (.slice (some ⟨g, 0, none⟩) k cap) k (xs ++ ys ++ zs)) (hc : (vm = .slice (some ⟨g, 0, none⟩) m cap ∧ w.grownBy w' (some g)) ∨ (w.heap.size ≤ g ∧ w.grownBy w' none)) : w'.ownsRow B e z vx n xs := by
  rcases hc with ⟨rfl, hg⟩ | ⟨_, hg⟩
  · by_cases hb : vx.ownBlock = some g
    · have hb2 := own_geO hx hb
      rcases hx.2 with ⟨rfl, _⟩ | ⟨g1, c1, cur1, rfl, h1, h2, _⟩
      · cases hb
      · simp [Value.ownBlock] at hb
        subst hb
        obtain rfl := same_cap hx hm hz
        have hx1 := hx.1
        rw [List.append_assoc] at h'
        have := own_head h' hx1 hz
        exact ⟨this.1, this.2.imp id fun ⟨g, cap, cur, a1, a2, a3⟩ => ⟨g, cap, cur, a1, by simp only [Value.slice.injEq, Option.some.injEq, Addr.mk.injEq] at a1; omega, a3⟩⟩
    · exact ownsRow_kept hx ((Keeps.refl (fun q => q = g) w).grown hg (fun q e _ => by simpa using e.symm)) (fun q e e2 => hb (by rw [e, e2]))
  · exact ownsRow_kept hx ((Keeps.refl (fun _ => False) w).grown hg (fun q e _ => by cases e)) (fun _ _ => id)
theorem own_some {w : World} {B e z n m c : Nat} {o : Option Addr} {xs : List Value} (h : w.ownsRow B e z (.slice o n c) m xs) (hn : 0 < n) : ∃ g, o = some ⟨g, 0, none⟩ ∧ n ≤ c := by
  rcases h.2 with ⟨h0, _⟩ | ⟨g, cap, cur, hv, _, _, hnc, _⟩
  · simp only [Value.slice.injEq] at h0; omega
  · simp only [Value.slice.injEq] at hv
    obtain ⟨rfl, rfl, rfl⟩ := hv
    exact ⟨g, rfl, hnc⟩
theorem grow_keeps {w w' : World} {v : Value} {g n cap H : Nat} (hc : (v = .slice (some ⟨g, 0, none⟩) n cap ∧ w.grownBy w' (some g)) ∨ (H ≤ g ∧ w.grownBy w' none)) : Keeps (fun q => v.ownBlock = some q) w w' := by
  rcases hc with ⟨rfl, h⟩ | ⟨_, h⟩
  · exact (Keeps.refl _ _).grown h (fun q e _ => by simpa [Value.ownBlock] using e)
  · exact (Keeps.refl _ _).grown h (fun q e _ => by cases e)
theorem narrowO {F : Nat → Prop} {a b c : World} (h : Keeps (fun _ => False) a b) (k : Keeps F b c) (hF : ∀ i, F i → a.heap.size ≤ i) : Keeps (fun _ => False) a c :=
  ⟨k.os.trans h.os, k.tape.trans h.tape, k.output.trans h.output, Nat.le_trans h.size k.size, fun i hi _ => (k.block i (Nat.lt_of_lt_of_le hi h.size) (fun e => by have := hF i e; omega)).trans (h.block i hi id)⟩
/-- A struct in a box and a slot, handed back. -/
theorem results_cr {P : Program} {fn : Func} {p q : Tmp} {ty : TypeId} (h : fn.results = #[.cell p ty, .tmp q]) (tmps : Array Value) (w : World) (g : Nat) (t : TypeId) (cs : Array Value) (fr : Nat × Nat) (d : TypeDesc) (v : Value)
    (hp : tmps.getD p undef = .pointer (some ⟨g, 0, none⟩)) (hq : tmps.getD q undef = v) (hg : w.heap[g]? = some (.cells cs t fr))
    (hu : P.underlying ty = some d) (hd : (match d with | .struct _ | .array _ _ => true | _ => false) = true) (hi : (P.info? ty).map (·.size) = some cs.size) :
    (results fn tmps).run P w = .ok (.tuple #[.agg cs, v]) w := by
  have hp' : tmps[p]?.getD undef = .pointer (some ⟨g, 0, none⟩) := by simpa using hp
  have hq' : tmps[q]?.getD undef = v := by simpa using hq
  simp [results, h, hp', hq', asAddr, run_loadVar_row w g t ty cs fr d hg hu hd hi]
/-- A list whose first items are written over. -/
def overL {α : Type} (l : List α) (c : α) (k : Nat) : List α := List.replicate k c ++ l.drop k
theorem overL_zero {α : Type} (l : List α) (c : α) : overL l c 0 = l := by simp [overL]
theorem overL_len {α : Type} {l : List α} {c : α} {k : Nat} (h : k ≤ l.length) : (overL l c k).length = l.length := by simp [overL]; omega
theorem overL_end {α : Type} (l : List α) (c : α) : overL l c l.length = List.replicate l.length c := by simp [overL]
theorem overL_set {α : Type} {l : List α} {c : α} {k : Nat} (h : k < l.length) : (overL l c k).set k c = overL l c (k + 1) := by
  unfold overL
  rw [List.set_append_right _ _ (by simp), List.replicate_succ', List.append_assoc]
  congr 1
  rw [List.length_replicate, Nat.sub_self, List.drop_eq_getElem_cons h]
  rfl
end Go.Proofs.YtklkhegeeglfbaaGreatDoor
