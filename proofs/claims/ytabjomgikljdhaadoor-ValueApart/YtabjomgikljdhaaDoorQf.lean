import Derived.Test.YtabjomgikljdhaaDoorQc
import Derived.Test.YtabjomgikljdhaaDoorPf
import Derived.Test.YtabjomgikljdhaaDoorNv
namespace Go.Proofs.YtabjomgikljdhaaDoor
open Go.RowKit Go.Maps

/-- The inside of a record's text, with its end. -/
def joinT : Bool → List Txt → Txt
  | _, [] => [125]
  | first, a :: r => (if first then [] else [44]) ++ (a ++ joinT false r)
theorem joinT_false : ∀ r : List Txt, joinT false r = r.flatMap (fun x => 44 :: x) ++ [125]
  | [] => rfl
  | a :: r => by simp [joinT, joinT_false r]
theorem joinT_true (L : List Txt) : joinT true L = joinB L ++ [125] := by
  cases L with
  | nil => rfl
  | cons a r => simp [joinT, joinT_false, joinB]

theorem cut_at {c : UInt8} : ∀ {a b A B : Txt}, (∀ x ∈ a, x ≠ c) → (∀ x ∈ b, x ≠ c) → a ++ c :: A = b ++ c :: B → a = b ∧ A = B
  | [], [], A, B, _, _, h => ⟨rfl, by simpa using h⟩
  | [], y :: b, A, B, _, hb, h => by
    simp only [List.nil_append, List.cons_append, List.cons.injEq] at h
    exact absurd h.1.symm (hb y (by simp))
  | x :: a, [], A, B, ha, _, h => by
    simp only [List.nil_append, List.cons_append, List.cons.injEq] at h
    exact absurd h.1 (ha x (by simp))
  | x :: a, y :: b, A, B, ha, hb, h => by
    simp only [List.cons_append, List.cons.injEq] at h
    obtain ⟨h1, h2⟩ := cut_at (fun z hz => ha z (List.mem_cons_of_mem _ hz)) (fun z hz => hb z (List.mem_cons_of_mem _ hz)) h.2
    exact ⟨by rw [h.1, h1], h2⟩
def StopT (A : Txt) : Prop := ∃ c A', A = c :: A' ∧ (c = 44 ∨ c = 125)
theorem cut_tail : ∀ {a b A B : Txt}, (∀ x ∈ a, x ≠ 44 ∧ x ≠ 125) → (∀ x ∈ b, x ≠ 44 ∧ x ≠ 125) → StopT A → StopT B → a ++ A = b ++ B → a = b ∧ A = B
  | [], [], A, B, _, _, _, _, h => ⟨rfl, by simpa using h⟩
  | [], y :: b, A, B, _, hb, ⟨c, A', hA, hc⟩, _, h => by
    rw [hA] at h
    simp only [List.nil_append, List.cons_append, List.cons.injEq] at h
    have := hb y (by simp)
    rw [← h.1] at this
    rcases hc with rfl | rfl <;> simp at this
  | x :: a, [], A, B, ha, _, _, ⟨c, B', hB, hc⟩, h => by
    rw [hB] at h
    simp only [List.nil_append, List.cons_append, List.cons.injEq] at h
    have := ha x (by simp)
    rw [h.1] at this
    rcases hc with rfl | rfl <;> simp at this
  | x :: a, y :: b, A, B, ha, hb, hA, hB, h => by
    simp only [List.cons_append, List.cons.injEq] at h
    obtain ⟨h1, h2⟩ := cut_tail (fun z hz => ha z (List.mem_cons_of_mem _ hz)) (fun z hz => hb z (List.mem_cons_of_mem _ hz)) hA hB h.2
    exact ⟨by rw [h.1, h1], h2⟩
theorem joinT_stop (L : List Txt) : StopT (joinT false L) := by
  cases L with
  | nil => exact ⟨125, [], rfl, .inr rfl⟩
  | cons a r => exact ⟨44, a ++ joinT false r, rfl, .inl rfl⟩

theorem dec_char : ∀ d : Fin 10, UInt8.ofNat (48 + d.val) ≠ 44 ∧ UInt8.ofNat (48 + d.val) ≠ 125 := by decide +kernel
theorem decN_chars (u : Nat) : ∀ x ∈ decN u, x ≠ 44 ∧ x ≠ 125 := by
  induction u using Nat.strongRecOn with
  | ind u ih =>
    by_cases h : u = 0
    · subst h; rw [decN_zero]; simp
    · rw [decN_pos (by omega)]
      intro x hx
      rcases List.mem_append.1 hx with h1 | h1
      · exact ih (u / 10) (by omega) x h1
      · simp only [List.mem_singleton] at h1
        subst h1
        exact dec_char ⟨u % 10, by omega⟩
theorem decimal_chars (n : Int) : ∀ x ∈ decimal n, x ≠ 44 ∧ x ≠ 125 := by
  unfold decimal
  split
  · simp
  · split
    · intro x hx
      rcases List.mem_cons.1 hx with rfl | h
      · simp
      · exact decN_chars _ x h
    · exact decN_chars _

/-- The first byte that a literal's inside means, and what is behind it. -/
def unq1 (T : Txt) : Option (UInt8 × Txt) :=
  match T with
  | [] => none
  | y :: R => if y = 92 then (match R with
    | [] => none
    | z :: R2 => if z = 120 then (match R2 with
      | h :: k :: R3 => some (UInt8.ofNat (16 * (hexB (num h)).toNat + (hexB (num k)).toNat), R3)
      | _ => none) else some (z, R2)) else some (y, R)
theorem hexB_hexD : ∀ n : Fin 16, (hexB (num (hexD n.val))).toNat = n.val := by decide +kernel
theorem unq1_quote1 (c : UInt8) (X : Txt) : unq1 (quote1 c ++ X) = some (c, X) := by
  by_cases hesc : c = 34 ∨ c = 92
  · rw [show quote1 c = [92, c] by unfold quote1; rw [if_pos hesc]]
    have : c ≠ 120 := by rcases hesc with rfl | rfl <;> simp
    simp [unq1, this]
  · by_cases hpl : 32 ≤ c.toNat ∧ c.toNat ≤ 126
    · rw [show quote1 c = [c] by unfold quote1; rw [if_neg hesc, if_pos hpl]]
      have : c ≠ 92 := fun e => hesc (.inr e)
      simp [unq1, this]
    · rw [show quote1 c = [92, 120, hexD (c.toNat / 16), hexD (c.toNat % 16)] by unfold quote1; rw [if_neg hesc, if_neg hpl]]
      have hcl := c.toNat_lt
      have h1 := hexB_hexD ⟨c.toNat / 16, by omega⟩
      have h2 := hexB_hexD ⟨c.toNat % 16, by omega⟩
      simp only at h1 h2
      simp only [unq1, List.cons_append, List.nil_append, if_true, h1, h2]
      rw [show 16 * (c.toNat / 16) + c.toNat % 16 = c.toNat by omega]
      simp
theorem quoted_cut : ∀ {s t A B : Txt}, s.flatMap quote1 ++ 34 :: A = t.flatMap quote1 ++ 34 :: B → s = t ∧ A = B
  | [], [], A, B, h => ⟨rfl, by simpa using h⟩
  | [], d :: t, A, B, h => by
    obtain ⟨y, z, hyz, hy⟩ := quote1_head d
    rw [List.flatMap_cons, hyz] at h
    simp only [List.flatMap_nil, List.nil_append, List.cons_append, List.cons.injEq] at h
    rw [← h.1] at hy
    simp [num] at hy
  | c :: s, [], A, B, h => by
    obtain ⟨y, z, hyz, hy⟩ := quote1_head c
    rw [List.flatMap_cons, hyz] at h
    simp only [List.flatMap_nil, List.nil_append, List.cons_append, List.cons.injEq] at h
    rw [h.1] at hy
    simp [num] at hy
  | c :: s, d :: t, A, B, h => by
    rw [List.flatMap_cons, List.flatMap_cons, List.append_assoc, List.append_assoc] at h
    have h1 := congrArg unq1 h
    rw [unq1_quote1, unq1_quote1] at h1
    simp only [Option.some.injEq, Prod.mk.injEq] at h1
    obtain ⟨h2, h3⟩ := quoted_cut h1.2
    exact ⟨by rw [h1.1, h2], h3⟩
theorem quoteB_cut {s t A B : Txt} (h : quoteB s ++ A = quoteB t ++ B) : s = t ∧ A = B := by
  unfold quoteB at h
  simp only [List.cons_append, List.append_assoc, List.nil_append, List.cons.injEq, true_and] at h
  exact quoted_cut h
end Go.Proofs.YtabjomgikljdhaaDoor
