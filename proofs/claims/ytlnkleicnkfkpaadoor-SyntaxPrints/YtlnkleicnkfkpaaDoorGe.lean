import Derived.Test.YtlnkleicnkfkpaaDoorGd
namespace Go.Proofs.YtlnkleicnkfkpaaDoor
open Go.RowKit Go.Maps

theorem decN_len : ∀ (k u : Nat), u < 10 ^ k → (decN u).length ≤ k
  | 0, u, h => by
    obtain rfl : u = 0 := by simpa using h
    unfold decN
    simp
  | k + 1, u, h => by
    unfold decN
    by_cases h0 : u = 0
    · rw [dif_pos h0]; simp
    · rw [dif_neg h0]
      have := decN_len k (u / 10) (by rw [Nat.pow_succ] at h; omega)
      simp
      omega
theorem decimal_len (n : Int) (h0 : -9223372036854775808 ≤ n) (h1 : n ≤ 9223372036854775807) : (decimal n).length ≤ 21 := by
  have h := decN_len 19 n.natAbs (by have : (10 : Nat) ^ 19 = 10000000000000000000 := by decide
                                     omega)
  unfold decimal
  split
  · simp
  · split
    · simp; omega
    · omega
theorem quote1_le (c : UInt8) : (quote1 c).length ≤ 4 := by
  unfold quote1
  (repeat' split) <;> simp
theorem quote_len (t : Txt) : (quoteB t).length ≤ 2 + 4 * t.length := by
  have h : ∀ l : Txt, (l.flatMap quote1).length ≤ 4 * l.length := by
    intro l
    induction l with
    | nil => simp
    | cons c r ih => have := quote1_le c; simp at ih ⊢; omega
  have := h t
  unfold quoteB
  simp at this ⊢
  omega
theorem nameB_len (s : Txt) (h : nameB s = true) : s.length ≤ 8 := by
  rcases Nat.lt_or_ge 8 s.length with h8 | h8
  · rw [nameB_no s (Or.inr (Or.inl h8))] at h; cases h
  · exact h8
theorem leaf_len (op n : Int) (s : Txt) (h : leafB op n s = true) : s.length ≤ 20 := by
  unfold leafB at h
  split at h
  · simp at h; simp [h]
  · split at h
    · simp at h; simp [h.1]
    · split at h
      · simp at h; exact h.2
      · split at h
        · simp at h; have := nameB_len s h.2; omega
        · simp at h; simp [h.2]
theorem root_parts {op n : Int} {s : Txt} {k : Nat} (h : rootB op n s k = true) : 0 ≤ kidsB op ∧ (k : Int) = kidsB op ∧ leafB op n s = true := by
  unfold rootB at h
  simp at h
  exact ⟨h.1, h.2.1, h.2.2⟩
theorem simple_len (op n : Int) (s : Txt) (h0 : -9223372036854775808 ≤ n) (h1 : n ≤ 9223372036854775807) (hs : s.length ≤ 20) : (simpleT op n s).length ≤ 100 := by
  have hd := decimal_len n h0 h1
  have hq := quote_len s
  unfold simpleT
  (repeat' split) <;> simp <;> omega
theorem at_le (k : Kid) (want : Int) : (atT k want).length ≤ k.2.2.length + 2 := by
  unfold atT
  split <;> simp
theorem commas_le : ∀ l : List Kid, (commas (l.map fun k => k.2.2)).length ≤ (l.map fun k => k.2.2.length + 2).sum
  | [] => by simp [commas]
  | [k] => by simp [commas]
  | k :: u :: r => by
    have := commas_le (u :: r)
    simp only [List.map_cons, commas, List.length_append, List.sum_cons, List.length_cons, List.length_nil] at this ⊢
    omega
theorem between_marks : ∀ b ∈ betweens, b.2.1.length ≤ 3 := by decide
theorem call_marks : ∀ c ∈ callsT, c.2.length ≤ 4 := by decide
theorem call_len (l : List Kid) (wd : Txt) (h : wd.length ≤ 4) : (wd ++ ([40] : Txt) ++ commas (l.map fun (k : Kid) => k.2.2) ++ ([41] : Txt)).length ≤ 150 + (l.map fun (k : Kid) => k.2.2.length + 2).sum := by
  have := commas_le l
  simp only [List.length_append, List.length_cons, List.length_nil]
  omega
theorem node_len (op n : Int) (s : Txt) (ks : List Kid) (h0 : -9223372036854775808 ≤ n) (h1 : n ≤ 9223372036854775807) (hs : s.length ≤ 20) : (nodeT op n s ks).length ≤ 150 + (ks.map fun k => k.2.2.length + 2).sum := by
  unfold nodeT
  split
  · rename_i m l r k0 k1 tl heq
    have hm := between_marks _ (List.mem_of_find?_eq_some heq)
    have a0 := at_le k0 l
    have a1 := at_le k1 r
    simp only [List.length_append, List.map_cons, List.sum_cons, List.length_cons, List.length_nil] at hm ⊢
    omega
  · simp
  · rename_i wd heq
    have hm := call_marks _ (List.mem_of_find?_eq_some heq)
    exact call_len _ _ hm
  · have hsim := simple_len op n s h0 h1 hs
    split
    · split
      · rename_i k0 _
        have a0 := at_le k0 3
        simp only [List.length_append, List.map_cons, List.sum_cons, List.length_cons, List.length_nil]
        omega
      · simp
    · split
      · split
        · rename_i k0 _
          have a0 := at_le k0 8
          split
          · simp only [List.length_append, List.map_cons, List.sum_cons, List.length_cons, List.length_nil]
            omega
          · simp only [List.length_append, List.map_cons, List.sum_cons, List.length_cons, List.length_nil]
            omega
        · simp
      · omega
theorem sum_tl : ∀ l : EL, ((txs l).map fun k => k.2.2.length + 2).sum ≤ tl l
  | .nil => by simp [txs, tl]
  | .cons op n s k r => by
    have := sum_tl r
    simp only [txs, List.map_cons, List.sum_cons, tl, textE]
    omega
theorem tl_le : ∀ l : EL, wellE l = true → intE l → tl l ≤ 300 * l.size
  | .nil, _, _ => by simp [tl]
  | .cons op n s k r, h, hi => by
    simp only [wellE, Bool.and_eq_true] at h
    obtain ⟨h1, h2, h3⟩ := h
    obtain ⟨⟨i0, i1⟩, i2, i3⟩ := hi
    have a := tl_le k h2 i2
    have b := tl_le r h3 i3
    have c := node_len op n s (txs k) i0 i1 (leaf_len op n s (root_parts h1).2.2)
    have d := sum_tl k
    simp only [tl, textE, EL.size]
    omega
end Go.Proofs.YtlnkleicnkfkpaaDoor
