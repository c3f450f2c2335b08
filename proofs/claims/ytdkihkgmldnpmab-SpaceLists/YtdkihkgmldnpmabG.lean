import Derived.Test.YtdkihkgmldnpmabF
namespace Go.Proofs.Ytdkihkgmldnpmab
open Go.RowKit Go.Maps

set_option maxRecDepth 100000 in
set_option maxHeartbeats 1000000 in
theorem eqInts_any (w : World) (va vb : Value) (la lb : List Int) (ha : Cells w va (is la)) (hb : Cells w vb (is lb)) (hla : la.length ≤ maxLen) :
    Calls Try.prog 16 #[va, vb] w fun e w' => e = .returned (.bool (decide (la = lb))) ∧ ∃ n, w' = w.drewN n := by
  obtain ⟨ao, capa, rfl⟩ := ha.form
  obtain ⟨bo, capb, rfl⟩ := hb.form
  unfold maxLen at hla
  simp only [is_length] at *
  by_cases hlen : la.length = lb.length
  · have hne : ((la.length : Int) != (lb.length : Int)) = false := by simp [hlen]
    have HA := hide ha
    have HB := hide hb
    have HL := hide hlen
    clear ha hb hlen
    go_enter Try.func16, Try.ntmps16
    go_wp2
    go_loopw [5] (fun i wr => ∃ k : Nat, k ≤ la.length ∧ i = .int .i64 k ∧ la.take k = lb.take k ∧ ∃ n, wr = w.drewN n) (fun i _ => la.length - (intOf i).toNat)
    case atStart => exact ⟨0, Nat.zero_le _, rfl, rfl, 0, rfl⟩
    case round =>
      obtain ⟨k, hk, rfl, htk, n, rfl⟩ := hrel
      have HT := hide htk
      clear htk
      by_cases hlt : k < la.length
      · have hltb : k < lb.length := by have := unhide HL; omega
        obtain ⟨b1, o1, c1, e1, _, hc1⟩ := (unhide HA).cells (by rw [is_length]; omega)
        obtain ⟨b2, o2, c2, e2, _, hc2⟩ := (unhide HB).cells (by rw [is_length]; omega)
        simp [is_length] at e1 e2
        obtain ⟨rfl, rfl⟩ := e1
        obtain ⟨rfl, rfl⟩ := e2
        have q1 := hc1 k (.int .i64 la[k]) (by rw [is_get, List.getElem?_eq_getElem hlt]; rfl)
        have q2 := hc2 k (.int .i64 lb[k]) (by rw [is_get, List.getElem?_eq_getElem hltb]; rfl)
        have i1 : (k : Int) < (la.length : Int) := by omega
        have i2 : (k : Int) < (lb.length : Int) := by omega
        have HX := hide (show la[k]? = some la[k] from List.getElem?_eq_getElem hlt)
        have HY := hide (show lb[k]? = some lb[k] from List.getElem?_eq_getElem hltb)
        generalize la[k] = x at q1 HX
        generalize lb[k] = y at q2 HY
        clear hc1 hc2
        go_wp2_with fail
        go_quiet (fail)
        by_cases hxy : x = y
        · subst hxy
          go_wp2
          go_roundw
          case rel => exact ⟨k + 1, by omega, by go_num, take_succ_eq (unhide HT) (unhide HX) (unhide HY), _, rfl⟩
          case measure => simp [intOf]; omega
        · have hb' : (x != y) = true := by rw [bne_iff_ne]; exact hxy
          have HN := hide hxy
          clear hxy
          go_wp2
          go_ret
          refine ⟨ret_bool ?_, n + nq, by simp⟩
          symm
          rw [decide_eq_false_iff_not]
          intro e
          have h1 := unhide HX
          have h2 := unhide HY
          rw [e, h2] at h1
          exact unhide HN (by simpa using h1.symm)
      · have HF := hide (show la = lb by
          have h1 := unhide HT
          rw [List.take_of_length_le (by omega), List.take_of_length_le (by have := unhide HL; omega)] at h1
          exact h1)
        go_wp2
        go_ret
        exact ⟨ret_bool (by symm; rw [decide_eq_true_iff]; exact unhide HF), _, rfl⟩
  · have hne : ((la.length : Int) != (lb.length : Int)) = true := by rw [bne_iff_ne]; omega
    have HL := hide hlen
    clear hlen
    go_enter Try.func16, Try.ntmps16
    go_wp2
    go_ret
    exact ⟨ret_bool (by symm; rw [decide_eq_false_iff_not]; intro e; exact unhide HL (by rw [e])), 0, rfl⟩


/-- The numbers below k that have p, as ints. -/
def numsTo (p : Nat → Bool) (k : Nat) : List Int := ((List.range k).filter p).map (fun (i : Nat) => (i : Int))
theorem numsTo_succ (p : Nat → Bool) (k : Nat) : numsTo p (k + 1) = numsTo p k ++ (if p k then [(k : Int)] else []) := by
  unfold numsTo
  rw [List.range_succ, List.filter_append]
  cases h : p k <;> simp [h]
theorem numsTo_le (p : Nat → Bool) (k : Nat) : (numsTo p k).length ≤ k := by
  unfold numsTo
  have := List.length_filter_le p (List.range k)
  simp at *
  omega
theorem numsTo_mem {p : Nat → Bool} {k : Nat} {x : Int} (h : x ∈ numsTo p k) : ∃ i : Nat, x = i ∧ i < k ∧ p i = true := by
  simp only [numsTo, List.mem_map, List.mem_filter, List.mem_range] at h
  obtain ⟨i, ⟨h1, h2⟩, rfl⟩ := h
  exact ⟨i, rfl, h1, h2⟩
theorem numsTo_cut (p : Nat → Bool) (n : Nat) : ∀ d, (∀ i, n ≤ i → i < n + d → p i = false) → numsTo p (n + d) = numsTo p n
  | 0, _ => rfl
  | d + 1, h => by
    rw [show n + (d + 1) = (n + d) + 1 by omega, numsTo_succ, h (n + d) (by omega) (by omega), numsTo_cut p n d (fun i h1 h2 => h i h1 (by omega))]
    simp
theorem numsTo_congr {p q : Nat → Bool} {n : Nat} (h : ∀ i, i < n → p i = q i) : numsTo p n = numsTo q n := by
  unfold numsTo
  congr 1
  apply List.filter_congr
  intro i hi
  exact h i (List.mem_range.1 hi)
/-- The last of them is the greatest. -/
theorem numsTo_last (p : Nat → Bool) : ∀ k i, i < k → p i = true → ∃ j : Nat, 0 < (numsTo p k).length ∧ (numsTo p k)[(numsTo p k).length - 1]? = some (j : Int) ∧ i ≤ j
  | 0, i, h, _ => by omega
  | k + 1, i, h, hp => by
    rw [numsTo_succ]
    cases hk : p k with
    | true => exact ⟨k, by simp, by simp, by omega⟩
    | false =>
      have hi : i < k := by
        by_cases e : i = k
        · subst e; rw [hp] at hk; cases hk
        · omega
      simpa using numsTo_last p k i hi hp

theorem usedTo_nums (f : List Bool) (k : Nat) : usedTo f k = numsTo (on f) k := rfl

theorem left_used (f : List Bool) (s : SP) (h : ∀ i, s.isOpen i = !on f i) : ∀ k, s.leftTo k + (usedTo f k).length = k
  | 0 => rfl
  | k + 1 => by
    have := left_used f s h k
    rw [s.leftTo_succ, usedTo_succ, h k]
    cases on f k <;> simp <;> omega

theorem bit_law (l : List Int) (hb : ∀ x ∈ l, 0 ≤ x ∧ x ≤ 255) (k : Nat) (hk : k / 8 < l.length) : (bits .and .u8 (l[k / 8] / 2 ^ (k % 8)) 1 == 1) = bitI l k := by
  have hx := hb l[k / 8] (List.getElem_mem hk)
  obtain ⟨x, hx'⟩ := Int.eq_ofNat_of_zero_le hx.1
  have h := b8_shift ⟨k % 8, Nat.mod_lt _ (by decide)⟩ ⟨x, by omega⟩
  unfold bitI
  rw [List.getElem?_eq_getElem hk]
  simp only at h
  rw [Option.getD_some, hx']
  exact h

end Go.Proofs.Ytdkihkgmldnpmab
