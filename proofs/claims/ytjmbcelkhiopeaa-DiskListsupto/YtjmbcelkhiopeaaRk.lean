import Derived.Test.YtjmbcelkhiopeaaRj
namespace Go.Proofs.Ytjmbcelkhiopeaa
open Go.RowKit Go.Maps

set_option maxRecDepth 100000 in
set_option maxHeartbeats 1000000 in
theorem fromImage_reads (w : World) (b off n s : Nat) (l : List Int) (hl : l.length = n * s) (h1 : 1 ≤ n) (h2 : n ≤ 16384) (h3 : 32 ≤ s) (h4 : s ≤ 1024) (cap : Nat) (hb : b < w.heap.size) (hc : ∀ j x, l[j]? = some x → w.cell? ⟨b, off + j, none⟩ = some (.int .u8 x)) :
    Calls Try.prog 31 #[.slice (some ⟨b, off, none⟩) (n * s) cap, .int .i64 s] w fun e w' => e = .returned (.tuple #[.pointer (some ⟨w.heap.size + 2, 0, none⟩), .int .i64 0]) ∧ Keeps (fun _ => False) w w' ∧ DiskAt w' w.heap.size (freshDS (w.heap.size + 2) w.heap.size (w.heap.size + 1) n s l) := by
  have hns : n * s ≤ 16777216 := Nat.le_trans (Nat.mul_le_mul h2 h4) (by decide)
  have hpos : 0 < n * s := Nat.mul_pos (by omega) (by omega)
  have hcp := copied_any b off (n * s) cap l w hl hb hns hc
  have hov := over_any w.heap.size (n * s) s (w.alloc (.cells (bs l).toArray 5)) h3 h4 hns
  rw [Nat.mul_div_cancel n (by omega)] at hov
  simp only [World.size_alloc] at hov
  obtain ⟨w3, hw3⟩ : ∃ w3, w3 = (((w.alloc (.cells (bs l).toArray 5)).alloc (.map #[] 0)).alloc (.cells (dcells n s (.slice (some ⟨w.heap.size, 0, none⟩) (n * s) (n * s)) (.slice none 0 0) (w.heap.size + 1) (-1) false 0 0 0) 89)) := ⟨_, rfl⟩
  rw [← hw3] at hov
  have hk3 : Keeps (fun _ => False) w w3 := by rw [hw3]; exact (((Keeps.refl _ _).alloc _).alloc _).alloc _
  have hd3 : DiskAt w3 w.heap.size (freshDS (w.heap.size + 2) w.heap.size (w.heap.size + 1) n s l) := by
    refine fresh_at _ _ _ _ _ _ ?_ ?_ hl ?_ (by omega) h1 h2 h3 h4
    · rw [hw3]
      have := heap_alloc_new ((w.alloc (.cells (bs l).toArray 5)).alloc (.map #[] 0)) (.cells (dcells n s (.slice (some ⟨w.heap.size, 0, none⟩) (n * s) (n * s)) (.slice none 0 0) (w.heap.size + 1) (-1) false 0 0 0) 89)
      rw [World.size_alloc, World.size_alloc] at this
      exact this
    · rw [hw3, Below.heap_alloc _ _ _ (by simp; omega), Below.heap_alloc _ _ _ (by simp)]
      exact heap_alloc_new w _
    · rw [hw3, Below.heap_alloc _ _ _ (by simp)]
      have := heap_alloc_new (w.alloc (.cells (bs l).toArray 5)) (.map #[] 0)
      rw [World.size_alloc] at this
      exact this
  have HCP := hide hcp
  have HOV := hide hov
  have HK := hide hk3
  have HD := hide hd3
  have hf : fitsB s = true := by simp [fitsB]; omega
  obtain ⟨N, hNe⟩ : ∃ N, n * s = N := ⟨_, rfl⟩
  have hdiv : ((N : Int)) / (s : Int) = (n : Int) := by rw [← hNe, ← Int.natCast_ediv, Nat.mul_div_cancel n (by omega)]
  have hmod : ((N : Int)) % (s : Int) = 0 := by rw [← hNe, ← Int.natCast_emod, Nat.mul_mod_left]; rfl
  rw [hNe] at HCP HOV hpos hns ⊢
  have hs0 : ((s : Int) == 0) = false := beq_eq_false_iff_ne.2 (by omega)
  have hl0 : ((N : Int) == 0) = false := beq_eq_false_iff_ne.2 (by omega)
  clear hcp hov hk3 hd3 hw3 hb hl hNe
  go_enter Try.func31, Try.ntmps31
  go_wp2_with fail
  refine (sizeFits_any _ _).mono ?_
  rintro e w1 ⟨rfl, rfl⟩
  go_wp2_with fail
  refine (unhide HCP).mono ?_
  rintro e w2 ⟨rfl, rfl⟩
  go_wp2_with fail
  refine (unhide HOV).mono ?_
  rintro e w4 ⟨rfl, rfl⟩
  go_wp2
  go_ret2
  exact ⟨rfl, unhide HK, unhide HD⟩

/-- An image of a length that no disk has. -/
def imgBad (L s : Nat) : Prop := L = 0 ∨ L % s ≠ 0 ∨ 16384 < L / s

set_option maxRecDepth 100000 in
set_option maxHeartbeats 1000000 in
theorem fromImage_arg (w : World) (ao : Option Addr) (L cap : Nat) (s : Int) (h : ¬ (32 ≤ s ∧ s ≤ 1024)) :
    Calls Try.prog 31 #[.slice ao L cap, .int .i64 s] w fun e w' => e = .returned (.tuple #[.pointer none, .int .i64 1]) ∧ w' = w := by
  have hf : fitsB s = false := by simp [fitsB]; omega
  clear h
  go_enter Try.func31, Try.ntmps31
  go_wp2_with (refine (sizeFits_any _ _).mono ?_; rintro e w' ⟨rfl, rfl⟩)
  go_ret2
  exact ⟨rfl, rfl⟩

set_option maxRecDepth 100000 in
set_option maxHeartbeats 1000000 in
theorem refFromImage_arg (w : World) (ao : Option Addr) (L cap : Nat) (s : Int) (h : ¬ (32 ≤ s ∧ s ≤ 1024)) :
    Calls Try.prog 46 #[.slice ao L cap, .int .i64 s] w fun e w' => e = .returned (.tuple #[.pointer none, .int .i64 1]) ∧ w' = w := by
  by_cases h1 : s < 32
  · clear h
    go_enter Try.func46, Try.ntmps46
    go_wp2
    go_ret2
    exact ⟨rfl, rfl⟩
  · have h2 : 1024 < s := by omega
    clear h
    go_enter Try.func46, Try.ntmps46
    go_wp2
    go_ret2
    exact ⟨rfl, rfl⟩

set_option maxRecDepth 100000 in
set_option maxHeartbeats 1000000 in
theorem fromImage_size (w : World) (ao : Option Addr) (L cap : Nat) (s : Nat) (h3 : 32 ≤ s) (h4 : s ≤ 1024) (hL : L ≤ maxLen) (h : imgBad L s) :
    Calls Try.prog 31 #[.slice ao L cap, .int .i64 s] w fun e w' => e = .returned (.tuple #[.pointer none, .int .i64 12]) ∧ w' = w := by
  unfold maxLen at hL
  have hf : fitsB s = true := by simp [fitsB]; omega
  have hs0 : ((s : Int) == 0) = false := beq_eq_false_iff_ne.2 (by omega)
  have hmod : (L : Int) % (s : Int) = ((L % s : Nat) : Int) := by omega
  have hdiv : (L : Int) / (s : Int) = ((L / s : Nat) : Int) := by omega
  have hdl : L / s ≤ L := Nat.div_le_self _ _
  have hml : L % s ≤ L := Nat.mod_le _ _
  unfold imgBad at h
  generalize L % s = M at *
  generalize L / s = N at *
  by_cases e0 : L = 0
  · subst e0
    have b0 : (((0 : Nat) : Int) == 0) = true := rfl
    clear h
    go_enter Try.func31, Try.ntmps31
    go_wp2_with (refine (sizeFits_any _ _).mono ?_; rintro e w' ⟨rfl, rfl⟩)
    go_ret2
    exact ⟨rfl, rfl⟩
  · have b0 : ((L : Int) == 0) = false := beq_eq_false_iff_ne.2 (by omega)
    by_cases e1 : M = 0
    · subst e1
      have hN : (16384 : Int) < (N : Int) := by omega
      clear h
      go_enter Try.func31, Try.ntmps31
      go_wp2_with (refine (sizeFits_any _ _).mono ?_; rintro e w' ⟨rfl, rfl⟩)
      go_ret2
      exact ⟨rfl, rfl⟩
    · have b1 : ((M : Int) != 0) = true := by rw [bne_iff_ne]; omega
      clear h
      go_enter Try.func31, Try.ntmps31
      go_wp2_with (refine (sizeFits_any _ _).mono ?_; rintro e w' ⟨rfl, rfl⟩)
      go_ret2
      exact ⟨rfl, rfl⟩

set_option maxRecDepth 100000 in
set_option maxHeartbeats 1000000 in
theorem refFromImage_size (w : World) (ao : Option Addr) (L cap : Nat) (s : Nat) (h3 : 32 ≤ s) (h4 : s ≤ 1024) (hL : L ≤ maxLen) (h : imgBad L s) :
    Calls Try.prog 46 #[.slice ao L cap, .int .i64 s] w fun e w' => e = .returned (.tuple #[.pointer none, .int .i64 12]) ∧ w' = w := by
  unfold maxLen at hL
  have hs0 : ((s : Int) == 0) = false := beq_eq_false_iff_ne.2 (by omega)
  have hmod : (L : Int) % (s : Int) = ((L % s : Nat) : Int) := by omega
  have hdiv : (L : Int) / (s : Int) = ((L / s : Nat) : Int) := by omega
  have hdl : L / s ≤ L := Nat.div_le_self _ _
  have hml : L % s ≤ L := Nat.mod_le _ _
  have hz : L = 0 → L / s = 0 := fun e => by rw [e]; exact Nat.zero_div _
  unfold imgBad at h
  generalize L % s = M at *
  generalize L / s = N at *
  by_cases e1 : M = 0
  · subst e1
    have hN : ¬ (1 ≤ N ∧ N ≤ 16384) := by omega
    clear h hz
    by_cases hn : N < 1
    · clear hN
      go_enter Try.func46, Try.ntmps46
      go_wp2
      go_ret2
      exact ⟨rfl, rfl⟩
    · have hn2 : 16384 < N := by omega
      clear hN
      go_enter Try.func46, Try.ntmps46
      go_wp2
      go_ret2
      exact ⟨rfl, rfl⟩
  · have b1 : ((M : Int) != 0) = true := by rw [bne_iff_ne]; omega
    clear h hz
    go_enter Try.func46, Try.ntmps46
    go_wp2
    go_ret2
    exact ⟨rfl, rfl⟩

end Go.Proofs.Ytjmbcelkhiopeaa
