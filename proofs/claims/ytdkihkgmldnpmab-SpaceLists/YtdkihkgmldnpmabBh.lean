import Derived.Test.YtdkihkgmldnpmabBg
import Derived.Test.YtdkihkgmldnpmabZd
namespace Go.Proofs.Ytdkihkgmldnpmab
open Go.RowKit Go.Maps

/-- The three pairs of spaces and the Book: the spaces keep out of the lists that the Book keeps. -/
structure LI (w : World) (V B : Nat) (st : Nat → Slot) (b : Book) : Prop where
  t : Trio w V B st
  k : BookAt w B b
  out : ∀ i k, slotOwn (st i) k → ¬ b.F k

section
variable {w w' : World} {V B : Nat} {st st' : Nat → Slot} {b b' : Book}

theorem LI.foot_own (h : LI w V B st b) {i : Nat} {s : SP} {T : TR} (hs : st i = some (s, T)) {k : Nat} (hf : foot s T k) : ¬ b.own k := by
  intro ho
  obtain ⟨_, c, t, h1, h2⟩ := h.k.own_at ho
  have d := h.t.duo i s T hs
  rcases hf with hf | hf
  · obtain ⟨c1, t1, p1, e1, k1⟩ := d.p.has_kind hf
    rw [h1] at e1
    simp at e1
    have e3 := e1.2.1
    rcases k1 with rfl | rfl | rfl <;> rcases h2 with rfl | rfl | rfl <;> exact absurd e3 (by decide)
  · obtain ⟨c1, t1, e1, k1⟩ := d.r.tri.has_kind (TR.has_of hf)
    rw [h1] at e1
    simp at e1
    have e3 := e1.2
    rcases k1 with rfl | rfl <;> rcases h2 with rfl | rfl | rfl <;> exact absurd e3 (by decide)
theorem LI.V_all (h : LI w V B st b) : ¬ b.all V := by
  rintro (ho | hF)
  · obtain ⟨_, c, t, h1, h2⟩ := h.k.own_at ho
    rw [h.t.blk] at h1
    simp at h1
    have e3 := h1.2
    rcases h2 with rfl | rfl | rfl <;> exact absurd e3 (by decide)
  · obtain ⟨_, c, t, h1, h2⟩ := h.k.F V hF
    rw [h.t.blk] at h1
    simp at h1
    have e3 := h1.2
    rcases h2 with rfl | rfl <;> exact absurd e3 (by decide)
theorem LI.slot_all (h : LI w V B st b) {i k : Nat} (hs : slotOwn (st i) k) : ¬ b.all k := by
  cases he : st i with
  | none => rw [he] at hs; exact hs.elim
  | some d =>
    obtain ⟨s, T⟩ := d
    have hs' := hs
    rw [he] at hs'
    rintro (ho | hF)
    · exact h.foot_own he (owned_foot hs') ho
    · exact h.out i k hs hF
theorem LI.keep (h : LI w V B st b) (hk : Keeps (fun _ => False) w w') : LI w' V B st b := ⟨h.t.keep hk, h.k.keepF hk, h.out⟩
theorem LI.step (h : LI w V B st b) (t' : Trio w' V B st') (hk : Keeps (fun k => k = V ∨ ∃ i, slotOwn (st i) k) w w') (hg : Grows w st st') : LI w' V B st' b := by
  refine ⟨t', h.k.keep hk ?_, ?_⟩
  · rintro k ha (rfl | ⟨i, hs⟩)
    · exact h.V_all ha
    · exact h.slot_all hs ha
  · intro i k hs hF
    rcases hg i k hs with ⟨j, hj⟩ | hle
    · exact h.out j k hj hF
    · have := (h.k.all_at (Or.inr hF)).2
      omega
theorem LI.mark (h : LI w V B st b) (k' : BookAt w' B b') {v : Value} (hk : Keeps (fun k => b.own k ∨ v.ownBlock = some k) w w') (ha : ∀ k, b'.all k → b.all k ∨ v.ownBlock = some k ∨ w.heap.size ≤ k)
    (hv : ∀ k, v.ownBlock = some k → k ≠ V ∧ ∀ i s T, st i = some (s, T) → ¬ foot s T k) : LI w' V B st b' := by
  refine ⟨⟨?_, ?_, h.t.apart, h.t.lo⟩, k', ?_⟩
  · rw [hk.block V (lt_of_block h.t.blk) ?_]
    · exact h.t.blk
    · rintro (ho | he)
      · exact h.V_all (Or.inl ho)
      · exact (hv V he).1 rfl
  · intro i s T hs
    refine (h.t.duo i s T hs).keep hk ?_
    rintro k hf (ho | he)
    · exact h.foot_own hs hf ho
    · exact (hv k he).2 i s T hs hf
  · intro i k hs hF
    rcases ha k (Or.inr hF) with h1 | h1 | h1
    · exact h.slot_all hs h1
    · cases he : st i with
      | none => rw [he] at hs; exact hs.elim
      | some d =>
        obtain ⟨s, T⟩ := d
        rw [he] at hs
        exact (hv k h1).2 i s T he (owned_foot hs)
    · have := (h.t.own_lo hs).2
      omega
theorem LI.fresh (h : LI w V B st b) {v : Value} (hv : ∀ k, v.ownBlock = some k → w.heap.size ≤ k) : ∀ k, v.ownBlock = some k → k ≠ V ∧ ∀ i s T, st i = some (s, T) → ¬ foot s T k := by
  intro k hk
  have hle := hv k hk
  refine ⟨fun e => by have := lt_of_block h.t.blk; omega, fun i s T hs hf => ?_⟩
  have := (h.t.duo i s T hs).foot_lt hf
  omega
end

/-- The questions, with the rows that they hand out. -/
theorem look_used' {w : World} {V B : Nat} {st : Nat → Slot} (t : Trio w V B st) (i : Nat) : ∃ l : List Int, l.length ≤ 2048 ∧ Calls Try.prog 14 #[slotP (st i)] w fun e w1 => ∃ ao cap, e = .returned (.slice ao l.length cap) ∧ Keeps (fun _ => False) w w1 ∧ Calls Try.prog 15 #[slotR (st i)] w1 fun e w2 => ∃ v2, e = .returned v2 ∧ w2.ownsRow w.heap.size 3 1 (.slice ao l.length cap) l.length (is l) ∧ Cells w2 v2 (is l) ∧ Keeps (fun _ => False) w w2 := by
  cases hs : st i with
  | none =>
    refine ⟨[], by simp, (used_nil w).mono ?_⟩
    rintro e w1 ⟨rfl, rfl⟩
    refine ⟨_, _, rfl, Keeps.refl _ _, (rused_nil w1).mono ?_⟩
    rintro e w2 ⟨rfl, rfl⟩
    exact ⟨_, rfl, by simpa [is] using World.ownsRow_nil w2 w2.heap.size 3 1, ⟨⟨_, _, rfl⟩, fun h => by simp [is] at h⟩, Keeps.refl _ _⟩
  | some d =>
    obtain ⟨s, T⟩ := d
    have d := t.duo i s T hs
    refine ⟨usedTo s.now s.n, by have h1 := usedTo_le s.now s.n; have h2 := d.p.n2; omega, (used_any w B s d.p).mono ?_⟩
    rintro e w1 ⟨v, rfl, h1, h2⟩
    obtain ⟨ao, cap, rfl, _⟩ := own_form h1
    refine ⟨ao, cap, rfl, h2, (rused_any _ B 73 T s.bk (d.r.keepF h2)).mono ?_⟩
    rintro e w2 ⟨v2, rfl, h3, h4⟩
    exact ⟨v2, rfl, ownsRow_kept h1 h4 (fun _ _ => id), cells_row h3 (is_length _), h2.trans h4⟩
theorem look_bits' {w : World} {V B : Nat} {st : Nat → Slot} (t : Trio w V B st) (i : Nat) : ∃ l : List Int, l.length ≤ 2048 ∧ Calls Try.prog 18 #[slotP (st i)] w fun e w1 => ∃ ao cap, e = .returned (.slice ao l.length cap) ∧ Keeps (fun _ => False) w w1 ∧ Calls Try.prog 19 #[slotR (st i)] w1 fun e w2 => ∃ v2, e = .returned v2 ∧ w2.ownsRow w.heap.size 5 1 (.slice ao l.length cap) l.length (bs l) ∧ Cells w2 v2 (bs l) ∧ Keeps (fun _ => False) w w2 := by
  cases hs : st i with
  | none =>
    refine ⟨[], by simp, (bitmap_nil w).mono ?_⟩
    rintro e w1 ⟨rfl, rfl⟩
    refine ⟨_, _, rfl, Keeps.refl _ _, (rbitmap_nil w1).mono ?_⟩
    rintro e w2 ⟨rfl, rfl⟩
    exact ⟨_, rfl, by simpa [bs] using World.ownsRow_nil w2 w2.heap.size 5 1, ⟨⟨_, _, rfl⟩, fun h => by simp [bs] at h⟩, Keeps.refl _ _⟩
  | some d =>
    obtain ⟨s, T⟩ := d
    have d := t.duo i s T hs
    have hpl : (pack s.now).length = nb s.n := by rw [pack_length, d.p.now.len]; rfl
    have hn2 := d.p.n2
    refine ⟨pack s.now, by rw [pack_length, d.p.now.len]; omega, (bitmap_any w B s d.p).mono ?_⟩
    rintro e w1 ⟨rfl, rfl⟩
    have hk : Keeps (fun _ => False) w (w.alloc (.cells (bs (pack s.now)).toArray 5)) := (Keeps.refl _ _).alloc _
    refine ⟨some ⟨w.heap.size, 0, none⟩, nb s.n, by rw [hpl], hk, (rbitmap_any _ B 73 T s.bk (d.r.keepF hk)).mono ?_⟩
    rintro e w2 ⟨v2, rfl, h3, h4⟩
    have hc : Cells w2 v2 (bs (pack s.now)) := by
      have hl : (bs (pack s.bk.now)).length = nb s.bk.n := by rw [bs_length, pack_length]; show (s.now.length + 7) / 8 = nb s.n; rw [d.p.now.len]; rfl
      exact cells_row h3 hl
    have hrow : (w.alloc (.cells (bs (pack s.now)).toArray 5)).ownsRow w.heap.size 5 1 (.slice (some ⟨w.heap.size, 0, none⟩) (pack s.now).length (nb s.n)) (pack s.now).length (bs (pack s.now)) := by
      have := World.ownsRow_lit (base := w.heap.size) (e := 5) (size := 1) w (bs (pack s.now)).toArray (nb s.n) (Nat.le_refl _) (by unfold maxLen nb; omega) (by simp [bs_length, hpl])
      rw [hpl]
      simpa using this
    exact ⟨v2, rfl, ownsRow_kept hrow h4 (fun _ _ => id), hc, hk.trans h4⟩

end Go.Proofs.Ytdkihkgmldnpmab
