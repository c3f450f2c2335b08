import Derived.Test.YtdkihkgmldnpmabK
namespace Go.Proofs.Ytdkihkgmldnpmab
open Go.RowKit Go.Maps

theorem cnt_flip {p q : Nat → Bool} {f : Nat} (hp : p f = false) (hq : q f = true) (h : ∀ i, i ≠ f → p i = q i) : ∀ n, cnt q n = cnt p n + (if f < n then 1 else 0)
  | 0 => by simp [cnt]
  | n + 1 => by
    rw [cnt_succ, cnt_succ, cnt_flip hp hq h n]
    by_cases e : n = f
    · subst e; simp [hp, hq]
    · rw [h n e]
      by_cases h1 : f < n
      · rw [if_pos h1, if_pos (show f < n + 1 by omega)]; omega
      · rw [if_neg h1, if_neg (show ¬ f < n + 1 by omega)]; omega
theorem cnt_disj {p q : Nat → Bool} (h : ∀ i, p i = true → q i = false) : ∀ n, cnt p n + cnt q n ≤ n
  | 0 => by simp [cnt]
  | n + 1 => by
    have := cnt_disj h n
    rw [cnt_succ, cnt_succ]
    cases hp : p n with
    | true => rw [h n hp]; simp; omega
    | false => cases q n <;> simp <;> omega
theorem used_cnt (f : List Bool) (n : Nat) : (usedTo f n).length = cnt (on f) n := by simp [usedTo, cnt]
theorem Bk.open_used (b : Bk) : b.left + (usedTo b.now b.n).length ≤ b.n := by
  rw [used_cnt]
  refine cnt_disj (fun i hi => ?_) b.n
  simp only [Bk.isOpen, Bool.and_eq_true, Bool.not_eq_true'] at hi
  exact hi.1.1

/-- Behind i takes. -/
structure Took (b0 b : Bk) (i : Nat) (last : Int) : Prop where
  n : b.n = b0.n
  len : b.now.length = b0.n
  left : b.left + i = b0.left
  high : ∀ j : Nat, b.isOpen j = true → last < (j : Int)
  used : cnt (on b.now) b0.n = cnt (on b0.now) b0.n + i
  more : ∀ j, on b0.now j = true → on b.now j = true

theorem Took.start (b : Bk) (h : b.now.length = b.n) : Took b b 0 (-1) := ⟨rfl, h, rfl, fun _ _ => by omega, rfl, fun _ h => h⟩

theorem Took.next {b0 b : Bk} {i : Nat} {last : Int} (h : Took b0 b i last) (hi : i < b0.left) : ∃ f : Nat, b.first = some f ∧ f < b0.n ∧ last < (f : Int) ∧ on b0.now f = false ∧ Took b0 b.take (i + 1) f := by
  have hl : 0 < b.left := by have := h.left; omega
  have hs : b.first.isSome = true := by
    unfold Bk.first Bk.left at *
    rw [first_cnt]; simpa using hl
  obtain ⟨f, hf⟩ := Option.isSome_iff_exists.1 hs
  obtain ⟨h1, h2, h3⟩ := firstTo_some (p := b.isOpen) hf
  have hn := h.n
  have hnow : on b.now f = false := by
    simp only [Bk.isOpen, Bool.and_eq_true, Bool.not_eq_true'] at h2
    exact h2.1.1
  have et : b.take = { b with now := b.now.set f true } := by unfold Bk.take; rw [hf]
  have hlt : f < b.now.length := by rw [h.len, ← hn]; exact h1
  have hon : ∀ j, on (b.now.set f true) j = if f = j then true else on b.now j := by
    intro j; rw [on_set]; by_cases e : f = j <;> simp [e]; omega
  have hop : ∀ j, b.take.isOpen j = if f = j then false else b.isOpen j := by
    intro j
    rw [et]
    simp only [Bk.isOpen, hon]
    by_cases e : f = j <;> simp [e]
  refine ⟨f, hf, by omega, h.high f h2, ?_, ?_⟩
  · cases ho : on b0.now f with
    | false => rfl
    | true => have := h.more f ho; rw [hnow] at this; cases this
  · refine ⟨by rw [Bk.take_n]; exact hn, by rw [et]; simpa using h.len, ?_, ?_, ?_, ?_⟩
    · have hc := cnt_flip (p := b.take.isOpen) (q := b.isOpen) (f := f) (by rw [hop]; simp) h2 (fun i hi => by rw [hop, if_neg (fun e => hi e.symm)]) b.n
      rw [if_pos h1] at hc
      have hll := h.left
      unfold Bk.left at *
      rw [Bk.take_n]
      omega
    · intro j hj
      rw [hop] at hj
      by_cases e : f = j
      · simp [e] at hj
      · rw [if_neg e] at hj
        by_cases hjf : j < f
        · rw [h3 j hjf] at hj; cases hj
        · omega
    · have hc := cnt_flip (p := on b.now) (q := on b.take.now) (f := f) hnow (by rw [et]; simp [hon]) (fun i hi => by rw [et]; simp only [hon]; rw [if_neg (fun e => hi e.symm)]) b0.n
      rw [if_pos (by omega)] at hc
      have := h.used
      omega
    · intro j hj
      rw [et]
      simp only [hon]
      by_cases e : f = j
      · simp [e]
      · rw [if_neg e]; exact h.more j hj

/-- One space of n blocks. -/
structure One (w0 w : World) (B n : Nat) (b : Bk) : Prop where
  one : SpaceAt w w0.heap.size ((newSP B n).put b)
  bn : b.n = n
  below : Below w0.heap.size w0 w

theorem One.bk1 {w0 w : World} {B n : Nat} {b : Bk} (h : One w0 w B n b) : ((newSP B n).put b).bk = b := SP.put_bk _ _ h.bn
theorem One.keepF {w0 w w' : World} {B n : Nat} {b : Bk} (h : One w0 w B n b) (hk : Keeps (fun _ => False) w w') : One w0 w' B n b :=
  ⟨h.one.keepF hk, h.bn, h.below.trans (hk.below h.below.size (fun _ f => f.elim))⟩
theorem One.upd {w0 w w' : World} {B n : Nat} {b b' : Bk} (h : One w0 w B n b) (hn : b'.n = n) (h1 : SpaceAt w' w0.heap.size ((newSP B n).put b')) (hk : Keeps (newSP B n).own w w') : One w0 w' B n b' :=
  ⟨h1, hn, h.below.trans (hk.below h.below.size h.one.own_lo)⟩
theorem One.top {w0 w : World} {B n : Nat} {b : Bk} (h : One w0 w B n b) : B + 7 ≤ w.heap.size := by
  have := h.one.has_lt (B + 6) (Or.inl rfl)
  omega
theorem One.far {w0 w w' : World} {B n : Nat} {b : Bk} (_h : One w0 w B n b) {v : Value} {l : List Value} (hc : Cells w v l) (hv : ∀ k, v.ownBlock = some k → B + 7 ≤ k) (hk : Keeps (newSP B n).own w w') : Cells w' v l :=
  hc.kept hk (fun k h1 h2 => by have h3 := hv k h1; have h4 := newSP_own h2; omega)

section
variable {w0 w : World} {B n : Nat} {b : Bk}
theorem One.used (h : One w0 w B n b) : Calls Try.prog 14 #[.pointer (some ⟨B + 6, 0, none⟩)] w fun e w' => ∃ ao cap, e = .returned (.slice ao (usedTo b.now n).length cap) ∧ Cells w' (.slice ao (usedTo b.now n).length cap) (is (usedTo b.now n)) ∧ (∀ k, (Value.slice ao (usedTo b.now n).length cap).ownBlock = some k → B + 7 ≤ k) ∧ One w0 w' B n b ∧ Keeps (fun _ => False) w w' := by
  refine (used_any w _ _ h.one).mono ?_
  rintro e w' ⟨v, rfl, h1, h2⟩
  have hc := cells_row h1 (is_length _)
  obtain ⟨ao, cap, rfl⟩ := hc.form
  rw [is_length] at *
  exact ⟨ao, cap, rfl, hc, fun k hk => Nat.le_trans h.top (h1.lt k hk).1, h.keepF h2, h2⟩
theorem One.left (h : One w0 w B n b) : Calls Try.prog 52 #[.pointer (some ⟨B + 6, 0, none⟩)] w fun e w' => e = .returned (.int .i64 b.left) ∧ One w0 w' B n b ∧ Keeps (fun _ => False) w w' := by
  refine (left_bk w _ _ h.one).mono ?_
  rintro e w' ⟨rfl, k, rfl⟩
  rw [h.bk1]
  exact ⟨rfl, h.keepF (keeps_drewN w k), keeps_drewN w k⟩
theorem One.take (h : One w0 w B n b) : Calls Try.prog 36 #[.pointer (some ⟨B + 6, 0, none⟩)] w fun e w' => e = .returned (.tuple #[.int .i64 b.takeN, .int .i64 b.takeE]) ∧ One w0 w' B n b.take ∧ Keeps (newSP B n).own w w' := by
  refine (take_any w _ _ h.one).mono ?_
  rintro e w' ⟨rfl, h1, h2⟩
  rw [h.bk1] at h1 ⊢
  exact ⟨rfl, h.upd (by rw [Bk.take_n, h.bn]) h1 h2, h2⟩
theorem One.new (w : World) (n : Nat) (h1 : 1 ≤ n) (h2 : n ≤ 2048) : Calls Try.prog 24 #[.int .i64 n] w fun e w' => e = .returned (.tuple #[.pointer (some ⟨w.heap.size + 6, 0, none⟩), .int .i64 0]) ∧ One w w' w.heap.size n (newBk n) := by
  refine (new_yes w n h1 h2).mono ?_
  rintro e w' ⟨rfl, h3, _, h5⟩
  exact ⟨rfl, h3, rfl, h5.below (Nat.le_refl _) (fun _ f => f.elim)⟩
end

end Go.Proofs.Ytdkihkgmldnpmab
