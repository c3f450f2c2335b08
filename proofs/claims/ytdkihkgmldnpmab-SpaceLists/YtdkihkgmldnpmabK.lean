import Derived.Test.YtdkihkgmldnpmabJ
import Derived.Test.YtdkihkgmldnpmabG
namespace Go.Proofs.Ytdkihkgmldnpmab
open Go.RowKit Go.Maps

def cnt (p : Nat → Bool) (n : Nat) : Nat := ((List.range n).filter p).length
theorem cnt_succ (p : Nat → Bool) (n : Nat) : cnt p (n + 1) = cnt p n + (if p n then 1 else 0) := by
  unfold cnt
  rw [List.range_succ, List.filter_append]
  cases h : p n <;> simp [h]
theorem cnt_le (p : Nat → Bool) (n : Nat) : cnt p n ≤ n := by
  unfold cnt
  have := List.length_filter_le p (List.range n)
  simp at this
  exact this
theorem first_cnt (p : Nat → Bool) : ∀ n, (firstTo p n).isSome = decide (0 < cnt p n)
  | 0 => rfl
  | n + 1 => by
    have ih := first_cnt p n
    rw [cnt_succ]
    simp only [firstTo]
    cases hf : firstTo p n with
    | some i =>
      rw [hf] at ih
      simp at ih
      simp; omega
    | none =>
      rw [hf] at ih
      simp at ih
      by_cases hp : p n = true
      · simp [hp]
      · simp [hp, ih]
def Bk.left (b : Bk) : Nat := cnt b.isOpen b.n
theorem Bk.takeE_eq (b : Bk) : b.takeE = if 0 < b.left then 0 else 30 := by
  unfold Bk.takeE Bk.first Bk.left
  rw [first_cnt]
  simp
theorem cnt_all {p : Nat → Bool} : ∀ n, (∀ i, i < n → p i = true) → cnt p n = n
  | 0, _ => rfl
  | n + 1, h => by rw [cnt_succ, h n (by omega), cnt_all n (fun i hi => h i (by omega))]; rfl

theorem left_bk (w : World) (B : Nat) (s : SP) (h : SpaceAt w B s) :
    Calls Try.prog 52 #[.pointer (some ⟨s.S, 0, none⟩)] w fun e w' => e = .returned (.int .i64 s.bk.left) ∧ ∃ k, w' = w.drewN k := left_any w B s h

def newBk (n : Nat) : Bk := ⟨n, List.replicate n false, List.replicate n false, List.replicate n false⟩
theorem newBk_left (n : Nat) : (newBk n).left = n := by
  apply cnt_all
  intro i hi
  have hi' : i < n := hi
  have h : on (List.replicate n false) i = false := by simp [on, hi']
  simp only [Bk.isOpen, newBk, h]
  rfl

/-- Two spaces of n blocks that share nothing. -/
structure Two (w0 w : World) (B C n : Nat) (b c : Bk) : Prop where
  one : SpaceAt w w0.heap.size ((newSP B n).put b)
  two : SpaceAt w w0.heap.size ((newSP C n).put c)
  bn : b.n = n
  cn : c.n = n
  sep : B + 7 ≤ C
  below : Below w0.heap.size w0 w

theorem newSP_own {B n k : Nat} (h : (newSP B n).own k) : B ≤ k ∧ k < B + 7 := by
  rcases h with rfl | rfl | rfl <;> simp [newSP]
theorem newSP_has {B n k : Nat} (h : (newSP B n).has k) : B ≤ k ∧ k < B + 7 := by
  rcases h with rfl | rfl | rfl | rfl | rfl | rfl | rfl <;> simp [newSP]

theorem Two.keepF {w0 w w' : World} {B C n : Nat} {b c : Bk} (h : Two w0 w B C n b c) (hk : Keeps (fun _ => False) w w') : Two w0 w' B C n b c :=
  ⟨h.one.keepF hk, h.two.keepF hk, h.bn, h.cn, h.sep, h.below.trans (hk.below h.below.size (fun _ f => f.elim))⟩
theorem Two.upd1 {w0 w w' : World} {B C n : Nat} {b c b' : Bk} (h : Two w0 w B C n b c) (hn : b'.n = n) (h1 : SpaceAt w' w0.heap.size ((newSP B n).put b')) (hk : Keeps (newSP B n).own w w') : Two w0 w' B C n b' c :=
  ⟨h1, h.two.kept hk (fun k hk1 hk2 => by
    have h1 := newSP_own hk2
    have h2 : (newSP C n).has k := hk1
    have h2 := newSP_has h2
    have := h.sep
    omega), hn, h.cn, h.sep, h.below.trans (hk.below h.below.size h.one.own_lo)⟩
theorem Two.upd2 {w0 w w' : World} {B C n : Nat} {b c c' : Bk} (h : Two w0 w B C n b c) (hn : c'.n = n) (h1 : SpaceAt w' w0.heap.size ((newSP C n).put c')) (hk : Keeps (newSP C n).own w w') : Two w0 w' B C n b c' :=
  ⟨h.one.kept hk (fun k hk1 hk2 => by
    have h1 := newSP_own hk2
    have h2 : (newSP B n).has k := hk1
    have h2 := newSP_has h2
    have := h.sep
    omega), h1, h.bn, hn, h.sep, h.below.trans (hk.below h.below.size h.two.own_lo)⟩
theorem Two.bk1 {w0 w : World} {B C n : Nat} {b c : Bk} (h : Two w0 w B C n b c) : ((newSP B n).put b).bk = b := SP.put_bk _ _ h.bn
theorem Two.bk2 {w0 w : World} {B C n : Nat} {b c : Bk} (h : Two w0 w B C n b c) : ((newSP C n).put c).bk = c := SP.put_bk _ _ h.cn

theorem Two.top {w0 w : World} {B C n : Nat} {b c : Bk} (h : Two w0 w B C n b c) : C + 7 ≤ w.heap.size := by
  have := h.two.has_lt (C + 6) (Or.inl rfl)
  omega
theorem Two.far1 {w0 w w' : World} {B C n : Nat} {b c : Bk} (h : Two w0 w B C n b c) {v : Value} {l : List Value} (hc : Cells w v l) (hv : ∀ k, v.ownBlock = some k → C + 7 ≤ k) (hk : Keeps (newSP B n).own w w') : Cells w' v l :=
  hc.kept hk (fun k h1 h2 => by have h3 := hv k h1; have h4 := newSP_own h2; have := h.sep; omega)
theorem Two.far2 {w0 w w' : World} {B C n : Nat} {b c : Bk} (_h : Two w0 w B C n b c) {v : Value} {l : List Value} (hc : Cells w v l) (hv : ∀ k, v.ownBlock = some k → C + 7 ≤ k) (hk : Keeps (newSP C n).own w w') : Cells w' v l :=
  hc.kept hk (fun k h1 h2 => by have h3 := hv k h1; have h4 := newSP_own h2; omega)

section
variable {w0 w : World} {B C n : Nat} {b c : Bk}
theorem Two.mark1 (h : Two w0 w B C n b c) : Calls Try.prog 40 #[.pointer (some ⟨B + 6, 0, none⟩)] w fun e w' => e = .returned (.tuple #[]) ∧ Two w0 w' B C n b.setMark c := by
  refine (mark_bk w _ _ h.one).mono ?_
  rintro e w' ⟨rfl, h1, h2⟩
  rw [h.bk1] at h1
  exact ⟨rfl, h.upd1 h.bn h1 h2⟩
theorem Two.mark2 (h : Two w0 w B C n b c) : Calls Try.prog 40 #[.pointer (some ⟨C + 6, 0, none⟩)] w fun e w' => e = .returned (.tuple #[]) ∧ Two w0 w' B C n b c.setMark := by
  refine (mark_bk w _ _ h.two).mono ?_
  rintro e w' ⟨rfl, h1, h2⟩
  rw [h.bk2] at h1
  exact ⟨rfl, h.upd2 h.cn h1 h2⟩
theorem Two.undo1 (h : Two w0 w B C n b c) : Calls Try.prog 42 #[.pointer (some ⟨B + 6, 0, none⟩)] w fun e w' => e = .returned (.tuple #[]) ∧ Two w0 w' B C n b.undo c := by
  refine (undo_bk w _ _ h.one).mono ?_
  rintro e w' ⟨rfl, h1, h2⟩
  rw [h.bk1] at h1
  exact ⟨rfl, h.upd1 h.bn h1 h2⟩
theorem Two.used1 (h : Two w0 w B C n b c) : Calls Try.prog 14 #[.pointer (some ⟨B + 6, 0, none⟩)] w fun e w' => ∃ v, e = .returned v ∧ Cells w' v (is (usedTo b.now n)) ∧ (∀ k, v.ownBlock = some k → C + 7 ≤ k) ∧ Two w0 w' B C n b c ∧ Keeps (fun _ => False) w w' := by
  refine (used_any w _ _ h.one).mono ?_
  rintro e w' ⟨v, rfl, h1, h2⟩
  exact ⟨v, rfl, cells_row h1 (is_length _), fun k hk => Nat.le_trans h.top (h1.lt k hk).1, h.keepF h2, h2⟩
theorem Two.used2 (h : Two w0 w B C n b c) : Calls Try.prog 14 #[.pointer (some ⟨C + 6, 0, none⟩)] w fun e w' => ∃ v, e = .returned v ∧ Cells w' v (is (usedTo c.now n)) ∧ (∀ k, v.ownBlock = some k → C + 7 ≤ k) ∧ Two w0 w' B C n b c ∧ Keeps (fun _ => False) w w' := by
  refine (used_any w _ _ h.two).mono ?_
  rintro e w' ⟨v, rfl, h1, h2⟩
  exact ⟨v, rfl, cells_row h1 (is_length _), fun k hk => Nat.le_trans h.top (h1.lt k hk).1, h.keepF h2, h2⟩
theorem bits_cells (w : World) (s : SP) (h : SpaceAt w B s) : Cells (w.alloc (.cells (bs (pack s.now)).toArray 5)) (.slice (some ⟨w.heap.size, 0, none⟩) (nb s.n) (nb s.n)) (bs (pack s.now)) := by
  have h4 := heap_alloc_new w (.cells (bs (pack s.now)).toArray 5)
  have := cells_block (c := nb s.n) h4
  rwa [bs_length, pack_length, h.now.len] at this
theorem Two.bits1 (h : Two w0 w B C n b c) : Calls Try.prog 18 #[.pointer (some ⟨B + 6, 0, none⟩)] w fun e w' => ∃ v, e = .returned v ∧ Cells w' v (bs (pack b.now)) ∧ (∀ k, v.ownBlock = some k → C + 7 ≤ k) ∧ Two w0 w' B C n b c ∧ Keeps (fun _ => False) w w' := by
  refine (bitmap_any w _ _ h.one).mono ?_
  rintro e w' ⟨rfl, rfl⟩
  exact ⟨_, rfl, bits_cells w _ h.one, fun k hk => by simp [Value.ownBlock] at hk; rw [← hk]; exact h.top, h.keepF ((Keeps.refl _ _).alloc _), (Keeps.refl _ _).alloc _⟩
theorem Two.bits2 (h : Two w0 w B C n b c) : Calls Try.prog 18 #[.pointer (some ⟨C + 6, 0, none⟩)] w fun e w' => ∃ v, e = .returned v ∧ Cells w' v (bs (pack c.now)) ∧ (∀ k, v.ownBlock = some k → C + 7 ≤ k) ∧ Two w0 w' B C n b c ∧ Keeps (fun _ => False) w w' := by
  refine (bitmap_any w _ _ h.two).mono ?_
  rintro e w' ⟨rfl, rfl⟩
  exact ⟨_, rfl, bits_cells w _ h.two, fun k hk => by simp [Value.ownBlock] at hk; rw [← hk]; exact h.top, h.keepF ((Keeps.refl _ _).alloc _), (Keeps.refl _ _).alloc _⟩
theorem Two.left1 (h : Two w0 w B C n b c) : Calls Try.prog 52 #[.pointer (some ⟨B + 6, 0, none⟩)] w fun e w' => e = .returned (.int .i64 b.left) ∧ Two w0 w' B C n b c ∧ Keeps (fun _ => False) w w' := by
  refine (left_bk w _ _ h.one).mono ?_
  rintro e w' ⟨rfl, k, rfl⟩
  rw [h.bk1]
  exact ⟨rfl, h.keepF (keeps_drewN w k), keeps_drewN w k⟩
theorem Two.left2 (h : Two w0 w B C n b c) : Calls Try.prog 52 #[.pointer (some ⟨C + 6, 0, none⟩)] w fun e w' => e = .returned (.int .i64 c.left) ∧ Two w0 w' B C n b c ∧ Keeps (fun _ => False) w w' := by
  refine (left_bk w _ _ h.two).mono ?_
  rintro e w' ⟨rfl, k, rfl⟩
  rw [h.bk2]
  exact ⟨rfl, h.keepF (keeps_drewN w k), keeps_drewN w k⟩
theorem Two.take1 (h : Two w0 w B C n b c) : Calls Try.prog 36 #[.pointer (some ⟨B + 6, 0, none⟩)] w fun e w' => e = .returned (.tuple #[.int .i64 b.takeN, .int .i64 b.takeE]) ∧ Two w0 w' B C n b.take c ∧ Keeps (newSP B n).own w w' := by
  refine (take_any w _ _ h.one).mono ?_
  rintro e w' ⟨rfl, h1, h2⟩
  rw [h.bk1] at h1 ⊢
  exact ⟨rfl, h.upd1 (by rw [Bk.take_n, h.bn]) h1 h2, h2⟩
theorem Two.take2 (h : Two w0 w B C n b c) : Calls Try.prog 36 #[.pointer (some ⟨C + 6, 0, none⟩)] w fun e w' => e = .returned (.tuple #[.int .i64 c.takeN, .int .i64 c.takeE]) ∧ Two w0 w' B C n b c.take ∧ Keeps (newSP C n).own w w' := by
  refine (take_any w _ _ h.two).mono ?_
  rintro e w' ⟨rfl, h1, h2⟩
  rw [h.bk2] at h1 ⊢
  exact ⟨rfl, h.upd2 (by rw [Bk.take_n, h.cn]) h1 h2, h2⟩
end

theorem does_kept (b : Bk) (k : Int) (h : -1 ≤ k) : (b.does k).mark = b.mark ∧ (b.does k).last = b.last := by
  unfold Bk.does
  split
  · unfold Bk.give; split <;> exact ⟨rfl, rfl⟩
  · rw [if_pos (by omega)]
    unfold Bk.take; split <;> exact ⟨rfl, rfl⟩
def doesAll (b : Bk) (l : List Int) : Bk := l.foldl Bk.does b
theorem doesAll_snoc (b : Bk) (l : List Int) (k : Nat) (x : Int) (h : l[k]? = some x) : doesAll b (l.take (k + 1)) = (doesAll b (l.take k)).does x := by
  rw [take_snoc _ _ _ h]; simp [doesAll]

end Go.Proofs.Ytdkihkgmldnpmab
