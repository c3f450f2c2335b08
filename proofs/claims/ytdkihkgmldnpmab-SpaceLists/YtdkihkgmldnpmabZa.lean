import Derived.Test.YtdkihkgmldnpmabY
namespace Go.Proofs.Ytdkihkgmldnpmab
open Go.RowKit Go.Maps

theorem tmod3 (n : Int) : (0 ≤ n ∧ n.tmod 3 = n % 3) ∨ (n < 0 ∧ n.tmod 3 = -((-n) % 3)) := by
  rcases Int.lt_or_le n 0 with h | h
  · right
    refine ⟨h, ?_⟩
    have := Int.neg_tmod (-n) 3
    rw [Int.neg_neg] at this
    rw [this, Int.tmod_eq_emod_of_nonneg (by omega)]
  · left; exact ⟨h, Int.tmod_eq_emod_of_nonneg h⟩

set_option maxRecDepth 100000 in
set_option maxHeartbeats 400000 in
theorem who_any (n : Int) (w : World) :
    Calls Try.prog 8 #[.int .i64 n] w fun e w' => e = .returned (.int .i64 (n % 3)) ∧ w' = w := by
  have ht := tmod3 n
  have b1 : -3 < n.tmod 3 := by omega
  have b2 : n.tmod 3 < 3 := by omega
  by_cases h0 : n.tmod 3 < 0
  · have HE := hide (show n % 3 = n.tmod 3 + 3 by omega)
    clear ht
    go_enter Try.func8, Try.ntmps8
    go_wp2
    all_goals (go_ret; exact ⟨ret_int (by have := unhide HE; omega), rfl⟩)
  · have HE := hide (show n % 3 = n.tmod 3 by omega)
    clear ht
    go_enter Try.func8, Try.ntmps8
    go_wp2
    all_goals (go_ret; exact ⟨ret_int (by have := unhide HE; omega), rfl⟩)
theorem mod3 (x : Int) : ∃ i : Nat, x % 3 = (i : Int) ∧ i < 3 := ⟨(x % 3).toNat, by omega, by omega⟩

/-- A space and the document's. -/
structure Duo (w : World) (B : Nat) (s : SP) (T : TR) : Prop where
  p : SpaceAt w B s
  r : TriBk w B 73 T s.bk

abbrev Slot := Option (SP × TR)
def slotP (s : Slot) : Value := .pointer (s.map fun d => ⟨d.1.S, 0, none⟩)
def slotR (s : Slot) : Value := .pointer (s.map fun d => ⟨d.2.V, 0, none⟩)
def vcells (st : Nat → Slot) : Array Value := #[slotP (st 0), slotP (st 1), slotP (st 2), slotR (st 0), slotR (st 1), slotR (st 2)]
def setSlot (st : Nat → Slot) (i : Nat) (s : Slot) (j : Nat) : Slot := if j = i then s else st j
def foot (s : SP) (T : TR) (k : Nat) : Prop := s.has k ∨ T.has k
def owned (s : SP) (T : TR) (k : Nat) : Prop := s.own k ∨ T.has k
theorem owned_foot {s : SP} {T : TR} {k : Nat} (h : owned s T k) : foot s T k := h.imp SP.own_has id
def slotOwn : Slot → Nat → Prop
  | some (s, T), k => owned s T k
  | none, _ => False

theorem Duo.keep {w w' : World} {B : Nat} {s : SP} {T : TR} (d : Duo w B s T) {F : Nat → Prop} (hk : Keeps F w w') (hF : ∀ k, foot s T k → ¬ F k) : Duo w' B s T :=
  ⟨d.p.kept hk (fun k h => hF k (Or.inl h)), d.r.kept hk (fun k h => hF k (Or.inr h))⟩
theorem Duo.foot_lt {w : World} {B : Nat} {s : SP} {T : TR} (d : Duo w B s T) {k : Nat} (h : foot s T k) : k < w.heap.size := h.elim (d.p.has_lt k) (d.r.has_lt k)
theorem Duo.own_lo {w : World} {B : Nat} {s : SP} {T : TR} (d : Duo w B s T) {k : Nat} (h : owned s T k) : B ≤ k := h.elim (d.p.own_lo k) (d.r.has_lo k)
theorem Duo.kinds {w : World} {B : Nat} {s : SP} {T : TR} (d : Duo w B s T) {k : Nat} (h1 : s.has k) (h2 : T.has k) : False := apart_kinds d.p d.r.tri (Or.inr rfl) h1 (TR.has_of h2)
theorem Duo.not67 {w : World} {B V : Nat} {s : SP} {T : TR} {c : Array Value} (d : Duo w B s T) (hV : w.heap[V]? = some (.cells c 30 (0, 0))) {k : Nat} (h : foot s T k) : k ≠ V := by
  rintro rfl
  rcases h with h | h
  · obtain ⟨c1, t1, p1, e1, k1⟩ := d.p.has_kind h
    rw [hV] at e1
    simp at e1
    have e3 := e1.2.1
    rcases k1 with rfl | rfl | rfl <;> exact absurd e3 (by decide)
  · obtain ⟨c1, t1, e1, k1⟩ := d.r.tri.has_kind (TR.has_of h)
    rw [hV] at e1
    simp at e1
    have e3 := e1.2
    rcases k1 with rfl | rfl <;> exact absurd e3 (by first | decide | (intro h; exact absurd h.1 (by decide)))

structure Trio (w : World) (V B : Nat) (st : Nat → Slot) : Prop where
  blk : w.heap[V]? = some (.cells (vcells st) 30 (0, 0))
  duo : ∀ i s T, st i = some (s, T) → Duo w B s T
  apart : ∀ i j s T s' T', i ≠ j → st i = some (s, T) → st j = some (s', T') → ∀ k, foot s T k → ¬ foot s' T' k
  lo : B ≤ V

theorem Trio.free {w : World} {V B : Nat} {st : Nat → Slot} (t : Trio w V B st) {i : Nat} {s : SP} {T : TR} (h : st i = some (s, T)) {k : Nat} (hk : foot s T k) : k ≠ V := (t.duo i s T h).not67 t.blk hk
theorem Trio.keep {w w' : World} {V B : Nat} {st : Nat → Slot} (t : Trio w V B st) (hk : Keeps (fun _ => False) w w') : Trio w' V B st :=
  ⟨(hk.block _ (lt_of_block t.blk) id).trans t.blk, fun i s T h => (t.duo i s T h).keep hk (fun _ _ => id), t.apart, t.lo⟩
theorem Trio.own_lo {w : World} {V B : Nat} {st : Nat → Slot} (t : Trio w V B st) {i k : Nat} (h : slotOwn (st i) k) : B ≤ k ∧ k < w.heap.size := by
  cases hs : st i with
  | none => rw [hs] at h; exact h.elim
  | some d =>
    obtain ⟨s, T⟩ := d
    rw [hs] at h
    exact ⟨(t.duo i s T hs).own_lo h, (t.duo i s T hs).foot_lt (owned_foot h)⟩

/-- A call at the pair of one place. -/
theorem Trio.step {w w' : World} {V B : Nat} {st : Nat → Slot} (t : Trio w V B st) {i : Nat} {s s' : SP} {T T' : TR} (hi : st i = some (s, T)) (d : Duo w' B s' T') (hk : Keeps (owned s T) w w')
    (hf : ∀ k, foot s' T' k → foot s T k ∨ w.heap.size ≤ k) (e1 : s'.S = s.S) (e2 : T'.V = T.V) : Trio w' V B (setSlot st i (some (s', T'))) := by
  have hV := lt_of_block t.blk
  have hcells : vcells (setSlot st i (some (s', T'))) = vcells st := by
    have hp : ∀ j, slotP (setSlot st i (some (s', T')) j) = slotP (st j) := fun j => by
      unfold setSlot; split
      · rename_i e; rw [e, hi]; simp [slotP, e1]
      · rfl
    have hr : ∀ j, slotR (setSlot st i (some (s', T')) j) = slotR (st j) := fun j => by
      unfold setSlot; split
      · rename_i e; rw [e, hi]; simp [slotR, e2]
      · rfl
    simp only [vcells, hp, hr]
  have hget : ∀ j s1 T1, setSlot st i (some (s', T')) j = some (s1, T1) → (j = i ∧ s1 = s' ∧ T1 = T') ∨ (j ≠ i ∧ st j = some (s1, T1)) := by
    intro j s1 T1 h
    unfold setSlot at h; split at h
    · simp at h; exact Or.inl ⟨by assumption, h.1.symm, h.2.symm⟩
    · exact Or.inr ⟨by assumption, h⟩
  refine ⟨?_, ?_, ?_, t.lo⟩
  · rw [hcells, hk.block V hV (fun h => t.free hi (owned_foot h) rfl)]; exact t.blk
  · intro j s1 T1 h
    rcases hget j s1 T1 h with ⟨_, rfl, rfl⟩ | ⟨hne, h⟩
    · exact d
    · exact (t.duo j s1 T1 h).keep hk (fun k hk1 hk2 => t.apart j i s1 T1 s T hne h hi k hk1 (owned_foot hk2))
  · intro j l s1 T1 s2 T2 hjl h1 h2 k hk1 hk2
    rcases hget j s1 T1 h1 with ⟨ej, rfl, rfl⟩ | ⟨hne, g1⟩
    · rcases hget l s2 T2 h2 with ⟨el, rfl, rfl⟩ | ⟨hne2, h2⟩
      · exact hjl (ej.trans el.symm)
      · rcases hf k hk1 with h | h
        · exact t.apart i l s T s2 T2 (Ne.symm hne2) hi h2 k h hk2
        · have := (t.duo l s2 T2 h2).foot_lt hk2; omega
    · rcases hget l s2 T2 h2 with ⟨el, rfl, rfl⟩ | ⟨hne2, h2⟩
      · rcases hf k hk2 with h | h
        · exact t.apart j i s1 T1 s T hne g1 hi k hk1 h
        · have := (t.duo j s1 T1 g1).foot_lt hk1; omega
      · exact t.apart j l s1 T1 s2 T2 hjl g1 h2 k hk1 hk2

/-- A new pair, or none, is put into a place. -/
theorem Trio.store {w w' : World} {V B : Nat} {st : Nat → Slot} (t : Trio w V B st) (i : Nat) (hi : i < 3) (s : Slot) (hk : Keeps (fun _ => False) w w') (d : ∀ a b, s = some (a, b) → Duo w' B a b ∧ ∀ k, foot a b k → w.heap.size ≤ k) :
    Trio ((w'.setCell ⟨V, i, none⟩ (slotP s)).setCell ⟨V, 3 + i, none⟩ (slotR s)) V B (setSlot st i s) ∧ Keeps (fun k => k = V) w ((w'.setCell ⟨V, i, none⟩ (slotP s)).setCell ⟨V, 3 + i, none⟩ (slotR s)) := by
  have hV := lt_of_block t.blk
  have hb' : w'.heap[V]? = some (.cells (vcells st) 30 (0, 0)) := (hk.block _ hV id).trans t.blk
  have hk2 : Keeps (fun k => k = V) w' ((w'.setCell ⟨V, i, none⟩ (slotP s)).setCell ⟨V, 3 + i, none⟩ (slotR s)) :=
    Keeps.setCell (F := fun k => k = V) (Keeps.setCell (F := fun k => k = V) (Keeps.refl _ w') (p := ⟨V, i, none⟩) (fun _ => rfl) _) (p := ⟨V, 3 + i, none⟩) (fun _ => rfl) _
  have hb : ((w'.setCell ⟨V, i, none⟩ (slotP s)).setCell ⟨V, 3 + i, none⟩ (slotR s)).heap[V]? = some (.cells (vcells (setSlot st i s)) 30 (0, 0)) := by
    rw [heap_setCell_at (heap_setCell_at hb' _)]
    obtain rfl | rfl | rfl : i = 0 ∨ i = 1 ∨ i = 2 := by omega
    all_goals rfl
  have hget : ∀ j s1 T1, setSlot st i s j = some (s1, T1) → (j = i ∧ s = some (s1, T1)) ∨ (j ≠ i ∧ st j = some (s1, T1)) := by
    intro j s1 T1 h
    unfold setSlot at h; split at h
    · exact Or.inl ⟨by assumption, h⟩
    · exact Or.inr ⟨by assumption, h⟩
  refine ⟨⟨hb, ?_, ?_, t.lo⟩, (hk.any).trans hk2⟩
  · intro j s1 T1 h
    rcases hget j s1 T1 h with ⟨_, h⟩ | ⟨_, h⟩
    · exact (d s1 T1 h).1.keep hk2 (fun k h1 e => by have := (d s1 T1 h).2 k h1; omega)
    · exact ((t.duo j s1 T1 h).keep hk (fun _ _ => id)).keep hk2 (fun k h1 e => t.free h h1 e)
  · intro j l s1 T1 s2 T2 hjl h1 h2 k hk1 hk2
    rcases hget j s1 T1 h1 with ⟨ej, h1⟩ | ⟨hne, h1⟩
    · rcases hget l s2 T2 h2 with ⟨el, h2⟩ | ⟨hne2, h2⟩
      · exact hjl (ej.trans el.symm)
      · have := (d s1 T1 h1).2 k hk1
        have := (t.duo l s2 T2 h2).foot_lt hk2; omega
    · rcases hget l s2 T2 h2 with ⟨el, h2⟩ | ⟨hne2, h2⟩
      · have := (d s2 T2 h2).2 k hk2
        have := (t.duo j s1 T1 h1).foot_lt hk1; omega
      · exact t.apart j l s1 T1 s2 T2 hjl h1 h2 k hk1 hk2

theorem slot_cells {w : World} {V B : Nat} {st : Nat → Slot} (t : Trio w V B st) (i : Nat) (hi : i < 3) : w.cell? ⟨V, i, none⟩ = some (slotP (st i)) ∧ w.cell? ⟨V, 3 + i, none⟩ = some (slotR (st i)) := by
  rw [cell_of_blk t.blk, cell_of_blk t.blk]
  obtain rfl | rfl | rfl : i = 0 ∨ i = 1 ∨ i = 2 := by omega
  all_goals exact ⟨rfl, rfl⟩

/-- What the places own behind a call they owned ahead of it, or it is new. -/
def Grows (w : World) (st st' : Nat → Slot) : Prop := ∀ i k, slotOwn (st' i) k → (∃ j, slotOwn (st j) k) ∨ w.heap.size ≤ k
theorem Grows.refl (w : World) (st : Nat → Slot) : Grows w st st := fun i _ h => Or.inl ⟨i, h⟩
theorem grows_put {w w' : World} {st : Nat → Slot} {i : Nat} {s : Slot} (hw : w.heap.size ≤ w'.heap.size) (hs : ∀ a b, s = some (a, b) → ∀ k, foot a b k → w'.heap.size ≤ k) : Grows w st (setSlot st i s) := by
  intro j k h
  unfold setSlot at h
  split at h
  · rcases s with _ | ⟨a, b⟩
    · exact h.elim
    · exact Or.inr (Nat.le_trans hw (hs a b rfl k (owned_foot h)))
  · exact Or.inl ⟨j, h⟩

/-- A pair of calls that answers the same and leaves a trio. -/
def Both (w : World) (V B : Nat) (st : Nat → Slot) (i fp fr : Nat) (x : List Value) (res : Value) : Prop :=
  Calls Try.prog fp (slotP (st i) :: x).toArray w fun e w1 => e = .returned res ∧ Keeps (fun k => ∃ i, slotOwn (st i) k) w w1 ∧ Calls Try.prog fr (slotR (st i) :: x).toArray w1 fun e w2 => e = .returned res ∧ ∃ st', Trio w2 V B st' ∧ Keeps (fun k => ∃ i, slotOwn (st i) k) w w2 ∧ Grows w st st'

section
variable {w : World} {V B : Nat} {st : Nat → Slot}

theorem both_nil (t : Trio w V B st) {i fp fr : Nat} {x : List Value} {res : Value} (hs : st i = none) (h1 : ∀ w, Calls Try.prog fp (.pointer none :: x).toArray w fun e w' => e = .returned res ∧ w' = w) (h2 : ∀ w, Calls Try.prog fr (.pointer none :: x).toArray w fun e w' => e = .returned res ∧ w' = w) : Both w V B st i fp fr x res := by
  unfold Both
  rw [hs]
  refine (h1 w).mono ?_
  rintro e w1 ⟨rfl, rfl⟩
  refine ⟨rfl, Keeps.refl _ _, (h2 w1).mono ?_⟩
  rintro e w2 ⟨rfl, rfl⟩
  exact ⟨rfl, st, t, Keeps.refl _ _, Grows.refl _ _⟩

theorem both_some (t : Trio w V B st) {i fp fr : Nat} {x : List Value} {res : Value} {s : SP} {T : TR} {b' : Bk} (hs : st i = some (s, T)) (hn : b'.n = s.n)
    (h1 : Calls Try.prog fp (.pointer (some ⟨s.S, 0, none⟩) :: x).toArray w fun e w' => e = .returned res ∧ SpaceAt w' B (s.put b') ∧ Keeps s.own w w')
    (h2 : ∀ w1, TriBk w1 B 73 T s.bk → Calls Try.prog fr (.pointer (some ⟨T.V, 0, none⟩) :: x).toArray w1 fun e w' => e = .returned res ∧ ∃ T', Moved w1 T T' ∧ TriBk w' B 73 T' b' ∧ Keeps T.has w1 w') : Both w V B st i fp fr x res := by
  unfold Both
  have d := t.duo i s T hs
  simp only [hs, slotP, slotR, Option.map_some]
  refine h1.mono ?_
  rintro e w1 ⟨rfl, hp, hk1⟩
  have hr1 : TriBk w1 B 73 T s.bk := d.r.kept hk1 (fun k h3 h4 => d.kinds (SP.own_has h4) h3)
  refine ⟨rfl, hk1.mono (fun k _ h => ⟨i, by rw [hs]; exact Or.inl h⟩), (h2 w1 hr1).mono ?_⟩
  rintro e w2 ⟨rfl, T', ⟨hV', hm⟩, hr2, hk2⟩
  have hp2 : SpaceAt w2 B (s.put b') := hp.kept hk2 (fun k h3 h4 => apart_kinds hp hr1.tri (Or.inr rfl) h3 (TR.has_of h4))
  have hk : Keeps (owned s T) w w2 := (hk1.mono (fun _ _ h => Or.inl h)).trans (hk2.mono (fun _ _ h => Or.inr h))
  refine ⟨rfl, _, t.step hs ⟨hp2, by rw [SP.put_bk s b' hn]; exact hr2⟩ hk (fun k h3 => ?_) rfl hV', hk.mono (fun k _ h => ⟨i, by rw [hs]; exact h⟩), fun j k h => ?_⟩
  case refine_2 =>
    unfold setSlot at h
    split at h
    · rcases h with h | h
      · exact Or.inl ⟨i, by rw [hs]; exact Or.inl h⟩
      · rcases hm k h with h4 | h4
        · exact Or.inl ⟨i, by rw [hs]; exact Or.inr h4⟩
        · exact Or.inr (Nat.le_trans hk1.size h4)
    · exact Or.inl ⟨j, h⟩
  rcases h3 with h3 | h3
  · exact Or.inl (Or.inl h3)
  · rcases hm k h3 with h4 | h4
    · exact Or.inl (Or.inr h4)
    · exact Or.inr (Nat.le_trans hk1.size h4)

theorem both_take (t : Trio w V B st) (i : Nat) : ∃ a b : Int, Both w V B st i 36 37 [] (.tuple #[.int .i64 a, .int .i64 b]) := by
  cases hs : st i with
  | none => exact ⟨0, 1, both_nil t hs take_nil rtake_nil⟩
  | some d =>
    obtain ⟨s, T⟩ := d
    have d := t.duo i s T hs
    refine ⟨_, _, both_some (b' := s.bk.take) t hs (Bk.take_n _) (take_any w B s d.p) (fun w1 hr => (rtake_any w1 B 73 T s.bk hr).mono ?_)⟩
    rintro e w2 ⟨rfl, h3, h4⟩
    exact ⟨rfl, T, Moved.refl _ _, h3, h4⟩
theorem both_give (t : Trio w V B st) (i : Nat) (k : Int) : ∃ a : Int, Both w V B st i 38 39 [.int .i64 k] (.int .i64 a) := by
  cases hs : st i with
  | none => exact ⟨1, both_nil t hs (fun w => give_nil w _) (fun w => rgive_nil w _)⟩
  | some d =>
    obtain ⟨s, T⟩ := d
    have d := t.duo i s T hs
    refine ⟨_, both_some (b' := s.bk.give k) t hs (Bk.give_n _ _) (give_any w B s d.p k) (fun w1 hr => (rgive_any w1 B 73 T s.bk hr k).mono ?_)⟩
    rintro e w2 ⟨rfl, h3, h4⟩
    exact ⟨rfl, T, Moved.refl _ _, h3, h4⟩
theorem both_mark (t : Trio w V B st) (i : Nat) : Both w V B st i 40 41 [] (.tuple #[]) := by
  cases hs : st i with
  | none => exact both_nil t hs mark_nil rmark_nil
  | some d =>
    obtain ⟨s, T⟩ := d
    have d := t.duo i s T hs
    exact both_some (b' := s.bk.setMark) t hs rfl (mark_bk w B s d.p) (fun w1 hr => rmark_any w1 B 73 T s.bk hr)
theorem both_undo (t : Trio w V B st) (i : Nat) : Both w V B st i 42 43 [] (.tuple #[]) := by
  cases hs : st i with
  | none => exact both_nil t hs undo_nil rundo_nil
  | some d =>
    obtain ⟨s, T⟩ := d
    have d := t.duo i s T hs
    exact both_some (b' := s.bk.undo) t hs rfl (undo_bk w B s d.p) (fun w1 hr => rundo_any w1 B 73 T s.bk hr)
theorem both_settle (t : Trio w V B st) (i : Nat) : Both w V B st i 27 44 [] (.tuple #[]) := by
  cases hs : st i with
  | none => exact both_nil t hs settle_nil rsettle_nil
  | some d =>
    obtain ⟨s, T⟩ := d
    have d := t.duo i s T hs
    exact both_some (b' := s.bk.settle) t hs rfl (settle_bk w B s d.p) (fun w1 hr => rsettle_any w1 B 73 T s.bk hr)

/-- The questions. -/
theorem look_left (t : Trio w V B st) (i : Nat) : ∃ a : Int, Calls Try.prog 52 #[slotP (st i)] w fun e w1 => e = .returned (.int .i64 a) ∧ Calls Try.prog 53 #[slotR (st i)] w1 fun e w2 => e = .returned (.int .i64 a) ∧ Keeps (fun _ => False) w w2 := by
  cases hs : st i with
  | none =>
    refine ⟨0, (left_nil w).mono ?_⟩
    rintro e w1 ⟨rfl, rfl⟩
    refine ⟨rfl, (rleft_nil w1).mono ?_⟩
    rintro e w2 ⟨rfl, rfl⟩
    exact ⟨rfl, Keeps.refl _ _⟩
  | some d =>
    obtain ⟨s, T⟩ := d
    have d := t.duo i s T hs
    refine ⟨s.bk.left, (left_bk w B s d.p).mono ?_⟩
    rintro e w1 ⟨rfl, k, rfl⟩
    refine ⟨rfl, (rleft_any _ B 73 T s.bk (d.r.keepF (keeps_drewN w k))).mono ?_⟩
    rintro e w2 ⟨rfl, rfl⟩
    exact ⟨rfl, keeps_drewN w k⟩
theorem look_used (t : Trio w V B st) (i : Nat) : ∃ l : List Int, l.length ≤ 2048 ∧ Calls Try.prog 14 #[slotP (st i)] w fun e w1 => ∃ v, e = .returned v ∧ Calls Try.prog 15 #[slotR (st i)] w1 fun e w2 => ∃ v2, e = .returned v2 ∧ Cells w2 v (is l) ∧ Cells w2 v2 (is l) ∧ Keeps (fun _ => False) w w2 := by
  cases hs : st i with
  | none =>
    refine ⟨[], by simp, (used_nil w).mono ?_⟩
    rintro e w1 ⟨rfl, rfl⟩
    refine ⟨_, rfl, (rused_nil w1).mono ?_⟩
    rintro e w2 ⟨rfl, rfl⟩
    exact ⟨_, rfl, ⟨⟨_, _, rfl⟩, fun h => by simp [is] at h⟩, ⟨⟨_, _, rfl⟩, fun h => by simp [is] at h⟩, Keeps.refl _ _⟩
  | some d =>
    obtain ⟨s, T⟩ := d
    have d := t.duo i s T hs
    refine ⟨usedTo s.now s.n, by have h1 := usedTo_le s.now s.n; have h2 := d.p.n2; omega, (used_any w B s d.p).mono ?_⟩
    rintro e w1 ⟨v, rfl, h1, h2⟩
    refine ⟨v, rfl, (rused_any _ B 73 T s.bk (d.r.keepF h2)).mono ?_⟩
    rintro e w2 ⟨v2, rfl, h3, h4⟩
    exact ⟨v2, rfl, (cells_row h1 (is_length _)).keepF h4, cells_row h3 (is_length _), h2.trans h4⟩
theorem look_bits (t : Trio w V B st) (i : Nat) : ∃ l : List Int, l.length ≤ 2048 ∧ Calls Try.prog 18 #[slotP (st i)] w fun e w1 => ∃ v, e = .returned v ∧ Calls Try.prog 19 #[slotR (st i)] w1 fun e w2 => ∃ v2, e = .returned v2 ∧ Cells w2 v (bs l) ∧ Cells w2 v2 (bs l) ∧ Keeps (fun _ => False) w w2 := by
  cases hs : st i with
  | none =>
    refine ⟨[], by simp, (bitmap_nil w).mono ?_⟩
    rintro e w1 ⟨rfl, rfl⟩
    refine ⟨_, rfl, (rbitmap_nil w1).mono ?_⟩
    rintro e w2 ⟨rfl, rfl⟩
    exact ⟨_, rfl, ⟨⟨_, _, rfl⟩, fun h => by simp [bs] at h⟩, ⟨⟨_, _, rfl⟩, fun h => by simp [bs] at h⟩, Keeps.refl _ _⟩
  | some d =>
    obtain ⟨s, T⟩ := d
    have d := t.duo i s T hs
    refine ⟨pack s.now, by rw [pack_length, d.p.now.len]; have h2 := d.p.n2; omega, (bitmap_any w B s d.p).mono ?_⟩
    rintro e w1 ⟨rfl, rfl⟩
    have hk : Keeps (fun _ => False) w (w.alloc (.cells (bs (pack s.now)).toArray 5)) := (Keeps.refl _ _).alloc _
    refine ⟨_, rfl, (rbitmap_any _ B 73 T s.bk (d.r.keepF hk)).mono ?_⟩
    rintro e w2 ⟨v2, rfl, h3, h4⟩
    have hc : Cells w2 v2 (bs (pack s.now)) := by
      have hl : (bs (pack s.bk.now)).length = nb s.bk.n := by rw [bs_length, pack_length]; show (s.now.length + 7) / 8 = nb s.n; rw [d.p.now.len]; rfl
      exact cells_row h3 hl
    exact ⟨v2, rfl, (bits_cells w s d.p).keepF h4, hc, hk.trans h4⟩
end
end Go.Proofs.Ytdkihkgmldnpmab
