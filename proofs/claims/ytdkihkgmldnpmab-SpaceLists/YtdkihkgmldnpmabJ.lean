import Derived.Test.YtdkihkgmldnpmabF
namespace Go.Proofs.Ytdkihkgmldnpmab
open Go.RowKit Go.Maps

/-- What a space holds, wherever it lies. -/
structure Bk where
  n : Nat
  now : List Bool
  mark : List Bool
  last : List Bool

def Bk.isOpen (b : Bk) (i : Nat) : Bool := !on b.now i && !on b.mark i && !on b.last i
def SP.bk (s : SP) : Bk := ⟨s.n, s.now, s.mark, s.last⟩
def SP.put (s : SP) (b : Bk) : SP := { s with now := b.now, mark := b.mark, last := b.last }

def firstTo (p : Nat → Bool) : Nat → Option Nat
  | 0 => none
  | n + 1 => match firstTo p n with
    | some i => some i
    | none => if p n then some n else none
theorem firstTo_none {p : Nat → Bool} : ∀ {n : Nat}, firstTo p n = none → ∀ j, j < n → p j = false
  | 0, _, j, hj => by omega
  | n + 1, h, j, hj => by
    simp only [firstTo] at h
    cases hf : firstTo p n with
    | some k => rw [hf] at h; simp at h
    | none =>
      rw [hf] at h
      by_cases hp : p n = true
      · simp [hp] at h
      · by_cases e : j = n
        · subst e; simpa using hp
        · exact firstTo_none hf j (by omega)
theorem firstTo_some {p : Nat → Bool} : ∀ {n i : Nat}, firstTo p n = some i → i < n ∧ p i = true ∧ ∀ j, j < i → p j = false
  | 0, i, h => by cases h
  | n + 1, i, h => by
    simp only [firstTo] at h
    have hn := @firstTo_none p n
    cases hf : firstTo p n with
    | some k =>
      rw [hf] at h
      simp at h
      subst h
      obtain ⟨h1, h2, h3⟩ := firstTo_some hf
      exact ⟨by omega, h2, h3⟩
    | none =>
      rw [hf] at h
      by_cases hp : p n = true
      · simp [hp] at h
        subst h
        exact ⟨by omega, hp, fun j hj => hn hf j hj⟩
      · simp [hp] at h


def Bk.first (b : Bk) : Option Nat := firstTo b.isOpen b.n
def Bk.takeN (b : Bk) : Nat := b.first.getD 0
def Bk.takeE (b : Bk) : Int := if b.first.isSome then 0 else 30
def Bk.take (b : Bk) : Bk := match b.first with
  | some i => { b with now := b.now.set i true }
  | none => b
def Bk.inUse (b : Bk) (k : Int) : Bool := decide (0 ≤ k) && on b.now k.toNat
def Bk.give (b : Bk) (k : Int) : Bk := if b.inUse k then { b with now := b.now.set k.toNat false } else b
def Bk.giveE (b : Bk) (k : Int) : Int := if b.inUse k then 0 else 31
def Bk.settle (b : Bk) : Bk := { b with mark := b.now, last := b.now }
def Bk.setMark (b : Bk) : Bk := { b with mark := b.now }
def Bk.undo (b : Bk) : Bk := { b with now := b.mark }
def Bk.does (b : Bk) (k : Int) : Bk :=
  if 0 ≤ k then b.give k else if k = -1 then b.take else if k = -2 then b.settle else if k = -3 then b.setMark else if k = -4 then b.undo else b

theorem Bk.take_n (b : Bk) : b.take.n = b.n := by unfold Bk.take; split <;> rfl
theorem Bk.give_n (b : Bk) (k : Int) : (b.give k).n = b.n := by unfold Bk.give; split <;> rfl
theorem Bk.does_n (b : Bk) (k : Int) : (b.does k).n = b.n := by
  unfold Bk.does
  split
  · exact b.give_n k
  · split
    · exact b.take_n
    · split
      · rfl
      · split
        · rfl
        · split <;> rfl

theorem SP.put_bk (s : SP) (b : Bk) (h : b.n = s.n) : (s.put b).bk = b := by
  cases b; simp only [SP.put, SP.bk] at *; rw [h]
theorem SP.put_put (s : SP) (b c : Bk) : (s.put b).put c = s.put c := rfl
theorem SP.put_self (s : SP) : s.put s.bk = s := rfl

theorem SP.own_of {s : SP} {k : Nat} (h : k = s.x) : s.own k := Or.inl h

theorem take_any (w : World) (B : Nat) (s : SP) (h : SpaceAt w B s) :
    Calls Try.prog 36 #[.pointer (some ⟨s.S, 0, none⟩)] w fun e w' => e = .returned (.tuple #[.int .i64 s.bk.takeN, .int .i64 s.bk.takeE]) ∧ SpaceAt w' B (s.put s.bk.take) ∧ Keeps s.own w w' := by
  cases hf : s.bk.first with
  | some i =>
    obtain ⟨h1, h2, h3⟩ := firstTo_some (p := s.bk.isOpen) hf
    refine (take_some w B s h i h1 h2 h3).mono ?_
    rintro e w' ⟨rfl, h4, h5⟩
    refine ⟨by simp [Bk.takeN, Bk.takeE, hf], ?_, h5.mono (fun _ _ e => Or.inl e)⟩
    have e1 : s.bk.take = { s.bk with now := s.bk.now.set i true } := by unfold Bk.take; rw [hf]
    rw [e1]; exact h4
  | none =>
    refine (take_none w B s h (firstTo_none (p := s.bk.isOpen) hf)).mono ?_
    rintro e w' ⟨rfl, k, rfl⟩
    refine ⟨by simp [Bk.takeN, Bk.takeE, hf], ?_, (keeps_drewN w k).any⟩
    have e1 : s.bk.take = s.bk := by unfold Bk.take; rw [hf]
    rw [e1]; exact h.drewN k

theorem give_any (w : World) (B : Nat) (s : SP) (h : SpaceAt w B s) (k : Int) :
    Calls Try.prog 38 #[.pointer (some ⟨s.S, 0, none⟩), .int .i64 k] w fun e w' => e = .returned (.int .i64 (s.bk.giveE k)) ∧ SpaceAt w' B (s.put (s.bk.give k)) ∧ Keeps s.own w w' := by
  cases hu : s.bk.inUse k with
  | true =>
    simp only [Bk.inUse, Bool.and_eq_true, decide_eq_true_eq] at hu
    obtain ⟨i, rfl⟩ := Int.eq_ofNat_of_zero_le hu.1
    have hu2 : on s.now i = true := by have := hu.2; rw [Int.toNat_natCast] at this; exact this
    have hin : s.bk.inUse (i : Int) = true := by simp [Bk.inUse, SP.bk, hu2]
    refine (give_yes w B s h i hu2).mono ?_
    rintro e w' ⟨rfl, h4, h5⟩
    refine ⟨by simp [Bk.giveE, hin], ?_, h5.mono (fun _ _ e => Or.inl e)⟩
    have e1 : s.bk.give i = { s.bk with now := s.bk.now.set i false } := by unfold Bk.give; rw [if_pos hin, Int.toNat_natCast]
    rw [e1]; exact h4
  | false =>
    have hu' : k < 0 ∨ on s.now k.toNat = false := by
      simp only [Bk.inUse, Bool.and_eq_false_iff, decide_eq_false_iff_not] at hu
      rcases hu with hu | hu
      · exact Or.inl (by omega)
      · exact Or.inr hu
    refine (give_no w B s h k hu').mono ?_
    rintro e w' ⟨rfl, m, rfl⟩
    refine ⟨by simp [Bk.giveE, hu], ?_, (keeps_drewN w m).any⟩
    have e1 : s.bk.give k = s.bk := by unfold Bk.give; rw [if_neg (by rw [hu]; simp)]
    rw [e1]; exact h.drewN m

theorem settle_bk (w : World) (B : Nat) (s : SP) (h : SpaceAt w B s) :
    Calls Try.prog 27 #[.pointer (some ⟨s.S, 0, none⟩)] w fun e w' => e = .returned (.tuple #[]) ∧ SpaceAt w' B (s.put s.bk.settle) ∧ Keeps s.own w w' := by
  refine (settle_any w B s h).mono ?_
  rintro e w' ⟨rfl, h4, h5⟩
  exact ⟨rfl, h4, h5.mono (fun _ _ e => e.elim (fun e => Or.inr (Or.inl e)) (fun e => Or.inr (Or.inr e)))⟩
theorem mark_bk (w : World) (B : Nat) (s : SP) (h : SpaceAt w B s) :
    Calls Try.prog 40 #[.pointer (some ⟨s.S, 0, none⟩)] w fun e w' => e = .returned (.tuple #[]) ∧ SpaceAt w' B (s.put s.bk.setMark) ∧ Keeps s.own w w' := by
  refine (mark_any w B s h).mono ?_
  rintro e w' ⟨rfl, h4, h5⟩
  exact ⟨rfl, h4, h5.mono (fun _ _ e => Or.inr (Or.inl e))⟩
theorem undo_bk (w : World) (B : Nat) (s : SP) (h : SpaceAt w B s) :
    Calls Try.prog 42 #[.pointer (some ⟨s.S, 0, none⟩)] w fun e w' => e = .returned (.tuple #[]) ∧ SpaceAt w' B (s.put s.bk.undo) ∧ Keeps s.own w w' := by
  refine (undo_any w B s h).mono ?_
  rintro e w' ⟨rfl, h4, h5⟩
  exact ⟨rfl, h4, h5.mono (fun _ _ e => Or.inl e)⟩

end Go.Proofs.Ytdkihkgmldnpmab
