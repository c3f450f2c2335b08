import Derived.Test.YtklkhegeeglfbaaGreatDoorJa
import Derived.Test.YtklkhegeeglfbaaGreatDoorJzac
namespace Go.Proofs.YtklkhegeeglfbaaGreatDoor
open Go.RowKit Go.Maps

def runeOf (c d : Int) (m1 m2 m3 : Bool) : Int :=
  if 194 ≤ c ∧ c ≤ 223 ∧ m1 = true then 2
  else if 224 ≤ c ∧ c ≤ 239 ∧ m1 = true ∧ m2 = true then
    if (c = 224 ∧ d < 160) ∨ (c = 237 ∧ 159 < d) then 0 else 3
  else if 240 ≤ c ∧ c ≤ 244 ∧ m1 = true ∧ m2 = true ∧ m3 = true then
    if (c = 240 ∧ d < 144) ∨ (c = 244 ∧ 143 < d) then 0 else 4
  else 0
/-- How many bytes the rune of U+0080 or above takes that begins at a place of a text; 0: none does. -/
def runeB (t : Txt) (a : Nat) : Int :=
  if t.length ≤ a then 0
  else runeOf (nth t a) (nth t (a + 1)) (moreB t (a + 1)) (moreB t (a + 2)) (moreB t (a + 3))

theorem nth_of {t : Txt} {k : Nat} {c : UInt8} (h : t[k]? = some c) : nth t k = num c := by simp [nth, List.getD, h]
theorem moreB_some {t : Txt} {k : Nat} (h : moreB t k = true) : ∃ c, t[k]? = some c := by
  unfold moreB at h
  cases e : t[k]? with
  | none => simp [e] at h
  | some c => exact ⟨c, rfl⟩

end Go.Proofs.YtklkhegeeglfbaaGreatDoor
namespace Go.Proofs.YtklkhegeeglfbaaGreatDoor
open Go.RowKit Go.Maps

/-- The byte that the escape at a place means (a \ stands there), and how many bytes it takes; 0: none. -/
def escB (t : Txt) (a : Nat) : Int × Int :=
  match t[a + 1]? with
  | none => (0, 0)
  | some c =>
    if num c = 34 then (34, 2) else if num c = 92 then (92, 2) else if num c = 110 then (10, 2) else if num c = 116 then (9, 2)
    else if num c = 120 then
      match t[a + 2]?, t[a + 3]? with
      | some h, some l => if hexB (num h) < 0 ∨ hexB (num l) < 0 then (0, 0) else (16 * hexB (num h) + hexB (num l), 4)
      | _, _ => (0, 0)
    else (0, 0)

theorem hexB_range (c : Int) : -1 ≤ hexB c ∧ hexB c ≤ 15 := by
  unfold hexB
  repeat' split
  all_goals omega

theorem escB_in (t : Txt) (a : Nat) {c h l : UInt8} (e1 : t[a + 1]? = some c) (e2 : t[a + 2]? = some h) (e3 : t[a + 3]? = some l) (hc : num c = 120) :
    escB t a = if hexB (num h) < 0 ∨ hexB (num l) < 0 then (0, 0) else (16 * hexB (num h) + hexB (num l), 4) := by
  simp [escB, e1, e2, e3, hc]

end Go.Proofs.YtklkhegeeglfbaaGreatDoor
namespace Go.Proofs.YtklkhegeeglfbaaGreatDoor
open Go.RowKit Go.Maps

/-- The bytes of the piece at a place, and how many it takes (0: it is none). -/
def pieceB (t : Txt) (a : Nat) (c : UInt8) : Txt × Nat :=
  if c = 92 then ([UInt8.ofNat (escB t a).1.toNat], (escB t a).2.toNat)
  else if 32 ≤ num c ∧ num c ≤ 126 then ([c], 1)
  else ((t.drop a).take (runeB t a).toNat, (runeB t a).toNat)
def unqLoop : Nat → Txt → Txt → Nat → Option (Txt × Nat)
  | 0, _, _, _ => none
  | f + 1, t, b, a =>
    if b.length ≤ 20 then
      match t[a]? with
      | none => none
      | some c => if c = 34 then some (b, a + 1) else if (pieceB t a c).2 = 0 then none else unqLoop f t (b ++ (pieceB t a c).1) (a + (pieceB t a c).2)
    else none
def unquoteB (t : Txt) : Txt × Nat × Int :=
  if t[0]? = some 34 then (match unqLoop t.length t [] 1 with
    | some (b, n) => (b, n, 0)
    | none => ([], 0, 63))
  else ([], 0, 63)

theorem escB_range (t : Txt) (a : Nat) : 0 ≤ (escB t a).1 ∧ (escB t a).1 ≤ 255 ∧ ((escB t a).2 = 0 ∨ (escB t a).2 = 2 ∨ (escB t a).2 = 4) := by
  unfold escB
  split
  · simp
  · repeat' split
    all_goals simp
    rename_i h l h1 h2 hh
    have r1 := hexB_range (num h)
    have r2 := hexB_range (num l)
    omega
theorem runeB_le (t : Txt) (a : Nat) : runeB t a = 0 ∨ (2 ≤ runeB t a ∧ runeB t a ≤ 4 ∧ a + (runeB t a).toNat ≤ t.length) := by
  unfold runeB
  split
  · exact Or.inl rfl
  · have l1 : ∀ k, moreB t k = true → k < t.length := fun k h => by obtain ⟨c, hc⟩ := moreB_some h; exact get_lt hc
    unfold runeOf
    split
    · rename_i h; have := l1 _ h.2.2; right; simp; omega
    · split
      · rename_i h; have := l1 _ h.2.2.2
        split
        · simp
        · right; simp; omega
      · split
        · rename_i h; have := l1 _ h.2.2.2.2
          split
          · simp
          · right; simp; omega
        · simp
theorem conv_nil (w : World) : (convert 30 9 (.slice none 0 0)).run Tryz.prog w = .ok (str []) w := by
  rw [run_convert_bytes_string w 30 9 5 none 0 0 Tryz.underlying30 Tryz.underlying5 Tryz.underlying9]
  rfl
theorem conv_any {w : World} {B n : Nat} {v : Value} {A : Txt} (h : w.ownsRow B 5 1 v n (bs A)) : (convert 30 9 v).run Tryz.prog w = .ok (str A) w := by
  obtain ⟨h1, h2⟩ := h
  rcases h2 with ⟨hv, hn⟩ | ⟨g, cap, cur, hv, hb, hg, h3, h4, h5, h6⟩
  · subst hn
    obtain rfl : A = [] := by
      rw [bs_length] at h1
      exact List.eq_nil_of_length_eq_zero (by omega)
    rw [hv]
    exact conv_nil w
  · rw [bs_length, Nat.mul_one] at h1
    subst h1
    rw [hv]
    refine conv_bytes w g cap A (fun j c hj => ?_)
    rw [cell_of_blk hg]
    have h7 : (bs A)[j]? = some (.int .u8 (num c)) := by rw [bs_get, hj]; rfl
    rw [← h6, List.getElem?_take] at h7
    split at h7
    · simpa using h7
    · cases h7

end Go.Proofs.YtklkhegeeglfbaaGreatDoor
