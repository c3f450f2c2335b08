import Derived.Test.YtabjomgikljdhaaDoorJa
namespace Go.Proofs.YtabjomgikljdhaaDoor
open Go.RowKit Go.Maps

def runeOf (c d : Int) (m1 m2 m3 : Bool) : Int :=
  if 194 ≤ c ∧ c ≤ 223 ∧ m1 = true then 2
  else if 224 ≤ c ∧ c ≤ 239 ∧ m1 = true ∧ m2 = true then
    if (c = 224 ∧ d < 160) ∨ (c = 237 ∧ 159 < d) then 0 else 3
  else if 240 ≤ c ∧ c ≤ 244 ∧ m1 = true ∧ m2 = true ∧ m3 = true then
    if (c = 240 ∧ d < 144) ∨ (c = 244 ∧ 143 < d) then 0 else 4
  else 0
/-- How many bytes the rune of U+0080 or above takes that begins at a place of a text; 0: none does. -/
def runeB (t : Txt) (a : Nat) : Int :=
  if t.length ≤ a then 0
  else runeOf (nth t a) (nth t (a + 1)) (moreB t (a + 1)) (moreB t (a + 2)) (moreB t (a + 3))

theorem nth_of {t : Txt} {k : Nat} {c : UInt8} (h : t[k]? = some c) : nth t k = num c := by simp [nth, List.getD, h]
theorem moreB_some {t : Txt} {k : Nat} (h : moreB t k = true) : ∃ c, t[k]? = some c := by
  unfold moreB at h
  cases e : t[k]? with
  | none => simp [e] at h
  | some c => exact ⟨c, rfl⟩

end Go.Proofs.YtabjomgikljdhaaDoor
