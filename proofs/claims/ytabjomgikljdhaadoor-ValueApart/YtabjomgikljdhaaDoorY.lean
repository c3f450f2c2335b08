import Derived.Test.YtabjomgikljdhaaDoorX
namespace Go.Proofs.YtabjomgikljdhaaDoor
open Go.RowKit Go.Maps

theorem ret_sii {s u : Txt} {a b c d : Int} (h : s = u) (h2 : a = b) (h3 : c = d) : Ending.returned (.tuple #[str s, .int .i64 a, .int .i64 c]) = .returned (.tuple #[str u, .int .i64 b, .int .i64 d]) := by rw [h, h2, h3]
/-- What stands for all from here on. -/
def unqRes (o : Option (Txt × Nat)) : Txt × Nat × Int := match o with
  | some (b, n) => (b, n, 0)
  | none => ([], 0, 63)
theorem unqLoop_end {f : Nat} {t b : Txt} {a : Nat} (h : t.length ≤ a ∨ 20 < b.length) : unqLoop f t b a = none := by
  cases f with
  | zero => rfl
  | succ f =>
    rw [unqLoop]
    split
    · rcases h with h | h
      · rw [List.getElem?_eq_none h]
      · omega
    · rfl
theorem unqLoop_step {f : Nat} {t b : Txt} {a : Nat} {c : UInt8} (hb : b.length ≤ 20) (hc : t[a]? = some c) : unqLoop (f + 1) t b a = if c = 34 then some (b, a + 1) else if (pieceB t a c).2 = 0 then none else unqLoop f t (b ++ (pieceB t a c).1) (a + (pieceB t a c).2) := by
  rw [unqLoop, if_pos hb, hc]

theorem escB_le (t : Txt) (a : Nat) (h : a < t.length) : a + (escB t a).2.toNat ≤ t.length := by
  unfold escB
  cases h1 : t[a + 1]? with
  | none => simp; omega
  | some c =>
    have l1 := get_lt h1
    simp only
    repeat' split
    all_goals simp
    all_goals try omega
    rename_i x y hx hy hh
    have := get_lt hy
    omega

end Go.Proofs.YtabjomgikljdhaaDoor
