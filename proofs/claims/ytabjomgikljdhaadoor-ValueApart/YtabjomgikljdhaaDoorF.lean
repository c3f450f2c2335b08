import Derived.Test.YtabjomgikljdhaaDoorJa
namespace Go.Proofs.YtabjomgikljdhaaDoor
open Go.RowKit Go.Maps

def decN (u : Nat) : Txt := if _h : u = 0 then [] else decN (u / 10) ++ [UInt8.ofNat (48 + u % 10)]
def decimal (n : Int) : Txt := if n = 0 then [48] else if n < 0 then 45 :: decN n.natAbs else decN n.natAbs

theorem decN_zero : decN 0 = [] := by unfold decN; simp
theorem decN_pos {u : Nat} (h : 0 < u) : decN u = decN (u / 10) ++ [UInt8.ofNat (48 + u % 10)] := by
  rw [decN, dif_neg (by omega)]
theorem decN_length (k : Nat) : ∀ u, u < 10 ^ k → (decN u).length ≤ k := by
  induction k with
  | zero => intro u h; simp at h; subst h; simp [decN_zero]
  | succ k ih =>
    intro u h
    by_cases h0 : u = 0
    · subst h0; simp [decN_zero]
    · rw [decN_pos (by omega)]
      have := ih (u / 10) (by rw [Nat.pow_succ] at h; omega)
      simp; omega
theorem decN_20 (u : Nat) (h : u ≤ 9223372036854775808) : (decN u).length ≤ 19 := decN_length 19 u (by omega)

theorem digit_num (u : Nat) : num (UInt8.ofNat (48 + u % 10)) = 48 + (u : Int) % 10 := by
  unfold num
  rw [UInt8.toNat_ofNat']
  have : u % 10 < 10 := Nat.mod_lt _ (by decide)
  omega
end Go.Proofs.YtabjomgikljdhaaDoor
