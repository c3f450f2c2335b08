import Derived.Test.YtlnkleicnkfkpaaDoorEa
import Derived.Test.YtlnkleicnkfkpaaDoorNb
namespace Go.Proofs.YtlnkleicnkfkpaaDoor
open Go.RowKit Go.Maps

/-- How many kids an operation has; -1: there is no such operation. -/
def kidsB (op : Int) : Int := if 1 ≤ op ∧ op ≤ 6 then 0 else if op = 7 ∨ op = 8 ∨ op = 23 then 1 else if 9 ≤ op ∧ op ≤ 24 then 2 else if op = 25 then 3 else -1
/-- May a leaf hold this number and this text? -/
def leafB (op n : Int) (s : Txt) : Bool :=
  if op = 1 then decide (s = []) else if op = 2 then decide (s = []) && (decide (n = 0) || decide (n = 1)) else if op = 3 then decide (n = 0) && decide (s.length ≤ 20)
  else if op = 4 ∨ op = 5 then decide (n = 0) && nameB s else decide (n = 0) && decide (s = [])
/-- Has an expression just what its operation has? -/
def rootB (op n : Int) (s : Txt) (k : Nat) : Bool := decide (0 ≤ kidsB op) && (decide ((k : Int) = kidsB op) && leafB op n s)
def wellE : EL → Bool
  | .nil => true
  | .cons op n s k r => rootB op n s k.len && (wellE k && wellE r)
/-- Has a statement just the parts that its operation has? -/
def headB (op : Int) (f : Txt) (x t e : Nat) : Bool :=
  if op = 1 ∨ op = 2 ∨ op = 3 ∨ op = 4 then nameB f && (decide (x = 1) && (decide (t = 0) && decide (e = 0)))
  else if op = 5 then nameB f && (decide (x = 0) && (decide (t = 0) && decide (e = 0)))
  else if op = 6 ∨ op = 7 then decide (f = []) && (decide (x = 0) && (decide (t = 0) && decide (e = 0)))
  else if op = 8 then decide (f = []) && decide (x = 1) else false
def wellS : SL → Bool
  | .nil => true
  | .cons op f x t e r => headB op f x.len t.len e.len && (wellE x && (wellS t && (wellS e && wellS r)))
def depthE : EL → Nat
  | .nil => 0
  | .cons _ _ _ k r => max (1 + depthE k) (depthE r)
def depthS : SL → Nat
  | .nil => 0
  | .cons _ _ x t e r => max (1 + max (depthE x) (max (depthS t) (depthS e))) (depthS r)
def countS : SL → Nat
  | .nil => 0
  | .cons _ _ _ t e r => 1 + countS t + countS e + countS r
def checkS (l : SL) : Int := if wellS l = false then 83 else if 32 < countS l then 82 else if 12 < depthS l then 81 else 0
def checkE (l : EL) : Int := if wellE l = false then 83 else if 12 < depthE l then 81 else 0
theorem depthE_le : ∀ l : EL, depthE l ≤ l.size
  | .nil => Nat.le_refl _
  | .cons _ _ _ k r => by have := depthE_le k; have := depthE_le r; simp only [depthE, EL.size]; omega
theorem depthS_le : ∀ l : SL, depthS l ≤ l.size
  | .nil => Nat.le_refl _
  | .cons _ _ x t e r => by have := depthE_le x; have := depthS_le t; have := depthS_le e; have := depthS_le r; simp only [depthS, SL.size]; omega
theorem countS_le : ∀ l : SL, countS l ≤ l.size
  | .nil => Nat.le_refl _
  | .cons _ _ x t e r => by have := countS_le t; have := countS_le e; have := countS_le r; simp only [countS, SL.size]; omega
end Go.Proofs.YtlnkleicnkfkpaaDoor
