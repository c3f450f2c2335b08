import Derived.Test.YtlnkleicnkfkpaaDoorEx
namespace Go.Proofs.YtlnkleicnkfkpaaDoor
open Go.RowKit Go.Maps

/-- Decimal digits. -/
def decN (u : Nat) : Txt := if _h : u = 0 then [] else decN (u / 10) ++ [UInt8.ofNat (48 + u % 10)]
def decimal (n : Int) : Txt := if n = 0 then [48] else if n < 0 then 45 :: decN n.natAbs else decN n.natAbs
def hexD (n : Nat) : UInt8 := if n < 10 then UInt8.ofNat (48 + n) else UInt8.ofNat (87 + n)
def quote1 (c : UInt8) : Txt := if c = 34 ∨ c = 92 then [92, c] else if 32 ≤ c.toNat ∧ c.toNat ≤ 126 then [c] else [92, 120, hexD (c.toNat / 16), hexD (c.toNat % 16)]
def quoteB (t : Txt) : Txt := 34 :: (t.flatMap quote1 ++ [34])
/-- The text of an expression without kids. -/
def simpleT (op n : Int) (s : Txt) : Txt :=
  if op = 1 then decimal n else if op = 2 then (if n = 1 then [116, 114, 117, 101] else [102, 97, 108, 115, 101]) else if op = 3 then quoteB s
  else if op = 5 then [104, 97, 115, 32] ++ s else if op = 6 then [104, 101, 114, 101] else s
/-- The rank of an expression. -/
def rankB (op n : Int) : Int :=
  if op = 19 then 1 else if op = 18 then 2 else if op = 7 then 3 else if op = 20 then 5 else if op = 9 ∨ op = 10 then 6 else if op = 11 then 7 else if op = 8 then 8
  else if op = 1 then (if n < 0 then 8 else 9) else if 12 ≤ op ∧ op ≤ 17 then 4 else 9
/-- The operations between two kids: mark, rank wanted on the left, on the right. -/
def betweens : List (Int × Txt × Int × Int) := [(16, [61, 61], 5, 5), (17, [33, 61], 5, 5), (12, [60], 5, 5), (13, [60, 61], 5, 5), (14, [62], 5, 5), (15, [62, 61], 5, 5), (19, [111, 114], 1, 2), (18, [97, 110, 100], 2, 3), (20, [63, 63], 6, 5), (9, [43], 6, 7), (10, [45], 6, 7), (11, [42], 7, 8)]
def callsT : List (Int × Txt) := [(21, [109, 105, 110]), (22, [109, 97, 120]), (24, [99, 97, 116]), (23, [108, 101, 110]), (25, [112, 105, 99, 107])]
/-- A kid: its operation, its number, its text. -/
abbrev Kid := Int × Int × Txt
def atT (k : Kid) (want : Int) : Txt := if rankB k.1 k.2.1 < want then [40] ++ k.2.2 ++ [41] else k.2.2
/-- Texts with a comma between them. -/
def commas : List Txt → Txt
  | [] => []
  | [t] => t
  | t :: u :: r => t ++ [44, 32] ++ commas (u :: r)
def nodeT (op n : Int) (s : Txt) (ks : List Kid) : Txt :=
  match betweens.find? (fun b => decide (b.1 = op)), callsT.find? (fun c => decide (c.1 = op)), ks with
  | some (_, m, l, r), _, k0 :: k1 :: _ => atT k0 l ++ [32] ++ m ++ [32] ++ atT k1 r
  | some _, _, _ => []
  | none, some (_, wd), ks => wd ++ [40] ++ commas (ks.map fun k => k.2.2) ++ [41]
  | none, none, ks => if op = 7 then (match ks with
      | k0 :: _ => [110, 111, 116, 32] ++ atT k0 3
      | [] => []) else if op = 8 then (match ks with
      | k0 :: _ => if k0.1 = 1 ∧ 0 ≤ k0.2.1 then [45, 40] ++ k0.2.2 ++ [41] else [45] ++ atT k0 8
      | [] => []) else simpleT op n s
def txs : EL → List Kid
  | .nil => []
  | .cons op n s k r => (op, n, nodeT op n s (txs k)) :: txs r
/-- The text of an expression. -/
def textE (op n : Int) (s : Txt) (kids : EL) : Txt := nodeT op n s (txs kids)
/-- Numbers are of 64 bits. -/
def intE : EL → Prop
  | .nil => True
  | .cons _ n _ k r => (-9223372036854775808 ≤ n ∧ n ≤ 9223372036854775807) ∧ intE k ∧ intE r
end Go.Proofs.YtlnkleicnkfkpaaDoor
