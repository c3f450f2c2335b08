import Derived.Test.YtafniangljmjeaaDoorCa
namespace Go.Proofs.YtafniangljmjeaaDoor
open Go.RowKit Go.Maps

/-- A row of the table of operations. -/
structure OpA where
  word : Txt
  opd : Int
  takes : Nat
  of : Int
  gives : Int
def opsL : List OpA := [⟨[], 0, 0, 0, 0⟩, ⟨[112, 117, 115, 104], 1, 0, 0, 1⟩, ⟨[116, 114, 117, 101], 0, 0, 0, 2⟩, ⟨[102, 97, 108, 115, 101], 0, 0, 0, 2⟩, ⟨[98, 121, 116, 101, 115], 2, 0, 0, 3⟩, ⟨[108, 111, 97, 100], 3, 0, 0, 4⟩, ⟨[104, 97, 115], 4, 0, 0, 2⟩, ⟨[104, 101, 114, 101], 0, 0, 0, 2⟩,
  ⟨[110, 111, 116], 0, 1, 2, 2⟩, ⟨[110, 101, 103], 0, 1, 1, 1⟩, ⟨[97, 100, 100], 0, 2, 1, 1⟩, ⟨[115, 117, 98], 0, 2, 1, 1⟩, ⟨[109, 117, 108], 0, 2, 1, 1⟩, ⟨[109, 105, 110], 0, 2, 1, 1⟩, ⟨[109, 97, 120], 0, 2, 1, 1⟩, ⟨[108, 116], 0, 2, 5, 2⟩, ⟨[108, 101], 0, 2, 5, 2⟩, ⟨[101, 113], 0, 2, 6, 2⟩, ⟨[108, 101, 110], 0, 1, 3, 1⟩, ⟨[99, 97, 116], 0, 2, 3, 3⟩,
  ⟨[115, 116, 111, 114, 101], 3, 1, 4, 0⟩, ⟨[97, 100, 100, 116, 111], 5, 1, 1, 0⟩, ⟨[99, 108, 101, 97, 114], 4, 0, 0, 0⟩, ⟨[110, 101, 119], 0, 0, 0, 0⟩, ⟨[100, 101, 108, 101, 116, 101], 0, 0, 0, 0⟩, ⟨[106, 117, 109, 112], 6, 0, 0, 0⟩, ⟨[117, 110, 108, 101, 115, 115], 6, 1, 2, 0⟩]
def opA (o : Int) : OpA := (opsL[o.toNat]?).getD ⟨[], 0, 0, 0, 0⟩
theorem op_cases {o : Int} (h : opdB o ≠ -1) : o ∈ ([1, 2, 3, 4, 5, 6, 7, 8, 9, 10, 11, 12, 13, 14, 15, 16, 17, 18, 19, 20, 21, 22, 23, 24, 25, 26] : List Int) := by
  have := opdB_range h
  simp only [List.mem_cons, List.not_mem_nil, or_false]
  omega
theorem opd_of : ∀ o ∈ ([1, 2, 3, 4, 5, 6, 7, 8, 9, 10, 11, 12, 13, 14, 15, 16, 17, 18, 19, 20, 21, 22, 23, 24, 25, 26] : List Int), opdB o = (if (opA o).opd = 6 then 4 else if 3 ≤ (opA o).opd then 3 else (opA o).opd) ∧ 0 ≤ (opA o).opd ∧ (opA o).opd ≤ 6 := by decide

end Go.Proofs.YtafniangljmjeaaDoor
