import Derived.Test.YtabjomgikljdhaaDoorJb
namespace Go.Proofs.YtabjomgikljdhaaDoor
open Go.RowKit Go.Maps

theorem flds_own {w : World} {B : Nat} {v : Value} {l : List FieldA} (h : w.ownsRow B 48 3 v l.length (fcs l)) : FldsAt w v l := rowAt_own h
theorem vals_own {w : World} {B : Nat} {v : Value} {l : List ValA} (h : w.ownsRow B 54 3 v l.length (vcs l)) : ValsAt w v l := rowAt_own h
theorem bytes_own {w : World} {B : Nat} {v : Value} {l : Txt} (h : w.ownsRow B 5 1 v l.length (bs l)) : BytesAt w v l := rowAt_own h
theorem len_max {n : Nat} (h : n ≤ 1099511627776) : n ≤ maxLen := by unfold maxLen; omega

end Go.Proofs.YtabjomgikljdhaaDoor
