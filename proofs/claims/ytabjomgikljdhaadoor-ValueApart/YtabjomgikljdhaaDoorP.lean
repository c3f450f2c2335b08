import Derived.Test.YtabjomgikljdhaaDoorK
import Derived.Test.YtabjomgikljdhaaDoorO
namespace Go.Proofs.YtabjomgikljdhaaDoor
open Go.RowKit Go.Maps

theorem vcs_snoc (l : List ValA) (x : ValA) : vcs (l ++ [x]) = vcs l ++ x.cs := by simp [vcs]
end Go.Proofs.YtabjomgikljdhaaDoor
