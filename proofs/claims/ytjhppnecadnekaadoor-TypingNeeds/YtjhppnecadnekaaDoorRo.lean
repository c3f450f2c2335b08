import Derived.Test.YtjhppnecadnekaaDoorRn
import Derived.Test.YtjhppnecadnekaaDoorJk
import Derived.Test.YtjhppnecadnekaaDoorMc
namespace Go.Proofs.YtjhppnecadnekaaDoor
open Go.RowKit Go.Maps

theorem rowV_H (S : List FieldA) : (rowV S true).map ValA.kind = rowH S := by
  unfold rowV rowH
  rw [List.map_map]
  apply List.map_congr_left
  intro f _
  simp
theorem rowV_G (S : List FieldA) : (rowV S false).map ValA.kind = rowG S := by
  unfold rowV rowG
  rw [List.map_map]
  apply List.map_congr_left
  intro f _
  cases h : f.opt <;> simp [h]
theorem rowV_len (S : List FieldA) (p : Bool) : (rowV S p).length = S.length := by simp [rowV]
end Go.Proofs.YtjhppnecadnekaaDoor
