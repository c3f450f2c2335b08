import Derived.Test.YtljoacpaehmbdaaGreatDoorQd
import Derived.Test.YtljoacpaehmbdaaGreatDoorJzaj
namespace Go.Proofs.YtljoacpaehmbdaaGreatDoor
open Go.RowKit Go.Maps

theorem checkS_well {l : SL} (h : checkS l = 0) : wellS l = true := by
  unfold checkS at h
  split at h
  · cases h
  · rename_i h0; simpa using h0

end Go.Proofs.YtljoacpaehmbdaaGreatDoor
