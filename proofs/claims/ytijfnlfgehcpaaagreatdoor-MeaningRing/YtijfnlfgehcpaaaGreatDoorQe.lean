import Derived.Test.YtijfnlfgehcpaaaGreatDoorJbb
import Derived.Test.YtijfnlfgehcpaaaGreatDoorJak
import Derived.Test.YtijfnlfgehcpaaaGreatDoorJaf
import Derived.Test.YtijfnlfgehcpaaaGreatDoorJaj
import Derived.Test.YtijfnlfgehcpaaaGreatDoorJaa
import Derived.Test.YtijfnlfgehcpaaaGreatDoorJap
import Derived.Test.YtijfnlfgehcpaaaGreatDoorJam
import Derived.Test.YtijfnlfgehcpaaaGreatDoorJaq
namespace Go.Proofs.YtijfnlfgehcpaaaGreatDoor
open Go.RowKit Go.Maps

theorem checkS_well {l : SL} (h : checkS l = 0) : wellS l = true := by
  unfold checkS at h
  split at h
  · cases h
  · rename_i h0; simpa using h0

end Go.Proofs.YtijfnlfgehcpaaaGreatDoor
