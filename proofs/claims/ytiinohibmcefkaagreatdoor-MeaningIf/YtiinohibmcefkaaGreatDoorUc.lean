import Derived.Test.YtiinohibmcefkaaGreatDoorJba
import Derived.Test.YtiinohibmcefkaaGreatDoorJbb
import Derived.Test.YtiinohibmcefkaaGreatDoorJak
import Derived.Test.YtiinohibmcefkaaGreatDoorJaf
import Derived.Test.YtiinohibmcefkaaGreatDoorJaj
import Derived.Test.YtiinohibmcefkaaGreatDoorJaa
import Derived.Test.YtiinohibmcefkaaGreatDoorKr
import Derived.Test.YtiinohibmcefkaaGreatDoorJap
import Derived.Test.YtiinohibmcefkaaGreatDoorJam
import Derived.Test.YtiinohibmcefkaaGreatDoorJaq
namespace Go.Proofs.YtiinohibmcefkaaGreatDoor
open Go.RowKit Go.Maps

theorem checkP_zero {S : List FieldA} {l : SL} (h : (checkP S l).1 = 0) : schemaB S = true ∧ checkS l = 0 := by
  unfold checkP at h
  cases hs : schemaB S with
  | false => rw [errS_bad hs, if_pos (by decide)] at h; simp at h
  | true =>
    rw [errS_good hs, if_neg (by simp)] at h
    by_cases hc : checkS l = 0
    · exact ⟨rfl, hc⟩
    · rw [if_pos hc] at h
      exact absurd h hc

end Go.Proofs.YtiinohibmcefkaaGreatDoor
