import Derived.Test.YtijfnlfgehcpaaaGreatDoorJba
import Derived.Test.YtijfnlfgehcpaaaGreatDoorJbb
import Derived.Test.YtijfnlfgehcpaaaGreatDoorJak
import Derived.Test.YtijfnlfgehcpaaaGreatDoorJaf
import Derived.Test.YtijfnlfgehcpaaaGreatDoorJaj
import Derived.Test.YtijfnlfgehcpaaaGreatDoorJaa
import Derived.Test.YtijfnlfgehcpaaaGreatDoorKr
import Derived.Test.YtijfnlfgehcpaaaGreatDoorJap
import Derived.Test.YtijfnlfgehcpaaaGreatDoorJam
import Derived.Test.YtijfnlfgehcpaaaGreatDoorJaq
namespace Go.Proofs.YtijfnlfgehcpaaaGreatDoor
open Go.RowKit Go.Maps

theorem checkP_zero {S : List FieldA} {l : SL} (h : (checkP S l).1 = 0) : schemaB S = true ∧ checkS l = 0 := by
  unfold checkP at h
  cases hs : schemaB S with
  | false => rw [errS_bad hs, if_pos (by decide)] at h; simp at h
  | true =>
    rw [errS_good hs, if_neg (by simp)] at h
    by_cases hc : checkS l = 0
    · exact ⟨rfl, hc⟩
    · rw [if_pos hc] at h
      exact absurd h hc

end Go.Proofs.YtijfnlfgehcpaaaGreatDoor
