import Derived.Test.YtcicaifioghciaaGreatDoorGc
import Derived.Test.YtcicaifioghciaaGreatDoorJzai
namespace Go.Proofs.YtcicaifioghciaaGreatDoor
open Go.RowKit Go.Maps

theorem decC_len (t : Txt) : (decC t).1.length ≤ 96 := by
  unfold decC
  split
  · simp
  · rename_i h
    cases hd : decF t.length t with
    | none => simp
    | some l =>
      obtain ⟨_, _, h3⟩ := decF_sound _ _ _ hd
      have := bytesC_len l
      rw [h3] at this
      simp only
      omega
end Go.Proofs.YtcicaifioghciaaGreatDoor
