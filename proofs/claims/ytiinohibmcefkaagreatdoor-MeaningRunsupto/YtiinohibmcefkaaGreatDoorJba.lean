import Derived.Test.YtiinohibmcefkaaGreatDoorJzan
import Derived.Test.YtiinohibmcefkaaGreatDoorJan
import Derived.Test.YtiinohibmcefkaaGreatDoorJzai
import Derived.Test.YtiinohibmcefkaaGreatDoorKm
import Derived.Test.YtiinohibmcefkaaGreatDoorJad
import Derived.Test.YtiinohibmcefkaaGreatDoorJzal
import Derived.Test.YtiinohibmcefkaaGreatDoorJar
namespace Go.Proofs.YtiinohibmcefkaaGreatDoor
open Go.RowKit Go.Maps
theorem fits_short {f : FieldA} {v : ValA} (h : fitsB f v = true) : v.s.length ≤ 20 := by
 unfold fitsB at h
 split at h
 ·simp only [Bool.and_eq_true, decide_eq_true_eq] at h; simp [h.2]
 ·split at h
  ·cases h
  ·split at h
   ·simp only [decide_eq_true_eq] at h; simp [h]
   ·split at h
    ·simp only [Bool.and_eq_true, decide_eq_true_eq] at h; simp [h.2]
    ·split at h
     ·simp only [Bool.and_eq_true, decide_eq_true_eq] at h; exact h.2
     ·cases h
theorem rowE_true {S : List FieldA} {vals : List ValA} (h : rowE S true vals = 0) : schemaB S = true ∧ recB S vals = true := by
 unfold rowE errR at h
 rw [if_pos rfl] at h
 split at h
 ·split at h
  ·exact ⟨‹_›, ‹_›⟩
  ·cases h
 ·cases h
theorem rec_fits {S : List FieldA} {vals : List ValA} (h : recB S vals = true) : vals.length = S.length ∧ ∀ (i : Nat) f v, S[i]? = some f → vals[i]? = some v → fitsB f v = true := by
 unfold recB at h
 simp only [Bool.and_eq_true, decide_eq_true_eq] at h
 refine ⟨h.1, fun i f v hf hv => ?_⟩
 have := List.all_eq_true.1 h.2 (f, v) (List.mem_of_getElem? (zip_get hf hv))
 simpa using this
theorem rowE_rw {S : List FieldA} {h : Bool} {vals : List ValA} (he : rowE S h vals = 0) : Rw S h vals := by
 cases h with
 | false => rw [rowE_nil he]; exact gone_rw S
 | true =>
  obtain ⟨h1, h2⟩ := rec_fits (rowE_true he).2
  refine ⟨fun _ => h1, fun v hv => ?_⟩
  obtain ⟨i, hi, e⟩ := List.getElem_of_mem hv
  exact fits_short (h2 i S[i] v (List.getElem?_eq_getElem (by omega)) (by rw [← e]; exact List.getElem?_eq_getElem hi))
theorem alloc_at (w : World) (o : Obj) (H : Nat) (hH : w.heap.size = H) : (w.alloc o).heap[H]? = some o := by
 subst hH
 exact heap_alloc_new w o
end Go.Proofs.YtiinohibmcefkaaGreatDoor
namespace Go.Proofs.YtiinohibmcefkaaGreatDoor
open Go.RowKit Go.Maps
def pick (S : List FieldA) (p : Txt → Bool) : List Txt := (S.map FieldA.name).filter p
end Go.Proofs.YtiinohibmcefkaaGreatDoor
