import Derived.Test.YtiinohibmcefkaaGreatDoorJbc
import Derived.Test.YtiinohibmcefkaaGreatDoorJzap
import Derived.Test.YtiinohibmcefkaaGreatDoorJah
import Derived.Test.YtiinohibmcefkaaGreatDoorJzaf
import Derived.Test.YtiinohibmcefkaaGreatDoorJzaa
namespace Go.Proofs.YtiinohibmcefkaaGreatDoor
open Go.RowKit Go.Maps
theorem chain_ok {S : List FieldA} {ls : List SL} {h : Bool} {vals : List ValA} : (chainP S ls h vals).2 = 0 → errS S = 0 ∧ firstE S ls = 0 ∧ rowE S h vals = 0 ∧ chainP S ls h vals = (ls.foldl (fun r l => runS S l r) (h, vals), 0) := by
 unfold chainP
 split
 ·intro h0; exact absurd h0 ‹_›
 ·split
  ·intro h0; exact absurd h0 ‹_›
  ·split
   ·intro h0; exact absurd h0 ‹_›
   ·intro _
    refine ⟨by simpa using ‹¬ errS S ≠ 0›, by simpa using ‹¬ firstE S ls ≠ 0›, by simpa using ‹¬ rowE S h vals ≠ 0›, rfl⟩
theorem firstE_one {S : List FieldA} {p : SL} : firstE S [p] = (checkP S p).1 := by
 simp only [firstE]
 split
 ·exact (‹(checkP S p).1 = 0›).symm
 ·rfl
theorem foldS_fit {S : List FieldA} (hS : schemaB S = true) : ∀ (ls : List SL) (r : Bool × List ValA), (∀ l ∈ ls, (checkP S l).1 = 0) → RowFit S r.1 r.2 → RowFit S (ls.foldl (fun r l => runS S l r) r).1 (ls.foldl (fun r l => runS S l r) r).2
 | [], _, _, hr => hr
 | l :: ls, r, h, hr => by
  obtain ⟨_, hw, ho⟩ := check_ok (h l (by simp))
  exact foldS_fit hS ls _ (fun m hm => h m (by simp [hm])) (run_fit hS l r hw ho hr)
theorem firstE_all {S : List FieldA} : ∀ {ls : List SL}, firstE S ls = 0 → ∀ l ∈ ls, (checkP S l).1 = 0
 | [], _, l, hl => by simp at hl
 | a :: r, h, l, hl => by
  simp only [firstE] at h
  split at h
  ·rcases List.mem_cons.1 hl with rfl | hl
   ·assumption
   ·exact firstE_all h l hl
  ·exact absurd h ‹_›
theorem fit_len {S : List FieldA} (hS : schemaB S = true) {h : Bool} {vals : List ValA} (hr : RowFit S h vals) : vals.length ≤ 8 := by
 unfold RowFit at hr
 split at hr
 ·rw [hr.1]; exact (schemaB_len hS).2
 ·rw [hr]; simp
theorem chain_len (S : List FieldA) (ls : List SL) (h : Bool) (vals : List ValA) : (chainP S ls h vals).1.2.length ≤ 8 := by
 by_cases h0 : (chainP S ls h vals).2 = 0
 ·obtain ⟨h1, h2, h3, h4⟩ := chain_ok h0
  rw [h4]
  rcases errS_eq S with ⟨hs, _⟩ | ⟨_, he⟩
  ·exact fit_len hs (foldS_fit hs ls _ (firstE_all h2) (rowE_fit h3))
  ·rw [he] at h1; cases h1
 ·unfold chainP at h0 ⊢
  split at h0
  ·rw [if_pos ‹_›]; simp
  ·rw [if_neg ‹_›]
   split at h0
   ·rw [if_pos ‹_›]; simp
   ·rw [if_neg ‹_›]
    split at h0
    ·rw [if_pos ‹_›]; simp
    ·exact absurd rfl h0
end Go.Proofs.YtiinohibmcefkaaGreatDoor
