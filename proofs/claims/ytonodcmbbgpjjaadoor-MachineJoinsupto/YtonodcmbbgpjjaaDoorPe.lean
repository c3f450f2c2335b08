import Derived.Test.YtonodcmbbgpjjaaDoorKd
import Derived.Test.YtonodcmbbgpjjaaDoorJh
import Derived.Test.YtonodcmbbgpjjaaDoorJz
namespace Go.Proofs.YtonodcmbbgpjjaaDoor
open Go.RowKit Go.Maps
theorem ver_enc {S : List FieldA} {l : List ValA} (h : (verifyA S l).2.2 = 0) : (encC l).2 = 0 := by
  have h' : (lookA S l).2.2 = 0 := h
  rcases look_tells S l with ⟨_, _, q, r⟩ | ⟨ps, qa, _, ok, ln, l96, hSK, hF, hT⟩
  · rw [q] at h'; exact absurd h' r
  have hb : (bytesC l).length ≤ 96 := by
    by_cases hb : (bytesC l).length ≤ 96
    · exact hb
    · rw [look_big (look_parts qa).1 hF (by omega)] at qa; cases qa
  unfold encC
  rw [if_neg (by omega), if_neg (by rw [firstE_all (fun i hi => (hF i hi).1)]; decide), if_neg (by omega)]
theorem dec_inR (t : Txt) : InR (decC t).1 := by
  by_cases h : (decC t).2 = 0
  · exact (enc_dec h).2
  · have : (decC t).1 = [] := by
      unfold decC at h ⊢
      split
      · rfl
      · rename_i h9
        rw [if_neg h9] at h
        split
        · rfl
        · rename_i q
          rw [q] at h
          exact absurd rfl h
    rw [this]
    intro x hx
    cases hx
theorem runO_ok {S : List FieldA} {l : List ValA} {hh : Bool} {vals : List ValA} (h : (runO S l hh vals).e = 0) : (verifyA S l).2.2 = 0 ∧ rowE S hh vals = 0 := by
  unfold runO outO at h
  split at h
  · rename_i q; exact absurd h q
  · rename_i q
    split at h
    · rename_i q2; exact absurd h q2
    · rename_i q2
      exact ⟨by simpa using q, by simpa using q2⟩
theorem exec_enc {S : List FieldA} {l : List ValA} {hh : Bool} {vals : List ValA} (hI : InR l) (h : (runO S l hh vals).e = 0) : (encC l).2 = 0 ∧ execO S (encC l).1 hh vals = runO S l hh vals := by
  obtain ⟨h1, h2⟩ := runO_ok h
  have he := ver_enc h1
  refine ⟨he, ?_⟩
  unfold execO decE
  rw [if_neg (show ¬ errS S ≠ 0 from fun q => q (ver_schema h1)), dec_enc hI he, if_neg (fun q => q rfl)]
theorem rowOK_len {S : List FieldA} {h : Bool} {vals : List ValA} (hs : errS S = 0) (hr : rowOK S h vals) : vals.length ≤ 8 := by
  have hsb : schemaB S = true := by
    unfold errS at hs
    split at hs
    · assumption
    · cases hs
  have := (schemaB_len hsb).2
  unfold rowOK at hr
  cases h with
  | false => rw [if_neg (by decide)] at hr; rw [hr]; simp
  | true => rw [if_pos rfl] at hr; omega
theorem runO_len (S : List FieldA) (l : List ValA) (hh : Bool) (vals : List ValA) : (runO S l hh vals).vals.length ≤ 8 := by
  by_cases h : (runO S l hh vals).e = 0
  · obtain ⟨h1, h2⟩ := runO_ok h
    obtain ⟨ps, _, _, _, _, _, _, _, _, _, hrow, _⟩ := run_bounds h1 h2
    have : (runO S l hh vals).vals = (playM S l l.length 0 ⟨[], hh, vals⟩).2.vals := by unfold runO outO; rw [h1, h2, if_neg (by decide), if_neg (by decide)]
    rw [this]
    exact rowOK_len (ver_schema h1) hrow
  · unfold runO outO at h ⊢
    split
    · simp
    · rename_i q1
      rw [if_neg q1] at h
      split
      · simp
      · rename_i q2
        rw [if_neg q2] at h
        exact absurd rfl h
end Go.Proofs.YtonodcmbbgpjjaaDoor
