import Derived.Test.YtiinohibmcefkaaGreatDoorZzbm
import Derived.Test.YtiinohibmcefkaaGreatDoorZzbl
import Derived.Test.YtiinohibmcefkaaGreatDoorZzad
import Derived.Test.YtiinohibmcefkaaGreatDoorZzaq
import Derived.Deep.DeepCutAuto
import Derived.Test.YtiinohibmcefkaaGreatDoorZzas
import Derived.Test.YtiinohibmcefkaaGreatDoorZzay
import Derived.Test.YtiinohibmcefkaaGreatDoorZzae
namespace Go.Proofs.YtiinohibmcefkaaGreatDoor
open Go.RowKit Go.Maps

theorem fold_at (V : Nat → Value) : ∀ (l : List Nat) (a : Act) (t : Nat), (l.foldl (fun a d => a.put (some d) (V d)) a).tmps[t]? = (if t ∈ l ∧ t < a.tmps.size then some (V t) else a.tmps[t]?) ∧ (l.foldl (fun a d => a.put (some d) (V d)) a).tmps.size = a.tmps.size ∧ (l.foldl (fun a d => a.put (some d) (V d)) a).defers = a.defers
  | [], a, t => by simp
  | d :: l, a, t => by
    obtain ⟨h1, h2, h3⟩ := fold_at V l (a.put (some d) (V d)) t
    have hs : (a.put (some d) (V d)).tmps.size = a.tmps.size := by unfold Act.put; simp
    have hd : (a.put (some d) (V d)).defers = a.defers := rfl
    simp only [List.foldl_cons]
    refine ⟨?_, h2.trans hs, h3.trans hd⟩
    rw [h1, hs]
    have hp : (a.put (some d) (V d)).tmps[t]? = if d = t ∧ t < a.tmps.size then some (V d) else a.tmps[t]? := by
      unfold Act.put
      simp only [Array.getElem?_setIfInBounds]
      by_cases e : d = t
      · subst e
        by_cases hl : d < a.tmps.size
        · simp [hl]
        · simp [hl]
      · simp [e]
    rw [hp]
    by_cases hl : t < a.tmps.size
    · by_cases e : d = t
      · subst e
        by_cases hm : d ∈ l
        · simp [hl, hm]
        · simp [hl, hm]
      · have e' : ¬ t = d := fun q => e q.symm
        by_cases hm : t ∈ l
        · simp [hl, hm]
        · simp [hl, hm, e, e']
    · simp [hl]
/-- What a region leaves, written out. -/
theorem same_fold {a0 A : Act} {n : Nat} {dl : List Nat} (h : Same a0 n (fun i => dl.getD i 0) A) (hn : dl.length = n) : A = dl.foldl (fun a d => a.put (some d) (A.tmps.getD d undef)) a0 := by
  have hf := fold_at (fun d => A.tmps.getD d undef) dl a0
  have ht : A.tmps = (dl.foldl (fun a d => a.put (some d) (A.tmps.getD d undef)) a0).tmps := by
    apply Array.ext_getElem?
    intro t
    rw [(hf t).1]
    by_cases hm : t ∈ dl ∧ t < a0.tmps.size
    · rw [if_pos hm, Array.getD_eq_getD_getElem?, Array.getElem?_eq_getElem (by rw [h.size]; exact hm.2)]
      rfl
    · rw [if_neg hm]
      by_cases hl : t < a0.tmps.size
      · have hnm : t ∉ dl := fun q => hm ⟨q, hl⟩
        have := h.slot t fun i hi e => hnm (by rw [← e]; subst hn; rw [List.getD_eq_getElem?_getD, List.getElem?_eq_getElem hi]; exact List.getElem_mem hi)
        rw [Array.getD_eq_getD_getElem?, Array.getD_eq_getD_getElem?, Array.getElem?_eq_getElem (by rw [h.size]; exact hl), Array.getElem?_eq_getElem hl] at this
        rw [Array.getElem?_eq_getElem (by rw [h.size]; exact hl), Array.getElem?_eq_getElem hl]
        exact congrArg some this
      · rw [Array.getElem?_eq_none (by rw [h.size]; omega), Array.getElem?_eq_none (by omega)]
  have hdf : A.defers = (dl.foldl (fun a d => a.put (some d) (A.tmps.getD d undef)) a0).defers := by rw [(hf 0).2.2, h.defers]
  cases A with
  | mk tm df =>
    generalize dl.foldl (fun a d => a.put (some d) ((⟨tm, df⟩ : Act).tmps.getD d undef)) a0 = B at ht hdf ⊢
    cases B
    simp only at ht hdf
    rw [ht, hdf]
end Go.Proofs.YtiinohibmcefkaaGreatDoor
namespace Go.Proofs.YtiinohibmcefkaaGreatDoor
open Go.RowKit Go.Maps

section
variable {Q : Exit → Act → World → Prop} {K : Act → World → Prop} {o : Oper} {a : Act} {w : World}
end

end Go.Proofs.YtiinohibmcefkaaGreatDoor
