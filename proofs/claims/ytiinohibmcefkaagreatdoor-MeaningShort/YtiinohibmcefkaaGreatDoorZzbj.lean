import Derived.Test.YtiinohibmcefkaaGreatDoorZzbi
import Derived.Test.YtiinohibmcefkaaGreatDoorZzbl
import Derived.Test.YtiinohibmcefkaaGreatDoorZzar
import Derived.Test.YtiinohibmcefkaaGreatDoorZzay
import Derived.Test.YtiinohibmcefkaaGreatDoorZzae
import Derived.Test.YtiinohibmcefkaaGreatDoorZzax
import Derived.Test.YtiinohibmcefkaaGreatDoorZzat
import Derived.Test.YtiinohibmcefkaaGreatDoorZzak
import Derived.Test.YtiinohibmcefkaaGreatDoorZzbq
import Derived.Test.YtiinohibmcefkaaGreatDoorZzac
import Derived.Test.YtiinohibmcefkaaGreatDoorZzba
import Derived.Test.YtiinohibmcefkaaGreatDoorZzaz
import Derived.Test.YtiinohibmcefkaaGreatDoorZzbd
import Derived.Test.YtiinohibmcefkaaGreatDoorZzbk
import Derived.Deep.DeepCutAuto
import Derived.Test.YtiinohibmcefkaaGreatDoorZzbm
import Derived.Test.YtiinohibmcefkaaGreatDoorZzbg
import Derived.Test.YtiinohibmcefkaaGreatDoorZzbf
import Derived.Deep.AppendLies
import Derived.Test.YtiinohibmcefkaaGreatDoorZzbh
namespace Go.Proofs.YtiinohibmcefkaaGreatDoor
open Go.RowKit Go.Maps

section
variable {Q : Exit → Act → World → Prop} {K : Act → World → Prop} {o : Oper} {a : Act} {w : World}
end
end Go.Proofs.YtiinohibmcefkaaGreatDoor
namespace Go.Proofs.YtiinohibmcefkaaGreatDoor
open Go.RowKit Go.Maps

section
variable {P : Program} {ops : Array Oper} {Q : Exit → Act → World → Prop}
theorem all_doneB (hac : ∀ (i : Nat) (o : Oper), ops[i]? = some o → ∀ e ∈ o.after, Region.binds .any e = true → e.on < i) {listed : Array Bool} (hl : listed.size = ops.size) (hr : Region.ready .any ops listed = []) : ∀ i, i < ops.size → listed.getD i false = true := by
  intro i
  induction i using Nat.strongRecOn with
  | ind i ih =>
    intro hi
    cases hd : listed.getD i false with
    | true => rfl
    | false =>
      have hm : i ∈ Region.ready .any ops listed := by
        refine mem_ready.2 ⟨?_, ops[i], Array.getElem?_eq_getElem hi, fun e he hb => ih e.on (hac i _ (Array.getElem?_eq_getElem hi) e he hb) (Nat.lt_trans (hac i _ (Array.getElem?_eq_getElem hi) e he hb) hi)⟩
        rw [Array.getD_eq_getD_getElem?, Array.getElem?_eq_getElem (by omega)] at hd ⊢
        exact hd
      rw [hr] at hm
      cases hm
theorem wpAny_invB (hac : ∀ (i : Nat) (o : Oper), ops[i]? = some o → ∀ e ∈ o.after, Region.binds .any e = true → e.on < i) (I : (Nat → Bool) → Act → World → Prop)
    (hs : ∀ (d : Nat → Bool) (a : Act) (w : World) (i : Nat) (o : Oper), I d a w → d i = false → ops[i]? = some o → (∀ e ∈ o.after, Region.binds .any e = true → d e.on = true) → wpOp P ops Q i (fun a' w' => I (mark d i) a' w') a w)
    (he : ∀ (d : Nat → Bool) (a : Act) (w : World), I d a w → (∀ i, i < ops.size → d i = true) → Q .normal a w) :
    ∀ (fuel : Nat) (listed : Array Bool) (a : Act) (w : World), listed.size = ops.size → undone (fun j => listed.getD j false) ops.size ≤ fuel → I (fun j => listed.getD j false) a w → wpAny P .any ops Q fuel listed a w
  | 0, listed, a, w, hl, hf, hI => by
    have hd := undone_zero (Nat.le_zero.1 hf)
    refine ⟨?_, he _ a w hI hd⟩
    cases hr : Region.ready .any ops listed with
    | nil => rfl
    | cons i r =>
      have hm : i ∈ Region.ready .any ops listed := by rw [hr]; exact List.mem_cons_self ..
      obtain ⟨h1, o, ho, _⟩ := mem_ready.1 hm
      have hi : i < ops.size := (Array.getElem?_eq_some_iff.1 ho).1
      have h2 := hd i hi
      rw [Array.getD_eq_getD_getElem?, Array.getElem?_eq_getElem (by omega)] at h1
      simp only [Array.getD_eq_getD_getElem?, Array.getElem?_eq_getElem (show i < listed.size by omega)] at h2
      have h1' : listed[i] = false := h1
      have h2' : listed[i] = true := h2
      rw [h1'] at h2'
      cases h2'
  | fuel + 1, listed, a, w, hl, hf, hI => by
    refine ⟨fun hr => he _ a w hI (all_doneB hac hl hr), fun i hm => ?_⟩
    obtain ⟨h1, o, ho, hall⟩ := mem_ready.1 hm
    have hi : i < ops.size := (Array.getElem?_eq_some_iff.1 ho).1
    have hd : listed.getD i false = false := by
      rw [Array.getD_eq_getD_getElem?, Array.getElem?_eq_getElem (by omega)] at h1 ⊢
      exact h1
    have heq : (fun j => (listed.setIfInBounds i true).getD j false) = mark (fun j => listed.getD j false) i := by
      funext j
      unfold mark
      by_cases hj : j = i
      · subst hj
        rw [if_pos rfl, Array.getD_eq_getD_getElem?, Array.getElem?_setIfInBounds_self_of_lt (by omega)]
        rfl
      · rw [if_neg hj]
        show (listed.setIfInBounds i true).getD j false = listed.getD j false
        rw [Array.getD_eq_getD_getElem?, Array.getD_eq_getD_getElem?, Array.getElem?_setIfInBounds_ne (fun e => hj e.symm)]
    refine wpOp_mono (fun a' w' hI' => ?_) (hs _ a w i o hI hd ho hall)
    refine wpAny_invB hac I hs he fuel (listed.setIfInBounds i true) a' w' (by simpa using hl) ?_ ?_
    · rw [heq]
      have := undone_mark (d := fun j => listed.getD j false) hd hi
      omega
    · rw [heq]
      exact hI'
/-- A region that draws its order, by what holds of those that are done; binding edges go back. -/
theorem wp_region_invB {id : Nat} {a : Act} {w : World} (hm : P.follows .mixedOrders = true) (hac : ∀ (i : Nat) (o : Oper), ops[i]? = some o → ∀ e ∈ o.after, Region.binds .any e = true → e.on < i) (I : (Nat → Bool) → Act → World → Prop)
    (h0 : I (fun _ => false) a w.drew)
    (hs : ∀ (d : Nat → Bool) (a : Act) (w : World) (i : Nat) (o : Oper), I d a w → d i = false → ops[i]? = some o → (∀ e ∈ o.after, Region.binds .any e = true → d e.on = true) → wpOp P ops Q i (fun a' w' => I (mark d i) a' w') a w)
    (he : ∀ (d : Nat → Bool) (a : Act) (w : World), I d a w → (∀ i, i < ops.size → d i = true) → Q .normal a w) : (Code.region id ops true).wp P Q a w := by
  refine wp_region_any hm ?_
  have e : (fun j => (Array.replicate ops.size false).getD j false) = fun _ => false := by
    funext j
    rw [Array.getD_eq_getD_getElem?, Array.getElem?_replicate]
    split <;> rfl
  have hu : ∀ n, undone (fun _ => false) n = n := fun n => by
    induction n with
    | zero => rfl
    | succ n ih => simp [undone, ih]
  refine wpAny_invB hac I hs he _ _ _ _ (by simp) ?_ ?_
  · rw [e, hu]
    exact Nat.le_refl _
  · rw [e]
    exact h0
end
end Go.Proofs.YtiinohibmcefkaaGreatDoor
namespace Go.Proofs.YtiinohibmcefkaaGreatDoor
open Go.RowKit Go.Maps

section
variable {Q : Exit → Act → World → Prop} {K : Act → World → Prop} {o : Oper} {a : Act} {w : World}
theorem step_moveT {t : Nat} {P : Value → Prop} (ho : o.op = .move (.tmp t)) (ht : P (a.tmps.getD t undef)) (hk : ∀ v', P v' → K (a.put o.dst v') w) : Oper.wp Tryz.prog o a w K Q :=
  step_move ho rfl (hk _ ht)
end
theorem slE_nil (Z : Zone) (w : World) (up : Nat) : SlE Z w up (.slice none 0 0) .nil := ⟨none, 0, rfl, Nat.le_refl _, fun h => absurd rfl h⟩
end Go.Proofs.YtiinohibmcefkaaGreatDoor
