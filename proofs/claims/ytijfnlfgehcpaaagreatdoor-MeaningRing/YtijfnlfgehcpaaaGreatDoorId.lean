import Derived.Test.YtijfnlfgehcpaaaGreatDoorIc
namespace Go.Proofs.YtijfnlfgehcpaaaGreatDoor
open Go.RowKit Go.Maps

/-- The operations of a region, one by one: each writes its own slot, is not guarded, waits for earlier ones alone. -/
def opsB (dl : List Nat) (sz : Nat) : Nat → List Oper → Bool
  | _, [] => true
  | i, o :: r => decide (o.dst = some (dl.getD i 0)) && o.guard.isNone && decide (dl.getD i 0 < sz) && o.after.toList.all (fun e => decide (e.on < i)) && opsB dl sz (i + 1) r
theorem opsB_at {dl : List Nat} {sz : Nat} : ∀ {l : List Oper} {k : Nat}, opsB dl sz k l = true → ∀ (j : Nat) (o : Oper), l[j]? = some o → o.dst = some (dl.getD (k + j) 0) ∧ o.guard = none ∧ dl.getD (k + j) 0 < sz ∧ ∀ e ∈ o.after, e.on < k + j
  | [], _, _, j, o, h => by simp at h
  | x :: r, k, hB, 0, o, h => by
    simp at h
    subst h
    simp only [opsB, Bool.and_eq_true, decide_eq_true_eq, Option.isNone_iff_eq_none] at hB
    obtain ⟨⟨⟨⟨h1, h2⟩, h3⟩, h4⟩, _⟩ := hB
    refine ⟨h1, h2, h3, fun e he => ?_⟩
    have := List.all_eq_true.1 h4 e (by simpa using he)
    simpa using this
  | x :: r, k, hB, j + 1, o, h => by
    simp only [opsB, Bool.and_eq_true] at hB
    have := opsB_at hB.2 j o (by simpa using h)
    rw [show k + 1 + j = k + (j + 1) by omega] at this
    exact this
section
variable {P : Program} {ops : Array Oper} {Q : Exit → Act → World → Prop}
theorem wp_region_table {id : Nat} {a0 : Act} {w0 X : World} (hm : P.follows .mixedOrders = true) (dl : List Nat) (hn : dl.Nodup) (hlen : dl.length = ops.size) (hB : opsB dl a0.tmps.size 0 ops.toList = true)
    (hX : Keeps (fun _ => False) X w0)
    (F : Nat → Value → World → Prop) (hF : ∀ i v w w', F i v w → Keeps (fun _ => False) w w' → F i v w')
    (hs : ∀ (i : Nat) (o : Oper) (a : Act) (w : World), ops[i]? = some o → Same a0 ops.size (fun i => dl.getD i 0) a → Keeps (fun _ => False) X w → (∀ e ∈ o.after, Region.binds .any e = true → F e.on (a.tmps.getD (dl.getD e.on 0) undef) w) →
      ∀ K' : Act → World → Prop, (∀ v w', F i v w' → Keeps (fun _ => False) w w' → K' (a.put o.dst v) w') → Oper.wp P o a w K' Q)
    (he : ∀ (a : Act) (w : World), Same a0 ops.size (fun i => dl.getD i 0) a → Keeps (fun _ => False) X w → (∀ i, i < ops.size → F i (a.tmps.getD (dl.getD i 0) undef) w) → Q .normal a w) : (Code.region id ops true).wp P Q a0 w0 := by
  have hat : ∀ (i : Nat) (o : Oper), ops[i]? = some o → o.dst = some (dl.getD i 0) ∧ o.guard = none ∧ dl.getD i 0 < a0.tmps.size ∧ ∀ e ∈ o.after, e.on < i := fun i o ho => by
    have := opsB_at hB i o (by simpa using ho)
    rwa [Nat.zero_add] at this
  refine wp_region_slots hm (fun i o ho => (hat i o ho).2.2.2) (fun i => dl.getD i 0) (fun i o ho => ⟨(hat i o ho).1, (hat i o ho).2.1, (hat i o ho).2.2.1⟩) (fun i j hi hj e => ?_) hX F hF (fun i o a w ho h1 h2 h3 K' hK => ?_) he
  · have hi' : i < dl.length := by omega
    have hj' : j < dl.length := by omega
    have e' : dl[i] = dl[j] := by
      have := e
      simp only [List.getD_eq_getElem?_getD, List.getElem?_eq_getElem hi', List.getElem?_eq_getElem hj'] at this
      exact this
    exact (List.getElem?_inj hi' hn).1 (by rw [List.getElem?_eq_getElem hi', List.getElem?_eq_getElem hj', e'])
  · exact hs i o a w ho h1 h2 h3 K' (fun v w' hv hk => by rw [(hat i o ho).1]; exact hK v w' hv hk)
end
end Go.Proofs.YtijfnlfgehcpaaaGreatDoor
