import Derived.Test.YtiinohibmcefkaaGreatDoorJzag
namespace Go.Proofs.YtiinohibmcefkaaGreatDoor
open Go.RowKit Go.Maps

/-- What must be done ahead of those that are needed. -/
def reachL (ops : Array Oper) : Nat → List Nat → List Nat
  | 0, need => need
  | i + 1, need => reachL ops i (if need.contains i then need ++ (match ops[i]? with | some o => waitsL o | none => []) else need)
theorem reachL_done {ops : Array Oper} {d : Nat → Bool} (hc : ∀ (i : Nat) (o : Oper), ops[i]? = some o → d i = true → ∀ e ∈ o.after, Region.binds .any e = true → d e.on = true) : ∀ (n : Nat) (need : List Nat), (∀ j ∈ need, d j = true) → ∀ j ∈ reachL ops n need, d j = true
  | 0, _, hn, j, hj => hn j hj
  | n + 1, need, hn, j, hj => by
    refine reachL_done hc n _ (fun k hk => ?_) j hj
    split at hk
    · rename_i hcn
      rcases List.mem_append.1 hk with hk | hk
      · exact hn k hk
      · cases ho : ops[n]? with
        | none => rw [ho] at hk; simp at hk
        | some o =>
          rw [ho] at hk
          obtain ⟨e, he, hb, rfl⟩ := waitsL_mem hk
          exact hc n o ho (hn n (by simpa using hcn)) e he hb
    · exact hn k hk
/-- Each but the s-th writes the slot that the list says, none has a guard, and binding edges go back. -/
def opsC (dl : List Nat) (sz s : Nat) : Nat → List Oper → Bool
  | _, [] => true
  | i, o :: r => (i == s || (decide (o.dst = some (dl.getD i 0)) && decide (dl.getD i 0 < sz))) && o.guard.isNone && o.after.toList.all (fun e => !Region.binds .any e || decide (e.on < i)) && opsC dl sz s (i + 1) r
theorem opsC_at {dl : List Nat} {sz s : Nat} : ∀ {l : List Oper} {k : Nat}, opsC dl sz s k l = true → ∀ (j : Nat) (o : Oper), l[j]? = some o → (k + j ≠ s → o.dst = some (dl.getD (k + j) 0) ∧ dl.getD (k + j) 0 < sz) ∧ o.guard = none ∧ ∀ e ∈ o.after, Region.binds .any e = true → e.on < k + j
  | [], _, _, j, o, h => by simp at h
  | x :: r, k, hB, 0, o, h => by
    simp at h
    subst h
    simp only [opsC, Bool.and_eq_true, Bool.or_eq_true, beq_iff_eq, decide_eq_true_eq, Option.isNone_iff_eq_none] at hB
    obtain ⟨⟨⟨h1, h2⟩, h4⟩, _⟩ := hB
    refine ⟨fun hne => h1.resolve_left hne, h2, fun e he hb => ?_⟩
    have := List.all_eq_true.1 h4 e (by simpa using he)
    simpa [hb] using this
  | x :: r, k, hB, j + 1, o, h => by
    simp only [opsC, Bool.and_eq_true] at hB
    have := opsC_at hB.2 j o (by simpa using h)
    rwa [show k + 1 + j = k + (j + 1) by omega] at this
section
variable {P : Program} {ops : Array Oper} {Q : Exit → Act → World → Prop}
theorem all_doneB (hac : ∀ (i : Nat) (o : Oper), ops[i]? = some o → ∀ e ∈ o.after, Region.binds .any e = true → e.on < i) {listed : Array Bool} (hl : listed.size = ops.size) (hr : Region.ready .any ops listed = []) : ∀ i, i < ops.size → listed.getD i false = true := by
  intro i
  induction i using Nat.strongRecOn with
  | ind i ih =>
    intro hi
    cases hd : listed.getD i false with
    | true => rfl
    | false =>
      have hm : i ∈ Region.ready .any ops listed := by
        refine mem_ready.2 ⟨?_, ops[i], Array.getElem?_eq_getElem hi, fun e he hb => ih e.on (hac i _ (Array.getElem?_eq_getElem hi) e he hb) (Nat.lt_trans (hac i _ (Array.getElem?_eq_getElem hi) e he hb) hi)⟩
        rw [Array.getD_eq_getD_getElem?, Array.getElem?_eq_getElem (by omega)] at hd ⊢
        exact hd
      rw [hr] at hm
      cases hm
theorem wpAny_invB (hac : ∀ (i : Nat) (o : Oper), ops[i]? = some o → ∀ e ∈ o.after, Region.binds .any e = true → e.on < i) (I : (Nat → Bool) → Act → World → Prop)
    (hs : ∀ (d : Nat → Bool) (a : Act) (w : World) (i : Nat) (o : Oper), I d a w → d i = false → ops[i]? = some o → (∀ e ∈ o.after, Region.binds .any e = true → d e.on = true) → wpOp P ops Q i (fun a' w' => I (mark d i) a' w') a w)
    (he : ∀ (d : Nat → Bool) (a : Act) (w : World), I d a w → (∀ i, i < ops.size → d i = true) → Q .normal a w) :
    ∀ (fuel : Nat) (listed : Array Bool) (a : Act) (w : World), listed.size = ops.size → undone (fun j => listed.getD j false) ops.size ≤ fuel → I (fun j => listed.getD j false) a w → wpAny P .any ops Q fuel listed a w
  | 0, listed, a, w, hl, hf, hI => by
    have hd := undone_zero (Nat.le_zero.1 hf)
    refine ⟨?_, he _ a w hI hd⟩
    cases hr : Region.ready .any ops listed with
    | nil => rfl
    | cons i r =>
      have hm : i ∈ Region.ready .any ops listed := by rw [hr]; exact List.mem_cons_self ..
      obtain ⟨h1, o, ho, _⟩ := mem_ready.1 hm
      have hi : i < ops.size := (Array.getElem?_eq_some_iff.1 ho).1
      have h2 := hd i hi
      rw [Array.getD_eq_getD_getElem?, Array.getElem?_eq_getElem (by omega)] at h1
      simp only [Array.getD_eq_getD_getElem?, Array.getElem?_eq_getElem (show i < listed.size by omega)] at h2
      have h1' : listed[i] = false := h1
      have h2' : listed[i] = true := h2
      rw [h1'] at h2'
      cases h2'
  | fuel + 1, listed, a, w, hl, hf, hI => by
    refine ⟨fun hr => he _ a w hI (all_doneB hac hl hr), fun i hm => ?_⟩
    obtain ⟨h1, o, ho, hall⟩ := mem_ready.1 hm
    have hi : i < ops.size := (Array.getElem?_eq_some_iff.1 ho).1
    have hd : listed.getD i false = false := by
      rw [Array.getD_eq_getD_getElem?, Array.getElem?_eq_getElem (by omega)] at h1 ⊢
      exact h1
    have heq : (fun j => (listed.setIfInBounds i true).getD j false) = mark (fun j => listed.getD j false) i := by
      funext j
      unfold mark
      by_cases hj : j = i
      · subst hj
        rw [if_pos rfl, Array.getD_eq_getD_getElem?, Array.getElem?_setIfInBounds_self_of_lt (by omega)]
        rfl
      · rw [if_neg hj]
        show (listed.setIfInBounds i true).getD j false = listed.getD j false
        rw [Array.getD_eq_getD_getElem?, Array.getD_eq_getD_getElem?, Array.getElem?_setIfInBounds_ne (fun e => hj e.symm)]
    refine wpOp_mono (fun a' w' hI' => ?_) (hs _ a w i o hI hd ho hall)
    refine wpAny_invB hac I hs he fuel (listed.setIfInBounds i true) a' w' (by simpa using hl) ?_ ?_
    · rw [heq]
      have := undone_mark (d := fun j => listed.getD j false) hd hi
      omega
    · rw [heq]
      exact hI'
/-- A region that draws its order, by what holds of those that are done; binding edges go back. -/
theorem wp_region_invB {id : Nat} {a : Act} {w : World} (hm : P.follows .mixedOrders = true) (hac : ∀ (i : Nat) (o : Oper), ops[i]? = some o → ∀ e ∈ o.after, Region.binds .any e = true → e.on < i) (I : (Nat → Bool) → Act → World → Prop)
    (h0 : I (fun _ => false) a w.drew)
    (hs : ∀ (d : Nat → Bool) (a : Act) (w : World) (i : Nat) (o : Oper), I d a w → d i = false → ops[i]? = some o → (∀ e ∈ o.after, Region.binds .any e = true → d e.on = true) → wpOp P ops Q i (fun a' w' => I (mark d i) a' w') a w)
    (he : ∀ (d : Nat → Bool) (a : Act) (w : World), I d a w → (∀ i, i < ops.size → d i = true) → Q .normal a w) : (Code.region id ops true).wp P Q a w := by
  refine wp_region_any hm ?_
  have e : (fun j => (Array.replicate ops.size false).getD j false) = fun _ => false := by
    funext j
    rw [Array.getD_eq_getD_getElem?, Array.getElem?_replicate]
    split <;> rfl
  have hu : ∀ n, undone (fun _ => false) n = n := fun n => by
    induction n with
    | zero => rfl
    | succ n ih => simp [undone, ih]
  refine wpAny_invB hac I hs he _ _ _ _ (by simp) ?_ ?_
  · rw [e, hu]
    exact Nat.le_refl _
  · rw [e]
    exact h0
/-- A region that draws its order and holds one store into a box of its own: what does not come ahead of the store may come behind it, and there looks at no memory. -/
theorem wp_region_store {id : Nat} {a0 : Act} {w0 X : World} (hm : P.follows .mixedOrders = true) (n s bx : Nat) (hsz : ops.size = n) (hsn : s < n) (os : Oper) (hos : ops[s]? = some os)
    (dl cv : List Nat) (hinj : ∀ i, i < n → ∀ j, j < n → i ≠ s → j ≠ s → dl.getD i 0 = dl.getD j 0 → i = j) (hB : opsC dl a0.tmps.size s 0 ops.toList = true)
    (hcv : cv.all (fun j => (reachL ops s (waitsL os)).contains j) = true) (hbx : bx ∈ cv) (hbn : bx < n) (hbs : bx ≠ s) (hcs : s ∉ cv) (hcn : ∀ j ∈ cv, j < n)
    (hX : Keeps (fun _ => False) X w0)
    (F : Nat → Value → World → Prop) (hF : ∀ i v w w', F i v w → Keeps (fun _ => False) w w' → F i v w')
    (F2 : Nat → Value → Prop) (hF2 : ∀ i v w, F i v w → F2 i v) (G : Value → World → Prop)
    (hs : ∀ (i : Nat) (o : Oper) (a : Act) (w : World), i < n → i ≠ s → ops[i]? = some o → Same a0 n (fun i => dl.getD i 0) a → Keeps (fun _ => False) X w → (∀ e ∈ o.after, Region.binds .any e = true → e.on ≠ s → F e.on (a.tmps.getD (dl.getD e.on 0) undef) w) → (∀ e ∈ o.after, Region.binds .any e = true → e.on ≠ s) →
      ∀ K' : Act → World → Prop, (∀ v w', F i v w' → Keeps (fun _ => False) w w' → K' (a.put o.dst v) w') → Oper.wp P o a w K' Q)
    (he : ∀ (a : Act) (w : World), Same a0 n (fun i => dl.getD i 0) a → Keeps (fun _ => False) X w → (∀ i ∈ cv, F i (a.tmps.getD (dl.getD i 0) undef) w) →
      ∀ K' : Act → World → Prop, (∀ w', G (a.tmps.getD (dl.getD bx 0) undef) w' → K' a w') → Oper.wp P os a w K' Q)
    (hs2 : ∀ (i : Nat) (o : Oper) (a : Act) (w : World), i < n → i ≠ s → i ∉ cv → ops[i]? = some o → (∀ e ∈ o.after, Region.binds .any e = true → e.on ≠ s → F2 e.on (a.tmps.getD (dl.getD e.on 0) undef)) →
      ∀ K' : Act → World → Prop, (∀ v, F2 i v → K' (a.put o.dst v) w) → Oper.wp P o a w K' Q)
    (hend : ∀ (a : Act) (w : World), Same a0 n (fun i => dl.getD i 0) a → G (a.tmps.getD (dl.getD bx 0) undef) w → (∀ i, i < n → i ≠ s → F2 i (a.tmps.getD (dl.getD i 0) undef)) → Q .normal a w) : (Code.region id ops true).wp P Q a0 w0 := by
  have hat : ∀ (i : Nat) (o : Oper), ops[i]? = some o → (i ≠ s → o.dst = some (dl.getD i 0) ∧ dl.getD i 0 < a0.tmps.size) ∧ o.guard = none ∧ ∀ e ∈ o.after, Region.binds .any e = true → e.on < i := fun i o ho => by
    have := opsC_at hB i o (by simpa using ho)
    rwa [Nat.zero_add] at this
  have hlt : ∀ (i : Nat) (o : Oper), ops[i]? = some o → i < n := fun i o ho => by
    have := (Array.getElem?_eq_some_iff.1 ho).1
    omega
  refine wp_region_invB hm (fun i o ho => (hat i o ho).2.2) (fun d a w => (∀ (i : Nat) (o : Oper), ops[i]? = some o → d i = true → ∀ e ∈ o.after, Region.binds .any e = true → d e.on = true) ∧ Same a0 n (fun i => dl.getD i 0) a ∧ ((d s = false ∧ Keeps (fun _ => False) X w ∧ ∀ i, i < n → i ≠ s → d i = true → F i (a.tmps.getD (dl.getD i 0) undef) w) ∨ (d s = true ∧ G (a.tmps.getD (dl.getD bx 0) undef) w ∧ ∀ i, i < n → i ≠ s → d i = true → F2 i (a.tmps.getD (dl.getD i 0) undef)))) ?_ ?_ ?_
  · exact ⟨(fun i o _ h => by cases h), ⟨rfl, rfl, fun _ _ => rfl⟩, Or.inl ⟨rfl, hX.drew, (fun i _ _ h => by cases h)⟩⟩
  · rintro d a w i o ⟨hcl, hsm, hI⟩ hd ho hall
    have hcl' : ∀ (j : Nat) (o' : Oper), ops[j]? = some o' → mark d i j = true → ∀ e ∈ o'.after, Region.binds .any e = true → mark d i e.on = true := fun j o' ho' hj e he' hb => by
      unfold mark at hj ⊢
      by_cases hei : e.on = i
      · rw [if_pos hei]
      · rw [if_neg hei]
        by_cases hji : j = i
        · subst hji
          rw [ho] at ho'
          obtain rfl := Option.some.inj ho'
          exact hall e he' hb
        · rw [if_neg hji] at hj
          exact hcl j o' ho' hj e he' hb
    have hin := hlt i o ho
    obtain ⟨q0, q2, q4⟩ := hat i o ho
    refine wpOp_step ho (fun K' hK => ?_)
    have hw : Region.wanted o (yielded ops a.tmps) = true := by simp [Region.wanted, q2]
    rw [if_pos hw]
    have hcd : (∀ e ∈ os.after, Region.binds .any e = true → d e.on = true) → ∀ j ∈ cv, d j = true := fun hwt j hj => by
      refine reachL_done hcl s (waitsL os) (fun k hk => ?_) j (by simpa using List.all_eq_true.1 hcv j hj)
      obtain ⟨e, he', hb, rfl⟩ := waitsL_mem hk
      exact hwt e he' hb
    by_cases his : i = s
    · subst his
      rw [hos] at ho
      obtain rfl := Option.some.inj ho
      rcases hI with ⟨hds, h2, h3⟩ | ⟨hds, _⟩
      · refine he a w hsm h2 (fun j hj => h3 j (hcn j hj) (fun e => hcs (e ▸ hj)) (hcd hall j hj)) K' fun w' hg => hK _ _ ⟨hcl', hsm, Or.inr ⟨by unfold mark; rw [if_pos rfl], hg, fun j hj hji hmk => ?_⟩⟩
        unfold mark at hmk
        rw [if_neg hji] at hmk
        exact hF2 _ _ _ (h3 j hj hji hmk)
      · rw [hd] at hds
        cases hds
    · obtain ⟨q1, q3⟩ := q0 his
      have hms : mark d i s = d s := by unfold mark; rw [if_neg (fun e => his e.symm)]
      rcases hI with ⟨hds, h2, h3⟩ | ⟨hds, hg, h3⟩
      · have hne : ∀ e ∈ o.after, Region.binds .any e = true → e.on ≠ s := fun e he' hb hes => by
          have := hall e he' hb
          rw [hes, hds] at this
          cases this
        refine hs i o a w hin his ho hsm h2 (fun e he' hb hes => h3 e.on (Nat.lt_trans (q4 e he' hb) hin) hes (hall e he' hb)) hne K' fun v w' hv hk => hK _ _ ⟨hcl', ?_, Or.inl ⟨hms.trans hds, h2.trans hk, fun j hj hjs hmk => ?_⟩⟩
        · rw [q1]
          exact hsm.put hin v
        · by_cases hij : j = i
          · subst hij
            rw [q1, put_get a _ v (by rw [hsm.size]; exact q3)]
            exact hv
          · rw [q1, put_get_ne a v (fun e => hij (hinj j hj i hin hjs his e.symm))]
            refine hF _ _ _ _ (h3 j hj hjs ?_) hk
            unfold mark at hmk
            rwa [if_neg hij] at hmk
      · have hni : i ∉ cv := fun hic => by
          have := hcd (hcl s os hos hds) i hic
          rw [hd] at this
          cases this
        refine hs2 i o a w hin his hni ho (fun e he' hb hes => h3 e.on (Nat.lt_trans (q4 e he' hb) hin) hes (hall e he' hb)) K' fun v hv => hK _ _ ⟨hcl', ?_, Or.inr ⟨hms.trans hds, ?_, fun j hj hjs hmk => ?_⟩⟩
        · rw [q1]
          exact hsm.put hin v
        · rw [q1, put_get_ne a v (fun e => hni (by rw [← hinj bx hbn i hin hbs his e.symm]; exact hbx))]
          exact hg
        · by_cases hij : j = i
          · subst hij
            rw [q1, put_get a _ v (by rw [hsm.size]; exact q3)]
            exact hv
          · rw [q1, put_get_ne a v (fun e => hij (hinj j hj i hin hjs his e.symm))]
            refine h3 j hj hjs ?_
            unfold mark at hmk
            rwa [if_neg hij] at hmk
  · rintro d a w ⟨_, hsm, hI⟩ hd
    rcases hI with ⟨hds, _⟩ | ⟨_, hg, h3⟩
    · have := hd s (by omega)
      rw [hds] at this
      cases this
    · exact hend a w hsm hg (fun i hi his => h3 i hi his (hd i (by omega)))
end
end Go.Proofs.YtiinohibmcefkaaGreatDoor
