import Derived.Test.YtiinohibmcefkaaGreatDoorJzag
namespace Go.Proofs.YtiinohibmcefkaaGreatDoor
open Go.RowKit Go.Maps

section
variable {P : Program} {ops : Array Oper} {Q : Exit → Act → World → Prop}
/-- A region that draws its order and whose last two operations come one behind the other, behind all others. -/
theorem wp_region_last2 {id : Nat} {a0 : Act} {w0 X : World} (hm : P.follows .mixedOrders = true) (m : Nat) (hsz : ops.size = m + 2) (os oz : Oper) (hos : ops[m]? = some os) (hoz : ops[m + 1]? = some oz) (hog : os.guard = none) (hzg : oz.guard = none) (hoa : ∀ e ∈ os.after, e.on < m) (hza : ∀ e ∈ oz.after, e.on < m + 1) (hcov : coverB ops m (waitsL os) = true) (hcov2 : coverB ops (m + 1) (waitsL oz) = true)
    (dl : List Nat) (hn : dl.Nodup) (hlen : dl.length = m) (hB : opsB dl a0.tmps.size 0 (ops.toList.take m) = true)
    (hX : Keeps (fun _ => False) X w0)
    (F : Nat → Value → World → Prop) (hF : ∀ i v w w', F i v w → Keeps (fun _ => False) w w' → F i v w')
    (hs : ∀ (i : Nat) (o : Oper) (a : Act) (w : World), i < m → ops[i]? = some o → Same a0 m (fun i => dl.getD i 0) a → Keeps (fun _ => False) X w → (∀ e ∈ o.after, Region.binds .any e = true → F e.on (a.tmps.getD (dl.getD e.on 0) undef) w) →
      ∀ K' : Act → World → Prop, (∀ v w', F i v w' → Keeps (fun _ => False) w w' → K' (a.put o.dst v) w') → Oper.wp P o a w K' Q)
    (Mid : Act → World → Prop)
    (he : ∀ (a : Act) (w : World), Same a0 m (fun i => dl.getD i 0) a → Keeps (fun _ => False) X w → (∀ i, i < m → F i (a.tmps.getD (dl.getD i 0) undef) w) →
      ∀ K' : Act → World → Prop, (∀ a' w', Mid a' w' → K' a' w') → Oper.wp P os a w K' Q)
    (he2 : ∀ (a : Act) (w : World), Mid a w → ∀ K' : Act → World → Prop, (∀ a' w', Q .normal a' w' → K' a' w') → Oper.wp P oz a w K' Q) : (Code.region id ops true).wp P Q a0 w0 := by
  have hat : ∀ (i : Nat) (o : Oper), i < m → ops[i]? = some o → o.dst = some (dl.getD i 0) ∧ o.guard = none ∧ dl.getD i 0 < a0.tmps.size ∧ ∀ e ∈ o.after, e.on < i := fun i o hi ho => by
    have := opsB_at hB i o (by rw [List.getElem?_take_of_lt hi]; simpa using ho)
    rwa [Nat.zero_add] at this
  have hinj : ∀ i j, i < m → j < m → dl.getD i 0 = dl.getD j 0 → i = j := fun i j hi hj e => by
    have hi' : i < dl.length := by omega
    have hj' : j < dl.length := by omega
    have e' : dl[i] = dl[j] := by
      have := e
      simp only [List.getD_eq_getElem?_getD, List.getElem?_eq_getElem hi', List.getElem?_eq_getElem hj'] at this
      exact this
    exact (List.getElem?_inj hi' hn).1 (by rw [List.getElem?_eq_getElem hi', List.getElem?_eq_getElem hj', e'])
  have hlt : ∀ (i : Nat) (o : Oper), ops[i]? = some o → i < m ∨ i = m ∨ i = m + 1 := fun i o ho => by
    have := (Array.getElem?_eq_some_iff.1 ho).1
    omega
  have hac : ∀ (i : Nat) (o : Oper), ops[i]? = some o → ∀ e ∈ o.after, e.on < i := fun i o ho => by
    rcases hlt i o ho with hi | rfl | rfl
    · exact (hat i o hi ho).2.2.2
    · rw [hos] at ho
      obtain rfl := Option.some.inj ho
      exact hoa
    · rw [hoz] at ho
      obtain rfl := Option.some.inj ho
      exact hza
  refine wp_region_inv hm hac (fun d a w => (∀ (i : Nat) (o : Oper), ops[i]? = some o → d i = true → ∀ e ∈ o.after, Region.binds .any e = true → d e.on = true) ∧ ((d m = false ∧ d (m + 1) = false ∧ Same a0 m (fun i => dl.getD i 0) a ∧ Keeps (fun _ => False) X w ∧ ∀ i, i < m → d i = true → F i (a.tmps.getD (dl.getD i 0) undef) w) ∨ (d m = true ∧ d (m + 1) = false ∧ Mid a w) ∨ (d (m + 1) = true ∧ Q .normal a w))) ?_ ?_ ?_
  · exact ⟨(fun i o _ h => by cases h), Or.inl ⟨rfl, rfl, ⟨rfl, rfl, fun _ _ => rfl⟩, hX.drew, (fun i _ h => by cases h)⟩⟩
  · rintro d a w i o ⟨hcl, hI⟩ hd ho hall
    have hcl' : ∀ (j : Nat) (o' : Oper), ops[j]? = some o' → mark d i j = true → ∀ e ∈ o'.after, Region.binds .any e = true → mark d i e.on = true := fun j o' ho' hj e he' hb => by
      unfold mark at hj ⊢
      by_cases hei : e.on = i
      · rw [if_pos hei]
      · rw [if_neg hei]
        by_cases hji : j = i
        · subst hji
          rw [ho] at ho'
          obtain rfl := Option.some.inj ho'
          exact hall e he' hb
        · rw [if_neg hji] at hj
          exact hcl j o' ho' hj e he' hb
    have alld : ∀ (q : Nat) (oq : Oper), ops[q]? = some oq → coverB ops q (waitsL oq) = true → (∀ e ∈ oq.after, Region.binds .any e = true → d e.on = true) → ∀ j, j < q → d j = true := fun q oq _ hc hw => coverB_all hcl q (waitsL oq) hc (fun j hj => by
      obtain ⟨e, he', hb, rfl⟩ := waitsL_mem hj
      exact hw e he' hb)
    refine wpOp_step ho (fun K' hK => ?_)
    rcases hI with ⟨hdm, hdz, h1, h2, h3⟩ | ⟨hdm, hdz, hmid⟩ | ⟨hdz, _⟩
    · rcases hlt i o ho with hi | rfl | rfl
      · obtain ⟨q1, q2, q3, q4⟩ := hat i o hi ho
        have hw : Region.wanted o (yielded ops a.tmps) = true := by simp [Region.wanted, q2]
        rw [if_pos hw]
        refine hs i o a w hi ho h1 h2 (fun e he' hb => h3 e.on (Nat.lt_trans (q4 e he') hi) (hall e he' hb)) K' fun v w' hv hk => hK _ _ ⟨hcl', Or.inl ⟨?_, ?_, ?_, h2.trans hk, fun j hj hmk => ?_⟩⟩
        · unfold mark
          rw [if_neg (by omega)]
          exact hdm
        · unfold mark
          rw [if_neg (by omega)]
          exact hdz
        · rw [q1]
          exact h1.put hi v
        · by_cases hij : j = i
          · subst hij
            rw [q1, put_get a _ v (by rw [h1.size]; exact q3)]
            exact hv
          · rw [q1, put_get_ne a v (fun e => hij (hinj j i hj hi e.symm))]
            refine hF _ _ _ _ (h3 j hj ?_) hk
            unfold mark at hmk
            rwa [if_neg hij] at hmk
      · rw [hos] at ho
        obtain rfl := Option.some.inj ho
        have hw : Region.wanted os (yielded ops a.tmps) = true := by simp [Region.wanted, hog]
        rw [if_pos hw]
        have hdone := alld i os hos hcov hall
        refine he a w h1 h2 (fun j hj => h3 j hj (hdone j hj)) K' fun a' w' hq => hK _ _ ⟨hcl', Or.inr (Or.inl ⟨?_, ?_, hq⟩)⟩
        · unfold mark
          rw [if_pos rfl]
        · unfold mark
          rw [if_neg (by omega)]
          exact hdz
      · rw [hoz] at ho
        obtain rfl := Option.some.inj ho
        have hdone := alld (m + 1) oz hoz hcov2 hall m (by omega)
        rw [hdm] at hdone
        cases hdone
    · rcases hlt i o ho with hi | rfl | rfl
      · have hdone := alld m os hos hcov (hcl m os hos hdm) i hi
        rw [hd] at hdone
        cases hdone
      · rw [hd] at hdm
        cases hdm
      · rw [hoz] at ho
        obtain rfl := Option.some.inj ho
        have hw : Region.wanted oz (yielded ops a.tmps) = true := by simp [Region.wanted, hzg]
        rw [if_pos hw]
        refine he2 a w hmid K' fun a' w' hq => hK _ _ ⟨hcl', Or.inr (Or.inr ⟨?_, hq⟩)⟩
        unfold mark
        rw [if_pos rfl]
    · exfalso
      rcases hlt i o ho with hi | rfl | rfl
      · have hdone := alld (m + 1) oz hoz hcov2 (hcl (m + 1) oz hoz hdz) i (by omega)
        rw [hd] at hdone
        cases hdone
      · have hdone := alld (i + 1) oz hoz hcov2 (hcl (i + 1) oz hoz hdz) i (by omega)
        rw [hd] at hdone
        cases hdone
      · rw [hd] at hdz
        cases hdz
  · rintro d a w ⟨_, hI⟩ hd
    rcases hI with ⟨hdm, _⟩ | ⟨_, hdz, _⟩ | ⟨_, hq⟩
    · have := hd m (by omega)
      rw [hdm] at this
      cases this
    · have := hd (m + 1) (by omega)
      rw [hdz] at this
      cases this
    · exact hq
/-- The same, the last but one handing on to the last. -/
theorem wp_region_two {id : Nat} {a0 : Act} {w0 X : World} (hm : P.follows .mixedOrders = true) (m : Nat) (hsz : ops.size = m + 2) (os oz : Oper) (hos : ops[m]? = some os) (hoz : ops[m + 1]? = some oz) (hog : os.guard = none) (hzg : oz.guard = none) (hoa : ∀ e ∈ os.after, e.on < m) (hza : ∀ e ∈ oz.after, e.on < m + 1) (hcov : coverB ops m (waitsL os) = true) (hcov2 : coverB ops (m + 1) (waitsL oz) = true)
    (dl : List Nat) (hn : dl.Nodup) (hlen : dl.length = m) (hB : opsB dl a0.tmps.size 0 (ops.toList.take m) = true)
    (hX : Keeps (fun _ => False) X w0)
    (F : Nat → Value → World → Prop) (hF : ∀ i v w w', F i v w → Keeps (fun _ => False) w w' → F i v w')
    (hs : ∀ (i : Nat) (o : Oper) (a : Act) (w : World), i < m → ops[i]? = some o → Same a0 m (fun i => dl.getD i 0) a → Keeps (fun _ => False) X w → (∀ e ∈ o.after, Region.binds .any e = true → F e.on (a.tmps.getD (dl.getD e.on 0) undef) w) →
      ∀ K' : Act → World → Prop, (∀ v w', F i v w' → Keeps (fun _ => False) w w' → K' (a.put o.dst v) w') → Oper.wp P o a w K' Q)
    (he : ∀ (a : Act) (w : World), Same a0 m (fun i => dl.getD i 0) a → Keeps (fun _ => False) X w → (∀ i, i < m → F i (a.tmps.getD (dl.getD i 0) undef) w) →
      ∀ K' : Act → World → Prop, (∀ a' w', (∀ K2 : Act → World → Prop, (∀ a2 w2, Q .normal a2 w2 → K2 a2 w2) → Oper.wp P oz a' w' K2 Q) → K' a' w') → Oper.wp P os a w K' Q) : (Code.region id ops true).wp P Q a0 w0 :=
  wp_region_last2 hm m hsz os oz hos hoz hog hzg hoa hza hcov hcov2 dl hn hlen hB hX F hF hs (fun a' w' => ∀ K2 : Act → World → Prop, (∀ a2 w2, Q .normal a2 w2 → K2 a2 w2) → Oper.wp P oz a' w' K2 Q) he (fun _ _ h => h)
end
end Go.Proofs.YtiinohibmcefkaaGreatDoor
