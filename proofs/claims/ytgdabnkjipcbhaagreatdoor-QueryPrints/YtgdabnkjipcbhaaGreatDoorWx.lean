import Derived.Test.YtgdabnkjipcbhaaGreatDoorJzag
import Derived.Test.YtgdabnkjipcbhaaGreatDoorJzah
import Derived.Deep.AppendLies
import Derived.Deep.DeepAppendRoom
import Derived.Deep.DeepCutAuto
import Derived.Deep.RegionHeld3
import Derived.Handy
import Derived.Laws.Rows
import Derived.Laws.Tables
namespace Go.Proofs.YtgdabnkjipcbhaaGreatDoor
open Go.RowKit Go.Maps

theorem ownsRow_kept {w w' : World} {B e size n : Nat} {v : Value} {xs : List Value} (h : w.ownsRow B e size v n xs) {F : Nat → Prop} (hk : Keeps F w w') (hF : ∀ k, v.ownBlock = some k → ¬ F k) : w'.ownsRow B e size v n xs := by
  obtain ⟨h1, h2⟩ := h
  refine ⟨h1, ?_⟩
  rcases h2 with h2 | ⟨g, cap, cur, hv, hb, hg, rest⟩
  · exact Or.inl h2
  · exact Or.inr ⟨g, cap, cur, hv, hb, by rw [hk.block g (lt_of_block hg) (hF g (by rw [hv]; rfl))]; exact hg, rest⟩
theorem Keeps.narrow {F : Nat → Prop} {a b c : World} (h : Keeps (fun _ => False) a b) (k : Keeps F b c) (hF : ∀ i, F i → a.heap.size ≤ i) : Keeps (fun _ => False) a c :=
  ⟨k.os.trans h.os, k.tape.trans h.tape, k.output.trans h.output, Nat.le_trans h.size k.size, fun i hi _ => (k.block i (Nat.lt_of_lt_of_le hi h.size) (fun f => by have := hF i f; omega)).trans (h.block i hi id)⟩
theorem kAlloc (w : World) (o : Obj) : Keeps (fun _ => False) w (w.alloc o) := (Keeps.refl _ _).alloc _
theorem cl4 {w : World} {b : Nat} {c0 c1 c2 c3 : Value} {t : TypeId} {fr : Nat × Nat} (h : w.heap[b]? = some (.cells #[c0, c1, c2, c3] t fr)) : w.cell? ⟨b, 0, none⟩ = some c0 ∧ w.cell? ⟨b, 1, none⟩ = some c1 ∧ w.cell? ⟨b, 2, none⟩ = some c2 ∧ w.cell? ⟨b, 3, none⟩ = some c3 :=
  ⟨(cell_of_blk h _).trans rfl, (cell_of_blk h _).trans rfl, (cell_of_blk h _).trans rfl, (cell_of_blk h _).trans rfl⟩
theorem off2 {b : Bool} {y : Value} (hy : ∀ n, y ≠ .int .i64 n) (i : Nat) (a n : Int) (s : Txt) (h1 : (#[.bool b, y] : Array Value)[i]? = some (.int .i64 a)) (h2 : (#[.bool b, y] : Array Value)[i + 1]? = some (.int .i64 n)) (h3 : (#[.bool b, y] : Array Value)[i + 2]? = some (str s)) : False := by
  rcases i with _ | _ | i
  · simp at h1
  · simp at h1; exact hy _ h1
  · simp at h1
/-- How many of the first n are not done. -/
def undone (d : Nat → Bool) : Nat → Nat
  | 0 => 0
  | n + 1 => undone d n + if d n then 0 else 1
def mark (d : Nat → Bool) (i : Nat) : Nat → Bool := fun j => if j = i then true else d j
theorem undone_ge (d : Nat → Bool) {i : Nat} : ∀ {n : Nat}, n ≤ i → undone (mark d i) n = undone d n
  | 0, _ => rfl
  | n + 1, h => by
    have : mark d i n = d n := by unfold mark; rw [if_neg (by omega)]
    simp only [undone, this, undone_ge d (show n ≤ i by omega)]
theorem undone_mark {d : Nat → Bool} {i : Nat} (hd : d i = false) : ∀ {n : Nat}, i < n → undone (mark d i) n + 1 = undone d n
  | 0, h => by omega
  | n + 1, h => by
    by_cases hn : n = i
    · subst hn
      have : mark d n n = true := by unfold mark; rw [if_pos rfl]
      simp only [undone, this, hd, undone_ge d (Nat.le_refl n)]
      simp
    · have : mark d i n = d n := by unfold mark; rw [if_neg hn]
      have ih := undone_mark hd (show i < n by omega)
      simp only [undone, this]
      omega
theorem undone_zero {d : Nat → Bool} : ∀ {n : Nat}, undone d n = 0 → ∀ i, i < n → d i = true
  | 0, _, i, h => by omega
  | n + 1, h, i, hi => by
    simp only [undone] at h
    by_cases hn : i = n
    · subst hn
      cases hd : d i with
      | true => rfl
      | false => rw [hd] at h; simp at h
    · exact undone_zero (n := n) (by omega) i (by omega)
section
variable {P : Program} {ops : Array Oper} {Q : Exit → Act → World → Prop}
/-- A region whose edges go back alone, and in which none is ready: all are done. -/
theorem all_done (hac : ∀ (i : Nat) (o : Oper), ops[i]? = some o → ∀ e ∈ o.after, e.on < i) {listed : Array Bool} (hl : listed.size = ops.size) (hr : Region.ready .any ops listed = []) : ∀ i, i < ops.size → listed.getD i false = true := by
  intro i
  induction i using Nat.strongRecOn with
  | ind i ih =>
    intro hi
    cases hd : listed.getD i false with
    | true => rfl
    | false =>
      have hm : i ∈ Region.ready .any ops listed := by
        refine mem_ready.2 ⟨?_, ops[i], Array.getElem?_eq_getElem hi, fun e he _ => ih e.on (hac i _ (Array.getElem?_eq_getElem hi) e he) (Nat.lt_trans (hac i _ (Array.getElem?_eq_getElem hi) e he) hi)⟩
        rw [Array.getD_eq_getD_getElem?, Array.getElem?_eq_getElem (by omega)] at hd ⊢
        exact hd
      rw [hr] at hm
      cases hm
end
section
variable {P : Program} {ops : Array Oper} {Q : Exit → Act → World → Prop}
theorem wpAny_inv (hac : ∀ (i : Nat) (o : Oper), ops[i]? = some o → ∀ e ∈ o.after, e.on < i) (I : (Nat → Bool) → Act → World → Prop)
    (hs : ∀ (d : Nat → Bool) (a : Act) (w : World) (i : Nat) (o : Oper), I d a w → d i = false → ops[i]? = some o → (∀ e ∈ o.after, Region.binds .any e = true → d e.on = true) → wpOp P ops Q i (fun a' w' => I (mark d i) a' w') a w)
    (he : ∀ (d : Nat → Bool) (a : Act) (w : World), I d a w → (∀ i, i < ops.size → d i = true) → Q .normal a w) :
    ∀ (fuel : Nat) (listed : Array Bool) (a : Act) (w : World), listed.size = ops.size → undone (fun j => listed.getD j false) ops.size ≤ fuel → I (fun j => listed.getD j false) a w → wpAny P .any ops Q fuel listed a w
  | 0, listed, a, w, hl, hf, hI => by
    have hd := undone_zero (Nat.le_zero.1 hf)
    refine ⟨?_, he _ a w hI hd⟩
    cases hr : Region.ready .any ops listed with
    | nil => rfl
    | cons i r =>
      have hm : i ∈ Region.ready .any ops listed := by rw [hr]; exact List.mem_cons_self ..
      obtain ⟨h1, o, ho, _⟩ := mem_ready.1 hm
      have hi : i < ops.size := (Array.getElem?_eq_some_iff.1 ho).1
      have h2 := hd i hi
      rw [Array.getD_eq_getD_getElem?, Array.getElem?_eq_getElem (by omega)] at h1
      simp only [Array.getD_eq_getD_getElem?, Array.getElem?_eq_getElem (show i < listed.size by omega)] at h2
      have h1' : listed[i] = false := h1
      have h2' : listed[i] = true := h2
      rw [h1'] at h2'
      cases h2'
  | fuel + 1, listed, a, w, hl, hf, hI => by
    refine ⟨fun hr => he _ a w hI (all_done hac hl hr), fun i hm => ?_⟩
    obtain ⟨h1, o, ho, hall⟩ := mem_ready.1 hm
    have hi : i < ops.size := (Array.getElem?_eq_some_iff.1 ho).1
    have hd : listed.getD i false = false := by
      rw [Array.getD_eq_getD_getElem?, Array.getElem?_eq_getElem (by omega)] at h1 ⊢
      exact h1
    have heq : (fun j => (listed.setIfInBounds i true).getD j false) = mark (fun j => listed.getD j false) i := by
      funext j
      unfold mark
      by_cases hj : j = i
      · subst hj
        rw [if_pos rfl, Array.getD_eq_getD_getElem?, Array.getElem?_setIfInBounds_self_of_lt (by omega)]
        rfl
      · rw [if_neg hj]
        show (listed.setIfInBounds i true).getD j false = listed.getD j false
        rw [Array.getD_eq_getD_getElem?, Array.getD_eq_getD_getElem?, Array.getElem?_setIfInBounds_ne (fun e => hj e.symm)]
    refine wpOp_mono (fun a' w' hI' => ?_) (hs _ a w i o hI hd ho hall)
    refine wpAny_inv hac I hs he fuel (listed.setIfInBounds i true) a' w' (by simpa using hl) ?_ ?_
    · rw [heq]
      have := undone_mark (d := fun j => listed.getD j false) hd hi
      omega
    · rw [heq]
      exact hI'
end
section
variable {P : Program} {ops : Array Oper} {Q : Exit → Act → World → Prop}
/-- A region that draws its order, by what holds of those that are done. -/
theorem wp_region_inv {id : Nat} {a : Act} {w : World} (hm : P.follows .mixedOrders = true) (hac : ∀ (i : Nat) (o : Oper), ops[i]? = some o → ∀ e ∈ o.after, e.on < i) (I : (Nat → Bool) → Act → World → Prop)
    (h0 : I (fun _ => false) a w.drew)
    (hs : ∀ (d : Nat → Bool) (a : Act) (w : World) (i : Nat) (o : Oper), I d a w → d i = false → ops[i]? = some o → (∀ e ∈ o.after, Region.binds .any e = true → d e.on = true) → wpOp P ops Q i (fun a' w' => I (mark d i) a' w') a w)
    (he : ∀ (d : Nat → Bool) (a : Act) (w : World), I d a w → (∀ i, i < ops.size → d i = true) → Q .normal a w) : (Code.region id ops true).wp P Q a w := by
  refine wp_region_any hm ?_
  have e : (fun j => (Array.replicate ops.size false).getD j false) = fun _ => false := by
    funext j
    rw [Array.getD_eq_getD_getElem?, Array.getElem?_replicate]
    split <;> rfl
  have hu : ∀ n, undone (fun _ => false) n = n := fun n => by
    induction n with
    | zero => rfl
    | succ n ih => simp [undone, ih]
  refine wpAny_inv hac I hs he _ _ _ _ (by simp) ?_ ?_
  · rw [e, hu]
    exact Nat.le_refl _
  · rw [e]
    exact h0
end
theorem put_get (a : Act) (d : Nat) (v : Value) (h : d < a.tmps.size) : (a.put (some d) v).tmps.getD d undef = v := by
  unfold Act.put
  rw [Array.getD_eq_getD_getElem?, Array.getElem?_setIfInBounds_self_of_lt h]
  rfl
theorem put_get_ne (a : Act) {d t : Nat} (v : Value) (h : d ≠ t) : (a.put (some d) v).tmps.getD t undef = a.tmps.getD t undef := by
  unfold Act.put
  simp only
  rw [Array.getD_eq_getD_getElem?, Array.getD_eq_getD_getElem?, Array.getElem?_setIfInBounds_ne h]
/-- The slots that a region doesn't write are as they were. -/
structure Same (a0 : Act) (n : Nat) (dst : Nat → Nat) (a : Act) : Prop where
  size : a.tmps.size = a0.tmps.size
  defers : a.defers = a0.defers
  slot : ∀ t, (∀ i, i < n → dst i ≠ t) → a.tmps.getD t undef = a0.tmps.getD t undef
theorem Same.put {a0 a : Act} {n : Nat} {dst : Nat → Nat} (h : Same a0 n dst a) {i : Nat} (hi : i < n) (v : Value) : Same a0 n dst (a.put (some (dst i)) v) :=
  ⟨by unfold Act.put; simpa using h.size, h.defers, fun t ht => (put_get_ne a v (ht i hi)).trans (h.slot t ht)⟩
section
variable {Q : Exit → Act → World → Prop} {K : Act → World → Prop} {o : Oper} {a : Act} {w : World}
theorem slot_of {a : Act} {t : Nat} {v : Value} (h : a.tmps.getD t undef = v) : a.tmps[t]?.getD undef = v := by rw [← Array.getD_eq_getD_getElem?]; exact h
end
section
variable {Q : Exit → Act → World → Prop} {K : Act → World → Prop} {o : Oper} {a : Act} {w : World}
theorem step_assign {t : Nat} {v : Value} (ho : o.op = .assign (.tmp t)) (ht : a.tmps.getD t undef = v) (hk : K (a.put o.dst v) w) : Oper.wp Tryz.prog o a w K Q := by
  have he : a.eval (.tmp t) = v := ht
  unfold Oper.wp
  simp only [execOp, ho, he]
  exact hk
end
/-- The operations of a region, one by one: each writes its own slot, is not guarded, waits for earlier ones alone. -/
def opsB (dl : List Nat) (sz : Nat) : Nat → List Oper → Bool
  | _, [] => true
  | i, o :: r => decide (o.dst = some (dl.getD i 0)) && o.guard.isNone && decide (dl.getD i 0 < sz) && o.after.toList.all (fun e => decide (e.on < i)) && opsB dl sz (i + 1) r
theorem opsB_at {dl : List Nat} {sz : Nat} : ∀ {l : List Oper} {k : Nat}, opsB dl sz k l = true → ∀ (j : Nat) (o : Oper), l[j]? = some o → o.dst = some (dl.getD (k + j) 0) ∧ o.guard = none ∧ dl.getD (k + j) 0 < sz ∧ ∀ e ∈ o.after, e.on < k + j
  | [], _, _, j, o, h => by simp at h
  | x :: r, k, hB, 0, o, h => by
    simp at h
    subst h
    simp only [opsB, Bool.and_eq_true, decide_eq_true_eq, Option.isNone_iff_eq_none] at hB
    obtain ⟨⟨⟨⟨h1, h2⟩, h3⟩, h4⟩, _⟩ := hB
    refine ⟨h1, h2, h3, fun e he => ?_⟩
    have := List.all_eq_true.1 h4 e (by simpa using he)
    simpa using this
  | x :: r, k, hB, j + 1, o, h => by
    simp only [opsB, Bool.and_eq_true] at hB
    have := opsB_at hB.2 j o (by simpa using h)
    rw [show k + 1 + j = k + (j + 1) by omega] at this
    exact this
/-- What an operation waits for. -/
def waitsL (o : Oper) : List Nat := (o.after.toList.filter (Region.binds .any)).map (·.on)
/-- Are all of the first n waited for? -/
def coverB (ops : Array Oper) : Nat → List Nat → Bool
  | 0, _ => true
  | i + 1, need => need.contains i && coverB ops i (need ++ (match ops[i]? with | some o => waitsL o | none => []))
theorem waitsL_mem {o : Oper} {j : Nat} (h : j ∈ waitsL o) : ∃ e ∈ o.after, Region.binds .any e = true ∧ e.on = j := by
  unfold waitsL at h
  obtain ⟨e, he, rfl⟩ := List.mem_map.1 h
  obtain ⟨h1, h2⟩ := List.mem_filter.1 he
  exact ⟨e, by simpa using h1, h2, rfl⟩
theorem coverB_all {ops : Array Oper} {d : Nat → Bool} (hc : ∀ (i : Nat) (o : Oper), ops[i]? = some o → d i = true → ∀ e ∈ o.after, Region.binds .any e = true → d e.on = true) : ∀ (n : Nat) (need : List Nat), coverB ops n need = true → (∀ j ∈ need, d j = true) → ∀ i, i < n → d i = true
  | 0, _, _, _, i, h => by omega
  | n + 1, need, h, hn, i, hi => by
    simp only [coverB, Bool.and_eq_true] at h
    have hdn : d n = true := hn n (by simpa using h.1)
    by_cases e : i = n
    · rw [e]; exact hdn
    · refine coverB_all hc n _ h.2 (fun j hj => ?_) i (by omega)
      rcases List.mem_append.1 hj with hj | hj
      · exact hn j hj
      · cases ho : ops[n]? with
        | none => rw [ho] at hj; simp at hj
        | some o =>
          rw [ho] at hj
          obtain ⟨e, he, hb, rfl⟩ := waitsL_mem hj
          exact hc n o ho hdn e he hb
theorem Same.at {a0 a : Act} {n : Nat} {dl : List Nat} (h : Same a0 n (fun i => dl.getD i 0) a) (hn : dl.length = n) (t : Nat) (ht : t ∉ dl) : a.tmps.getD t undef = a0.tmps.getD t undef :=
  h.slot t fun i hi e => ht (by rw [← e]; subst hn; rw [List.getD_eq_getElem?_getD, List.getElem?_eq_getElem hi]; exact List.getElem_mem hi)
section
variable {Q : Exit → Act → World → Prop} {K : Act → World → Prop} {o : Oper} {a : Act} {w : World}
theorem step_move {t : Nat} {v : Value} (ho : o.op = .move (.tmp t)) (ht : a.tmps.getD t undef = v) (hk : K (a.put o.dst v) w) : Oper.wp Tryz.prog o a w K Q := by
  have he : a.eval (.tmp t) = v := ht
  unfold Oper.wp
  simp only [execOp, ho, he]
  exact hk
end
section
variable {Q : Exit → Act → World → Prop} {K : Act → World → Prop} {o : Oper} {a : Act} {w : World}
theorem step_load2 {t b off : Nat} {v : Value} (ho : o.op = .load 2 (.tmp t)) (ht : a.tmps.getD t undef = .pointer (some ⟨b, off, none⟩)) (hc : w.cell? ⟨b, off, none⟩ = some v) (hk : K (a.put o.dst v) w) : Oper.wp Tryz.prog o a w K Q := by
  have he := slot_of ht
  unfold Oper.wp
  simp [execOp, ho, he, go_sem, hc]
  exact hk
end
section
variable {Q : Exit → Act → World → Prop} {K : Act → World → Prop} {o : Oper} {a : Act} {w : World}
theorem step_load9 {t b off : Nat} {v : Value} (ho : o.op = .load 9 (.tmp t)) (ht : a.tmps.getD t undef = .pointer (some ⟨b, off, none⟩)) (hc : w.cell? ⟨b, off, none⟩ = some v) (hk : K (a.put o.dst v) w) : Oper.wp Tryz.prog o a w K Q := by
  have he := slot_of ht
  unfold Oper.wp
  simp [execOp, ho, he, go_sem, hc]
  exact hk
end
theorem fold_at (V : Nat → Value) : ∀ (l : List Nat) (a : Act) (t : Nat), (l.foldl (fun a d => a.put (some d) (V d)) a).tmps[t]? = (if t ∈ l ∧ t < a.tmps.size then some (V t) else a.tmps[t]?) ∧ (l.foldl (fun a d => a.put (some d) (V d)) a).tmps.size = a.tmps.size ∧ (l.foldl (fun a d => a.put (some d) (V d)) a).defers = a.defers
  | [], a, t => by simp
  | d :: l, a, t => by
    obtain ⟨h1, h2, h3⟩ := fold_at V l (a.put (some d) (V d)) t
    have hs : (a.put (some d) (V d)).tmps.size = a.tmps.size := by unfold Act.put; simp
    have hd : (a.put (some d) (V d)).defers = a.defers := rfl
    simp only [List.foldl_cons]
    refine ⟨?_, h2.trans hs, h3.trans hd⟩
    rw [h1, hs]
    have hp : (a.put (some d) (V d)).tmps[t]? = if d = t ∧ t < a.tmps.size then some (V d) else a.tmps[t]? := by
      unfold Act.put
      simp only [Array.getElem?_setIfInBounds]
      by_cases e : d = t
      · subst e
        by_cases hl : d < a.tmps.size
        · simp [hl]
        · simp [hl]
      · simp [e]
    rw [hp]
    by_cases hl : t < a.tmps.size
    · by_cases e : d = t
      · subst e
        by_cases hm : d ∈ l
        · simp [hl, hm]
        · simp [hl, hm]
      · have e' : ¬ t = d := fun q => e q.symm
        by_cases hm : t ∈ l
        · simp [hl, hm]
        · simp [hl, hm, e, e']
    · simp [hl]
/-- What a region leaves, written out. -/
theorem same_fold {a0 A : Act} {n : Nat} {dl : List Nat} (h : Same a0 n (fun i => dl.getD i 0) A) (hn : dl.length = n) : A = dl.foldl (fun a d => a.put (some d) (A.tmps.getD d undef)) a0 := by
  have hf := fold_at (fun d => A.tmps.getD d undef) dl a0
  have ht : A.tmps = (dl.foldl (fun a d => a.put (some d) (A.tmps.getD d undef)) a0).tmps := by
    apply Array.ext_getElem?
    intro t
    rw [(hf t).1]
    by_cases hm : t ∈ dl ∧ t < a0.tmps.size
    · rw [if_pos hm, Array.getD_eq_getD_getElem?, Array.getElem?_eq_getElem (by rw [h.size]; exact hm.2)]
      rfl
    · rw [if_neg hm]
      by_cases hl : t < a0.tmps.size
      · have hnm : t ∉ dl := fun q => hm ⟨q, hl⟩
        have := h.slot t fun i hi e => hnm (by rw [← e]; subst hn; rw [List.getD_eq_getElem?_getD, List.getElem?_eq_getElem hi]; exact List.getElem_mem hi)
        rw [Array.getD_eq_getD_getElem?, Array.getD_eq_getD_getElem?, Array.getElem?_eq_getElem (by rw [h.size]; exact hl), Array.getElem?_eq_getElem hl] at this
        rw [Array.getElem?_eq_getElem (by rw [h.size]; exact hl), Array.getElem?_eq_getElem hl]
        exact congrArg some this
      · rw [Array.getElem?_eq_none (by rw [h.size]; omega), Array.getElem?_eq_none (by omega)]
  have hdf : A.defers = (dl.foldl (fun a d => a.put (some d) (A.tmps.getD d undef)) a0).defers := by rw [(hf 0).2.2, h.defers]
  cases A with
  | mk tm df =>
    generalize dl.foldl (fun a d => a.put (some d) ((⟨tm, df⟩ : Act).tmps.getD d undef)) a0 = B at ht hdf ⊢
    cases B
    simp only at ht hdf
    rw [ht, hdf]
section
variable {Q : Exit → Act → World → Prop} {K : Act → World → Prop} {o : Oper} {a : Act} {w : World}
theorem step_fieldE0 {t b off : Nat} (ho : o.op = .fieldAddr 54 (.tmp t) 0) (ht : a.tmps.getD t undef = .pointer (some ⟨b, off, none⟩)) (hk : K (a.put o.dst (.pointer (some ⟨b, off, none⟩))) w) : Oper.wp Tryz.prog o a w K Q := by
  have he := slot_of ht
  unfold Oper.wp
  simp [execOp, ho, he, go_sem]
  exact hk
end
section
variable {Q : Exit → Act → World → Prop} {K : Act → World → Prop} {o : Oper} {a : Act} {w : World}
theorem step_fieldE1 {t b off : Nat} (ho : o.op = .fieldAddr 54 (.tmp t) 1) (ht : a.tmps.getD t undef = .pointer (some ⟨b, off, none⟩)) (hk : K (a.put o.dst (.pointer (some ⟨b, off + 1, none⟩))) w) : Oper.wp Tryz.prog o a w K Q := by
  have he := slot_of ht
  unfold Oper.wp
  simp [execOp, ho, he, go_sem]
  exact hk
end
section
variable {Q : Exit → Act → World → Prop} {K : Act → World → Prop} {o : Oper} {a : Act} {w : World}
theorem step_fieldE2 {t b off : Nat} (ho : o.op = .fieldAddr 54 (.tmp t) 2) (ht : a.tmps.getD t undef = .pointer (some ⟨b, off, none⟩)) (hk : K (a.put o.dst (.pointer (some ⟨b, off + 2, none⟩))) w) : Oper.wp Tryz.prog o a w K Q := by
  have he := slot_of ht
  unfold Oper.wp
  simp [execOp, ho, he, go_sem]
  exact hk
end
section
variable {Q : Exit → Act → World → Prop} {K : Act → World → Prop} {o : Oper} {a : Act} {w : World}
theorem step_fieldE3 {t b off : Nat} (ho : o.op = .fieldAddr 54 (.tmp t) 3) (ht : a.tmps.getD t undef = .pointer (some ⟨b, off, none⟩)) (hk : K (a.put o.dst (.pointer (some ⟨b, off + 3, none⟩))) w) : Oper.wp Tryz.prog o a w K Q := by
  have he := slot_of ht
  unfold Oper.wp
  simp [execOp, ho, he, go_sem]
  exact hk
end
section
variable {Q : Exit → Act → World → Prop} {K : Act → World → Prop} {o : Oper} {a : Act} {w : World}
theorem step_load25 {t b off : Nat} {v : Value} (ho : o.op = .load 22 (.tmp t)) (ht : a.tmps.getD t undef = .pointer (some ⟨b, off, none⟩)) (hc : w.cell? ⟨b, off, none⟩ = some v) (hk : K (a.put o.dst v) w) : Oper.wp Tryz.prog o a w K Q := by
  have he := slot_of ht
  unfold Oper.wp
  simp [execOp, ho, he, go_sem, hc]
  exact hk
end
section
variable {Q : Exit → Act → World → Prop} {K : Act → World → Prop} {o : Oper} {a : Act} {w : World}
theorem step_load3 {t b off : Nat} {v : Value} (ho : o.op = .load 3 (.tmp t)) (ht : a.tmps.getD t undef = .pointer (some ⟨b, off, none⟩)) (hc : w.cell? ⟨b, off, none⟩ = some v) (hk : K (a.put o.dst v) w) : Oper.wp Tryz.prog o a w K Q := by
  have he := slot_of ht
  unfold Oper.wp
  simp [execOp, ho, he, go_sem, hc]
  exact hk
end
section
variable {Q : Exit → Act → World → Prop} {K : Act → World → Prop} {o : Oper} {a : Act} {w : World}
set_option maxRecDepth 100000 in
theorem step_indexE {t u kb ko n cap j : Nat} (ho : o.op = .indexAddr 22 (.tmp t) (.tmp u)) (ht : a.tmps.getD t undef = .slice (some ⟨kb, ko, none⟩) n cap) (hu : a.tmps.getD u undef = .int .i64 (j : Int)) (hj : j < n) (hk : K (a.put o.dst (.pointer (some ⟨kb, ko + j * 4, none⟩))) w) : Oper.wp Tryz.prog o a w K Q := by
  have he := slot_of ht
  have he2 := slot_of hu
  have h1 : (j : Int) < (n : Int) := by omega
  have h0 : (0 : Int) ≤ (j : Int) := by omega
  unfold Oper.wp
  simp [execOp, ho, he, he2, go_sem, h1, h0]
  exact hk
end
theorem flatC_get {α : Type} (f : α → List Value) (sz : Nat) (hf : ∀ x, (f x).length = sz) : ∀ (C : List α) (i j : Nat) (c : α) (v : Value), C[i]? = some c → (f c)[j]? = some v → (C.flatMap f)[i * sz + j]? = some v
  | [], i, j, c, v, h, _ => by simp at h
  | x :: r, 0, j, c, v, h, hv => by
    simp at h
    subst h
    rw [List.flatMap_cons, Nat.zero_mul, Nat.zero_add, List.getElem?_append_left (List.getElem?_eq_some_iff.1 hv).1]
    exact hv
  | x :: r, i + 1, j, c, v, h, hv => by
    have ih := flatC_get f sz hf r i j c v (by simpa using h) hv
    rw [List.flatMap_cons, List.getElem?_append_right (by rw [hf]; have : (i + 1) * sz = i * sz + sz := Nat.succ_mul i sz; omega), hf, show (i + 1) * sz + j - sz = i * sz + j by have : (i + 1) * sz = i * sz + sz := Nat.succ_mul i sz; omega]
    exact ih
def spareT : Txt := [115, 112, 97, 114, 101]
def marksW (f : Nat → List Value) (n : Nat) : List Value := (List.range n).flatMap f
theorem marks_snoc (f : Nat → List Value) (n : Nat) : marksW f (n + 1) = marksW f n ++ f n := by simp [marksW, List.range_succ]
theorem marks_get {f : Nat → List Value} {sz : Nat} (hf : ∀ i, (f i).length = sz) {i j : Nat} {x : Value} (hi : i < 16) (hx : (f i)[j]? = some x) : (marksW f 16)[i * sz + j]? = some x :=
  flatC_get f sz hf (List.range 16) i j i x (by rw [List.getElem?_range hi]) hx
/-- A mark behind a list of expressions. -/
def markE (i : Nat) : List Value := [.int .i64 (-77 - (i : Int)), .int .i64 0, str spareT, .slice none 0 0]
/-- Sixteen marks stand in a block, from a cell on. -/
def MarksE (w : World) (g o : Nat) : Prop := ∀ j x, (marksW markE 16)[j]? = some x → w.cell? ⟨g, o + j, none⟩ = some x
/-- Expressions in a block from a cell on, each list of theirs with its marks behind it, in these blocks alone. -/
def WdIn (A : Nat → Prop) (w : World) : EL → Nat → Nat → Prop
  | .nil, _, _ => True
  | .cons op n s kids rest, b, o =>
    b < w.heap.size ∧ A b ∧ w.cell? ⟨b, o, none⟩ = some (.int .i64 op) ∧ w.cell? ⟨b, o + 1, none⟩ = some (.int .i64 n) ∧ w.cell? ⟨b, o + 2, none⟩ = some (str s) ∧
      (∃ g cap, w.cell? ⟨b, o + 3, none⟩ = some (.slice (some ⟨g, 0, none⟩) kids.len cap) ∧ kids.len + 16 ≤ cap ∧ g < w.heap.size ∧ A g ∧ MarksE w g (kids.len * 4) ∧ WdIn A w kids g 0) ∧ WdIn A w rest b (o + 4)
/-- A list of expressions that is a piece of a longer array, with its marks. -/
def WdSl (A : Nat → Prop) (w : World) (v : Value) (l : EL) : Prop := ∃ g cap, v = .slice (some ⟨g, 0, none⟩) l.len cap ∧ l.len + 16 ≤ cap ∧ g < w.heap.size ∧ A g ∧ MarksE w g (l.len * 4) ∧ WdIn A w l g 0
section
variable {A B F : Nat → Prop} {w w' : World}
theorem MarksE.keep {g o : Nat} (h : MarksE w g o) (hk : Keeps F w w') (hg : g < w.heap.size) (hF : ¬ F g) : MarksE w' g o := fun j x hx => (hk.cell hg hF).trans (h j x hx)
end
section
variable {A B F : Nat → Prop} {w w' : World}
theorem WdIn.keep (hk : Keeps F w w') (hF : ∀ k, k < w.heap.size → A k → ¬ F k) : ∀ {l : EL} {b o : Nat}, WdIn A w l b o → WdIn A w' l b o
  | .nil, _, _, _ => trivial
  | .cons _ _ _ _ _, _, _, ⟨h1, h2, h3, h4, h5, ⟨g, cap, h6, h7, h8, h9, h10, h11⟩, h12⟩ => by
    have hf := hF _ h1 h2
    exact ⟨Nat.lt_of_lt_of_le h1 hk.size, h2, (hk.cell h1 hf).trans h3, (hk.cell h1 hf).trans h4, (hk.cell h1 hf).trans h5, ⟨g, cap, (hk.cell h1 hf).trans h6, h7, Nat.lt_of_lt_of_le h8 hk.size, h9, h10.keep hk h8 (hF _ h8 h9), h11.keep hk hF⟩, h12.keep hk hF⟩
end
section
variable {A B F : Nat → Prop} {w w' : World}
theorem WdIn.mono (hAB : ∀ k, k < w.heap.size → A k → B k) : ∀ {l : EL} {b o : Nat}, WdIn A w l b o → WdIn B w l b o
  | .nil, _, _, _ => trivial
  | .cons _ _ _ _ _, _, _, ⟨h1, h2, h3, h4, h5, ⟨g, cap, h6, h7, h8, h9, h10, h11⟩, h12⟩ => ⟨h1, hAB _ h1 h2, h3, h4, h5, ⟨g, cap, h6, h7, h8, hAB _ h8 h9, h10, h11.mono hAB⟩, h12.mono hAB⟩
end
section
variable {A B F : Nat → Prop} {w w' : World}
theorem WdSl.keep {v : Value} {l : EL} (h : WdSl A w v l) (hk : Keeps F w w') (hF : ∀ k, k < w.heap.size → A k → ¬ F k) : WdSl A w' v l := by
  obtain ⟨g, cap, e, h1, h2, h3, h4, h5⟩ := h
  exact ⟨g, cap, e, h1, Nat.lt_of_lt_of_le h2 hk.size, h3, h4.keep hk h2 (hF _ h2 h3), h5.keep hk hF⟩
end
section
variable {A B F : Nat → Prop} {w w' : World}
theorem WdSl.keepF {v : Value} {l : EL} (h : WdSl A w v l) (hk : Keeps (fun _ => False) w w') : WdSl A w' v l := h.keep hk (fun _ _ _ => id)
end
section
variable {A B F : Nat → Prop} {w w' : World}
theorem WdSl.mono {v : Value} {l : EL} (h : WdSl A w v l) (hAB : ∀ k, k < w.heap.size → A k → B k) : WdSl B w v l := by
  obtain ⟨g, cap, e, h1, h2, h3, h4, h5⟩ := h
  exact ⟨g, cap, e, h1, h2, hAB _ h2 h3, h4, h5.mono hAB⟩
end
section
variable {A B F : Nat → Prop} {w w' : World}
theorem WdIn.exIn : ∀ {l : EL} {b o : Nat}, WdIn A w l b o → ExIn (inZ A) w l b o
  | .nil, _, _, _ => trivial
  | .cons _ _ _ _ _, _, _, ⟨h1, h2, h3, h4, h5, ⟨g, cap, h6, h7, h8, h9, h10, h11⟩, h12⟩ => ⟨h1, h2, h3, h4, h5, ⟨some ⟨g, 0, none⟩, cap, h6, by omega, fun _ => ⟨g, 0, rfl, trivial, h11.exIn⟩⟩, h12.exIn⟩
end
section
variable {A B F : Nat → Prop} {w w' : World}
theorem WdSl.slE {v : Value} {l : EL} (h : WdSl A w v l) (up : Nat) : SlE (inZ A) w up v l := by
  obtain ⟨g, cap, e, h1, _, _, _, h5⟩ := h
  exact ⟨some ⟨g, 0, none⟩, cap, e, by omega, fun _ => ⟨g, 0, rfl, trivial, h5.exIn⟩⟩
end
/-- These cells hold these expressions, their lists with marks. -/
def WsIn (A : Nat → Prop) (w : World) : EL → List Value → Prop
  | .nil, xs => xs = []
  | .cons op n s kids rest, xs => ∃ kv xs', xs = .int .i64 op :: .int .i64 n :: str s :: kv :: xs' ∧ WdSl A w kv kids ∧ WsIn A w rest xs'
theorem WsIn.keep {A F : Nat → Prop} {w w' : World} (hk : Keeps F w w') (hF : ∀ k, k < w.heap.size → A k → ¬ F k) : ∀ {l : EL} {xs : List Value}, WsIn A w l xs → WsIn A w' l xs
  | .nil, _, h => h
  | .cons _ _ _ _ _, _, ⟨kv, xs', e, h1, h2⟩ => ⟨kv, xs', e, h1.keep hk hF, h2.keep hk hF⟩
theorem WsIn.mono {A B : Nat → Prop} {w : World} (hAB : ∀ k, k < w.heap.size → A k → B k) : ∀ {l : EL} {xs : List Value}, WsIn A w l xs → WsIn B w l xs
  | .nil, _, h => h
  | .cons _ _ _ _ _, _, ⟨kv, xs', e, h1, h2⟩ => ⟨kv, xs', e, h1.mono hAB, h2.mono hAB⟩
theorem WsIn.snoc {A : Nat → Prop} {w : World} {op n : Int} {s : Txt} {kids : EL} {kv : Value} (hk : WdSl A w kv kids) : ∀ {l : EL} {xs : List Value}, WsIn A w l xs → WsIn A w (l.app (.cons op n s kids .nil)) (xs ++ [.int .i64 op, .int .i64 n, str s, kv])
  | .nil, _, h => by
    have h' : _ = _ := h
    subst h'
    exact ⟨kv, [], rfl, hk, rfl⟩
  | .cons _ _ _ _ _, _, ⟨kv', xs', e, h1, h2⟩ => ⟨kv', xs' ++ [.int .i64 op, .int .i64 n, str s, kv], by rw [e]; rfl, h1, h2.snoc hk⟩
theorem WsIn.length {A : Nat → Prop} {w : World} : ∀ {l : EL} {xs : List Value}, WsIn A w l xs → xs.length = l.len * 4
  | .nil, _, h => by have h' : _ = _ := h; subst h'; rfl
  | .cons _ _ _ _ r, _, ⟨kv, xs', e, _, h⟩ => by have := WsIn.length h; subst e; simp [EL.len, this]; omega
theorem WsIn.wdIn {A B : Nat → Prop} {w : World} {b : Nat} (hb : b < w.heap.size) (hB : B b) (hAB : ∀ k, k < w.heap.size → A k → B k) : ∀ {l : EL} {xs : List Value} {o : Nat}, WsIn A w l xs → (∀ j x, xs[j]? = some x → w.cell? ⟨b, o + j, none⟩ = some x) → WdIn B w l b o
  | .nil, _, _, _, _ => trivial
  | .cons _ _ _ _ _, _, o, ⟨kv, xs', e, h1, h2⟩, hc => by
    subst e
    obtain ⟨g, cap, ek, hcap, hg, hA, hm, hi⟩ := h1.mono hAB
    refine ⟨hb, hB, hc 0 _ rfl, hc 1 _ rfl, hc 2 _ rfl, ⟨g, cap, by rw [← ek]; exact hc 3 _ rfl, hcap, hg, hA, hm, hi⟩, WsIn.wdIn hb hB hAB h2 (fun j x hx => ?_)⟩
    rw [show o + 4 + j = o + (j + 4) by omega]
    exact hc (j + 4) x (by simpa using hx)
section
variable {P : Program} {ops : Array Oper} {Q : Exit → Act → World → Prop}
/-- A region that draws its order and whose last two operations come one behind the other, behind all others. -/
theorem wp_region_last2 {id : Nat} {a0 : Act} {w0 X : World} (hm : P.follows .mixedOrders = true) (m : Nat) (hsz : ops.size = m + 2) (os oz : Oper) (hos : ops[m]? = some os) (hoz : ops[m + 1]? = some oz) (hog : os.guard = none) (hzg : oz.guard = none) (hoa : ∀ e ∈ os.after, e.on < m) (hza : ∀ e ∈ oz.after, e.on < m + 1) (hcov : coverB ops m (waitsL os) = true) (hcov2 : coverB ops (m + 1) (waitsL oz) = true)
    (dl : List Nat) (hn : dl.Nodup) (hlen : dl.length = m) (hB : opsB dl a0.tmps.size 0 (ops.toList.take m) = true)
    (hX : Keeps (fun _ => False) X w0)
    (F : Nat → Value → World → Prop) (hF : ∀ i v w w', F i v w → Keeps (fun _ => False) w w' → F i v w')
    (hs : ∀ (i : Nat) (o : Oper) (a : Act) (w : World), i < m → ops[i]? = some o → Same a0 m (fun i => dl.getD i 0) a → Keeps (fun _ => False) X w → (∀ e ∈ o.after, Region.binds .any e = true → F e.on (a.tmps.getD (dl.getD e.on 0) undef) w) →
      ∀ K' : Act → World → Prop, (∀ v w', F i v w' → Keeps (fun _ => False) w w' → K' (a.put o.dst v) w') → Oper.wp P o a w K' Q)
    (Mid : Act → World → Prop)
    (he : ∀ (a : Act) (w : World), Same a0 m (fun i => dl.getD i 0) a → Keeps (fun _ => False) X w → (∀ i, i < m → F i (a.tmps.getD (dl.getD i 0) undef) w) →
      ∀ K' : Act → World → Prop, (∀ a' w', Mid a' w' → K' a' w') → Oper.wp P os a w K' Q)
    (he2 : ∀ (a : Act) (w : World), Mid a w → ∀ K' : Act → World → Prop, (∀ a' w', Q .normal a' w' → K' a' w') → Oper.wp P oz a w K' Q) : (Code.region id ops true).wp P Q a0 w0 := by
  have hat : ∀ (i : Nat) (o : Oper), i < m → ops[i]? = some o → o.dst = some (dl.getD i 0) ∧ o.guard = none ∧ dl.getD i 0 < a0.tmps.size ∧ ∀ e ∈ o.after, e.on < i := fun i o hi ho => by
    have := opsB_at hB i o (by rw [List.getElem?_take_of_lt hi]; simpa using ho)
    rwa [Nat.zero_add] at this
  have hinj : ∀ i j, i < m → j < m → dl.getD i 0 = dl.getD j 0 → i = j := fun i j hi hj e => by
    have hi' : i < dl.length := by omega
    have hj' : j < dl.length := by omega
    have e' : dl[i] = dl[j] := by
      have := e
      simp only [List.getD_eq_getElem?_getD, List.getElem?_eq_getElem hi', List.getElem?_eq_getElem hj'] at this
      exact this
    exact (List.getElem?_inj hi' hn).1 (by rw [List.getElem?_eq_getElem hi', List.getElem?_eq_getElem hj', e'])
  have hlt : ∀ (i : Nat) (o : Oper), ops[i]? = some o → i < m ∨ i = m ∨ i = m + 1 := fun i o ho => by
    have := (Array.getElem?_eq_some_iff.1 ho).1
    omega
  have hac : ∀ (i : Nat) (o : Oper), ops[i]? = some o → ∀ e ∈ o.after, e.on < i := fun i o ho => by
    rcases hlt i o ho with hi | rfl | rfl
    · exact (hat i o hi ho).2.2.2
    · rw [hos] at ho
      obtain rfl := Option.some.inj ho
      exact hoa
    · rw [hoz] at ho
      obtain rfl := Option.some.inj ho
      exact hza
  refine wp_region_inv hm hac (fun d a w => (∀ (i : Nat) (o : Oper), ops[i]? = some o → d i = true → ∀ e ∈ o.after, Region.binds .any e = true → d e.on = true) ∧ ((d m = false ∧ d (m + 1) = false ∧ Same a0 m (fun i => dl.getD i 0) a ∧ Keeps (fun _ => False) X w ∧ ∀ i, i < m → d i = true → F i (a.tmps.getD (dl.getD i 0) undef) w) ∨ (d m = true ∧ d (m + 1) = false ∧ Mid a w) ∨ (d (m + 1) = true ∧ Q .normal a w))) ?_ ?_ ?_
  · exact ⟨(fun i o _ h => by cases h), Or.inl ⟨rfl, rfl, ⟨rfl, rfl, fun _ _ => rfl⟩, hX.drew, (fun i _ h => by cases h)⟩⟩
  · rintro d a w i o ⟨hcl, hI⟩ hd ho hall
    have hcl' : ∀ (j : Nat) (o' : Oper), ops[j]? = some o' → mark d i j = true → ∀ e ∈ o'.after, Region.binds .any e = true → mark d i e.on = true := fun j o' ho' hj e he' hb => by
      unfold mark at hj ⊢
      by_cases hei : e.on = i
      · rw [if_pos hei]
      · rw [if_neg hei]
        by_cases hji : j = i
        · subst hji
          rw [ho] at ho'
          obtain rfl := Option.some.inj ho'
          exact hall e he' hb
        · rw [if_neg hji] at hj
          exact hcl j o' ho' hj e he' hb
    have alld : ∀ (q : Nat) (oq : Oper), ops[q]? = some oq → coverB ops q (waitsL oq) = true → (∀ e ∈ oq.after, Region.binds .any e = true → d e.on = true) → ∀ j, j < q → d j = true := fun q oq _ hc hw => coverB_all hcl q (waitsL oq) hc (fun j hj => by
      obtain ⟨e, he', hb, rfl⟩ := waitsL_mem hj
      exact hw e he' hb)
    refine wpOp_step ho (fun K' hK => ?_)
    rcases hI with ⟨hdm, hdz, h1, h2, h3⟩ | ⟨hdm, hdz, hmid⟩ | ⟨hdz, _⟩
    · rcases hlt i o ho with hi | rfl | rfl
      · obtain ⟨q1, q2, q3, q4⟩ := hat i o hi ho
        have hw : Region.wanted o (yielded ops a.tmps) = true := by simp [Region.wanted, q2]
        rw [if_pos hw]
        refine hs i o a w hi ho h1 h2 (fun e he' hb => h3 e.on (Nat.lt_trans (q4 e he') hi) (hall e he' hb)) K' fun v w' hv hk => hK _ _ ⟨hcl', Or.inl ⟨?_, ?_, ?_, h2.trans hk, fun j hj hmk => ?_⟩⟩
        · unfold mark
          rw [if_neg (by omega)]
          exact hdm
        · unfold mark
          rw [if_neg (by omega)]
          exact hdz
        · rw [q1]
          exact h1.put hi v
        · by_cases hij : j = i
          · subst hij
            rw [q1, put_get a _ v (by rw [h1.size]; exact q3)]
            exact hv
          · rw [q1, put_get_ne a v (fun e => hij (hinj j i hj hi e.symm))]
            refine hF _ _ _ _ (h3 j hj ?_) hk
            unfold mark at hmk
            rwa [if_neg hij] at hmk
      · rw [hos] at ho
        obtain rfl := Option.some.inj ho
        have hw : Region.wanted os (yielded ops a.tmps) = true := by simp [Region.wanted, hog]
        rw [if_pos hw]
        have hdone := alld i os hos hcov hall
        refine he a w h1 h2 (fun j hj => h3 j hj (hdone j hj)) K' fun a' w' hq => hK _ _ ⟨hcl', Or.inr (Or.inl ⟨?_, ?_, hq⟩)⟩
        · unfold mark
          rw [if_pos rfl]
        · unfold mark
          rw [if_neg (by omega)]
          exact hdz
      · rw [hoz] at ho
        obtain rfl := Option.some.inj ho
        have hdone := alld (m + 1) oz hoz hcov2 hall m (by omega)
        rw [hdm] at hdone
        cases hdone
    · rcases hlt i o ho with hi | rfl | rfl
      · have hdone := alld m os hos hcov (hcl m os hos hdm) i hi
        rw [hd] at hdone
        cases hdone
      · rw [hd] at hdm
        cases hdm
      · rw [hoz] at ho
        obtain rfl := Option.some.inj ho
        have hw : Region.wanted oz (yielded ops a.tmps) = true := by simp [Region.wanted, hzg]
        rw [if_pos hw]
        refine he2 a w hmid K' fun a' w' hq => hK _ _ ⟨hcl', Or.inr (Or.inr ⟨?_, hq⟩)⟩
        unfold mark
        rw [if_pos rfl]
    · exfalso
      rcases hlt i o ho with hi | rfl | rfl
      · have hdone := alld (m + 1) oz hoz hcov2 (hcl (m + 1) oz hoz hdz) i (by omega)
        rw [hd] at hdone
        cases hdone
      · have hdone := alld (i + 1) oz hoz hcov2 (hcl (i + 1) oz hoz hdz) i (by omega)
        rw [hd] at hdone
        cases hdone
      · rw [hd] at hdz
        cases hdz
  · rintro d a w ⟨_, hI⟩ hd
    rcases hI with ⟨hdm, _⟩ | ⟨_, hdz, _⟩ | ⟨_, hq⟩
    · have := hd m (by omega)
      rw [hdm] at this
      cases this
    · have := hd (m + 1) (by omega)
      rw [hdz] at this
      cases this
    · exact hq
end
section
variable {P : Program} {ops : Array Oper} {Q : Exit → Act → World → Prop}
/-- The same, the last but one handing on to the last. -/
theorem wp_region_two {id : Nat} {a0 : Act} {w0 X : World} (hm : P.follows .mixedOrders = true) (m : Nat) (hsz : ops.size = m + 2) (os oz : Oper) (hos : ops[m]? = some os) (hoz : ops[m + 1]? = some oz) (hog : os.guard = none) (hzg : oz.guard = none) (hoa : ∀ e ∈ os.after, e.on < m) (hza : ∀ e ∈ oz.after, e.on < m + 1) (hcov : coverB ops m (waitsL os) = true) (hcov2 : coverB ops (m + 1) (waitsL oz) = true)
    (dl : List Nat) (hn : dl.Nodup) (hlen : dl.length = m) (hB : opsB dl a0.tmps.size 0 (ops.toList.take m) = true)
    (hX : Keeps (fun _ => False) X w0)
    (F : Nat → Value → World → Prop) (hF : ∀ i v w w', F i v w → Keeps (fun _ => False) w w' → F i v w')
    (hs : ∀ (i : Nat) (o : Oper) (a : Act) (w : World), i < m → ops[i]? = some o → Same a0 m (fun i => dl.getD i 0) a → Keeps (fun _ => False) X w → (∀ e ∈ o.after, Region.binds .any e = true → F e.on (a.tmps.getD (dl.getD e.on 0) undef) w) →
      ∀ K' : Act → World → Prop, (∀ v w', F i v w' → Keeps (fun _ => False) w w' → K' (a.put o.dst v) w') → Oper.wp P o a w K' Q)
    (he : ∀ (a : Act) (w : World), Same a0 m (fun i => dl.getD i 0) a → Keeps (fun _ => False) X w → (∀ i, i < m → F i (a.tmps.getD (dl.getD i 0) undef) w) →
      ∀ K' : Act → World → Prop, (∀ a' w', (∀ K2 : Act → World → Prop, (∀ a2 w2, Q .normal a2 w2 → K2 a2 w2) → Oper.wp P oz a' w' K2 Q) → K' a' w') → Oper.wp P os a w K' Q) : (Code.region id ops true).wp P Q a0 w0 :=
  wp_region_last2 hm m hsz os oz hos hoz hog hzg hoa hza hcov hcov2 dl hn hlen hB hX F hF hs (fun a' w' => ∀ K2 : Act → World → Prop, (∀ a2 w2, Q .normal a2 w2 → K2 a2 w2) → Oper.wp P oz a' w' K2 Q) he (fun _ _ h => h)
end
section
variable {Q : Exit → Act → World → Prop} {K : Act → World → Prop} {o : Oper} {a : Act} {w : World}
set_option maxRecDepth 100000 in
theorem step_c50 {t : Nat} {v : Value} {l : EL} (ho : o.op = .call { callee := .value (.func 11), args := #[.tmp t], argTypes := #[22] }) (ht : a.tmps.getD t undef = v) (hc : Calls Tryz.prog 11 #[v] w fun e w' => ∃ v', e = .returned v' ∧ WdSl (fun q => w.heap.size ≤ q) w' v' l ∧ Keeps (fun _ => False) w w')
    (hk : ∀ v' w', WdSl (fun q => w.heap.size ≤ q) w' v' l → Keeps (fun _ => False) w w' → K (a.put o.dst v') w') : Oper.wp Tryz.prog o a w K Q := by
  have he := slot_of ht
  unfold Oper.wp
  simp [execOp, ho, he, go_sem]
  refine hc.mono ?_
  rintro e w' ⟨v', rfl, h1, h2⟩
  exact hk _ _ h1 h2
end
section
variable {Q : Exit → Act → World → Prop} {K : Act → World → Prop} {o : Oper} {a : Act} {w : World}
set_option maxRecDepth 100000 in
theorem step_build27 {t0 t1 t2 t3 : Nat} {op n : Int} {s : Txt} {v3 : Value} {A : Nat → Prop} {l : EL} (ho : o.op = .build 54 #[(0, .tmp t0), (1, .tmp t1), (2, .tmp t2), (3, .tmp t3)]) (h0 : a.tmps.getD t0 undef = .int .i64 op) (h1 : a.tmps.getD t1 undef = .int .i64 n) (h2 : a.tmps.getD t2 undef = str s) (h3 : a.tmps.getD t3 undef = v3) (hw : WdSl A w v3 l)
    (hk : K (a.put o.dst (.agg #[.int .i64 op, .int .i64 n, str s, v3])) w) : Oper.wp Tryz.prog o a w K Q := by
  obtain ⟨g, cap, rfl, _⟩ := hw
  have e0 := slot_of h0
  have e1 := slot_of h1
  have e2 := slot_of h2
  have e3 := slot_of h3
  unfold Oper.wp
  simp [execOp, ho, e0, e1, e2, e3, go_sem]
  exact hk
end
section
variable {Q : Exit → Act → World → Prop} {K : Act → World → Prop} {o : Oper} {a : Act} {w : World}
set_option maxRecDepth 100000 in
theorem step_one27 {t : Nat} {v x0 x1 x2 : Value} {B : Nat} {l : EL} (ho : o.op = .buildSlice 22 1 #[(0, .tmp t)]) (ht : a.tmps.getD t undef = v) (hv : ∃ kv, v = .agg #[x0, x1, x2, kv] ∧ WdSl (fun q => B ≤ q) w kv l) (hB : B ≤ w.heap.size)
    (hk : ∀ v' w', (∃ kv g, v' = .slice (some ⟨g, 0, none⟩) 1 1 ∧ B ≤ g ∧ w'.heap[g]? = some (.cells #[x0, x1, x2, kv] 54 (0, 0)) ∧ WdSl (fun q => B ≤ q ∧ q < g) w' kv l) → Keeps (fun _ => False) w w' → K (a.put o.dst v') w') : Oper.wp Tryz.prog o a w K Q := by
  obtain ⟨kv, rfl, hw⟩ := hv
  have he := slot_of ht
  unfold Oper.wp
  simp [execOp, ho, he, go_sem]
  exact hk _ _ ⟨kv, w.heap.size, rfl, hB, heap_alloc_new w _, (hw.mono (fun q hq z => ⟨z, hq⟩)).keepF (kAlloc w _)⟩ (kAlloc w _)
end
/-- What WideExprs leaves. -/
def WPost (l : EL) (w : World) (e : Ending) (w' : World) : Prop := ∃ v', e = .returned v' ∧ WdSl (fun q => w.heap.size ≤ q) w' v' l ∧ Keeps (fun _ => False) w w'
set_option maxRecDepth 100000 in
set_option maxHeartbeats 8000000 in
theorem wideExprs_v (Z : Zone) (N : Nat) : ∀ (l : EL), l.size < N → l.size ≤ 4294967294 → ∀ (w : World) (up : Nat) (v : Value), SlE Z w up v l → Calls Tryz.prog 11 #[v] w (WPost l w) := by
  induction N with
  | zero => intro l h; omega
  | succ N ih =>
    intro l hsz hlen' w up v hS
    have hlen : l.len ≤ 4294967294 := by have := EL.len_le l; omega
    obtain ⟨ao, cap, b, off, rfl, hcap, ha, hx⟩ := hS.open
    obtain ⟨i0, hi, hz0, hz1, hz2⟩ := info_parts Tryz.info54
    have IH := hide ih
    have HX := hide hx
    have HA := hide ha
    clear hS ih hx ha
    go_enter Tryz.func11, Tryz.ntmps11
    go_wp2_with fail
    go_loopw [3, 4] (fun o i wr => ∃ (pre rest : EL) (k : Nat) (xs : List Value) (A : Nat → Prop), i = .int .i64 k ∧ l = pre.app rest ∧ k = pre.len ∧ wr.ownsRow w.heap.size 54 4 o k xs ∧ WsIn A wr pre xs ∧ (∀ q, A q → w.heap.size ≤ q ∧ q < wr.heap.size ∧ o.ownBlock ≠ some q) ∧ Keeps (fun _ => False) w wr ∧ ExIn Z w rest b (off + k * 4)) (fun _ i _ => l.len - (intOf i).toNat)
    case atStart => exact ⟨.nil, l, 0, [], fun _ => False, rfl, rfl, rfl, World.ownsRow_nil w w.heap.size 54 4, rfl, fun q h => h.elim, Keeps.refl _ _, by simpa using unhide HX⟩
    case round =>
      obtain ⟨pre, rest, k, xs, A, rfl, happ, hkp, hown, hcs, hAq, hkeep, hr⟩ := hrel
      obtain ⟨oo, oc, rfl⟩ := (rowAt_own hown).form
      have hll := congrArg EL.len happ
      have hls := congrArg EL.size happ
      rw [EL.len_app] at hll
      rw [EL.size_app] at hls
      have HO := hide hown
      have HCS := hide hcs
      have HAQ := hide hAq
      have HK := hide hkeep
      have HAPP := hide happ
      cases rest with
      | nil =>
        rw [EL.app_nil] at happ
        subst happ
        simp only [EL.len, EL.size, Nat.add_zero] at hll hls
        have i1 : ¬ (k : Int) < (l.len : Int) := by omega
        subst hkp
        clear hown hcs hAq hkeep hr hll hls HAPP
        have HLN := hide (unhide HCS).length
        go_wp2_with fail
        rename World => wo
        go_loopw [3, 5] (fun o i w2 => ∃ j : Nat, j ≤ 16 ∧ i = .int .i64 (j : Int) ∧ Hid (w2.ownsRow w.heap.size 54 4 o (l.len + j) (xs ++ marksW markE j)) ∧ Hid (WsIn A w2 l xs) ∧ Hid (∀ q, A q → w.heap.size ≤ q ∧ q < w2.heap.size ∧ o.ownBlock ≠ some q) ∧ Hid (Keeps (fun _ => False) w w2)) (fun _ i _ => 16 - (intOf i).toNat)
        case atStart => exact ⟨0, by omega, rfl, by simpa [Hid, marksW] using unhide HO, HCS, HAQ, HK⟩
        case round =>
          obtain ⟨j, hj, rfl, HO, HCS, HAQ, HK⟩ := hrel
          obtain ⟨oo, oc, rfl⟩ := (rowAt_own (unhide HO)).form
          by_cases hlt : j < 16
          · have i2 : (j : Int) < 16 := by omega
            have i0' : (0 : Int) ≤ (j : Int) := by omega
            go_wp2_with (at_builtin; refine wpList_append_lies _ rfl _ _ _ rfl w.heap.size 54 i0 _ 4 56 Tryz.underlying22 hi hz0 hz1 hz2 rfl (by omega) (.slice oo (l.len + j) oc) (l.len + j) (xs ++ marksW markE j) rfl ((unhide HO).alloc _) ⟨wr.heap.size, 0, none⟩ 1 1 (markE j) rfl rfl (World.news_of_block (cs := #[.int .i64 (-77 - (j : Int)), .int .i64 0, .string ⟨#[115, 112, 97, 114, 101]⟩, .slice none 0 0]) (t := 54) (fr := (0, 0)) (heap_alloc_new wr _)) (by simp [Value.oneCell', markE]) (by omega) (by unfold maxLen; omega) (by omega) (by have := (unhide HK).size; simp; omega) (wr.heap.size + 1) (by simp) ?_; intro g6 c6 w6 hown6 hgr6 hat6 hlt6; have HO6 := hide hown6; have HG6 := hide hgr6; have HA6 := hide hat6; clear hown6 hgr6 hat6)
            go_roundw
            case rel =>
              have hk3 : Keeps (fun q => (Value.slice oo (l.len + j) oc).ownBlock = some q) wr w6 := ((Keeps.refl _ wr).alloc _).grown (unhide HG6) (fun q e _ => e)
              have hol : ∀ q, (Value.slice oo (l.len + j) oc).ownBlock = some q → w.heap.size ≤ q ∧ q < wr.heap.size := fun q e => ((unhide HO).lt q e)
              have hs6 : wr.heap.size + 1 ≤ w6.heap.size := by have := (unhide HG6).size; simp at this; omega
              refine ⟨j + 1, by omega, by go_num, ?_, hide ((unhide HCS).keep hk3 (fun q _ h e => ((unhide HAQ) q h).2.2 e)), hide (fun q hq => ?_), hide ((unhide HK).narrow hk3 (fun q e => (hol q e).1))⟩
              · have := unhide HO6
                rw [marks_snoc, ← List.append_assoc, ← Nat.add_assoc]
                exact this
              · obtain ⟨a1, a2, a3⟩ := (unhide HAQ) q hq
                refine ⟨a1, by omega, fun e => ?_⟩
                have e' : g6 = q := by simpa [Value.ownBlock] using e
                rcases unhide HA6 with h | h
                · exact a3 (by rw [h, e'])
                · omega
            case measure => simp [intOf]; omega
          · obtain rfl : j = 16 := by omega
            obtain ⟨g, cp, cur, e, hgl, hgb, hc⟩ : ∃ g cp cur, (Value.slice oo (l.len + 16) oc) = .slice (some ⟨g, 0, none⟩) (l.len + 16) cp ∧ w.heap.size ≤ g ∧ wr.heap[g]? = some (.cells cur 54 (0, 0)) ∧ l.len + 16 ≤ cp := by
              rcases (unhide HO).2 with ⟨_, h0⟩ | ⟨g, cp, cur, a1, a2, a3, a4, _⟩
              · omega
              · exact ⟨g, cp, cur, a1, a2, a3, a4⟩
            simp only [Value.slice.injEq] at e
            obtain ⟨rfl, _, rfl⟩ := e
            have HWD : Hid (WdSl (fun q => w.heap.size ≤ q) wr (.slice (some ⟨g, 0, none⟩) l.len oc) l) := by
              obtain ⟨b2, off2, cap2, e2, hb2, hcc⟩ := (rowAt_own (unhide HO)).cells (by omega)
              simp at e2
              obtain ⟨⟨rfl, rfl⟩, _⟩ := e2
              have hxs : xs.length = l.len * 4 := unhide HLN
              refine ⟨g, oc, rfl, hc, hb2, hgl, fun j x hx => ?_, WsIn.wdIn hb2 hgl (fun q _ h => ((unhide HAQ) q h).1) (unhide HCS) (fun j x hx => ?_)⟩
              · have := hcc (l.len * 4 + j) x (by rw [List.getElem?_append_right (by omega), hxs]; simpa using hx)
                simpa using this
              · have := hcc j x (by rw [List.getElem?_append_left (by have := (List.getElem?_eq_some_iff.1 hx).1; omega)]; exact hx)
                simpa using this
            have i2 : ¬ ((16 : Nat) : Int) < 16 := by omega
            have c1 : (l.len : Int) ≤ (oc : Int) := by omega
            have c2 : l.len ≤ oc := by omega
            go_wp2_with fail
            all_goals (go_ret; exact ⟨_, rfl, unhide HWD, unhide HK⟩)
      | cons op n s kids rest =>
        obtain ⟨h1, h2, h3, h4, h5, ⟨kao, kcap, h6, h7, h8⟩, h9⟩ := hr
        simp only [EL.len, EL.size] at hll hls
        have hkl : k + (rest.len + 1) = l.len := by omega
        have HKP := hide hkp
        obtain ⟨rfl, hp⟩ := (unhide HA) (by omega)
        have HKID : Hid (SlE Z w b (.slice kao kids.len kcap) kids) := ⟨kao, kcap, rfl, h7, h8⟩
        have HR := hide h9
        have i1 : (k : Int) < (l.len : Int) := by omega
        have HLT : Hid (k < l.len) := hide (by omega)
        have HC := hide (fun (W' : World) (hk : Keeps (fun _ => False) wr W') => (⟨(((hkeep.trans hk).cell h1 id).trans h3), (((hkeep.trans hk).cell h1 id).trans h4), (((hkeep.trans hk).cell h1 id).trans h5), (((hkeep.trans hk).cell h1 id).trans h6)⟩ : W'.cell? ⟨b, off + k * 4, none⟩ = some (.int .i64 op) ∧ W'.cell? ⟨b, off + k * 4 + 1, none⟩ = some (.int .i64 n) ∧ W'.cell? ⟨b, off + k * 4 + 2, none⟩ = some (str s) ∧ W'.cell? ⟨b, off + k * 4 + 3, none⟩ = some (.slice kao kids.len kcap)))
        have HIH := hide (fun (W' : World) (hk : Keeps (fun _ => False) wr W') => unhide IH kids (by omega) (by omega) W' b _ ((unhide HKID).keepF ((unhide HK).trans hk)))
        have HB0 : Hid (w.heap.size ≤ wr.heap.size) := hkeep.size
        have HKX := hide (Keeps.refl (fun _ => False) wr)
        have hkb : k + 1 ≤ 4294967294 := by omega
        clear hown hcs hAq hkeep h1 h2 h3 h4 h5 h6 h8 h9 happ hll hls hkp hp
        go_upto_region 5 with fail
        rename_i Q0 K0 hc0
        refine wp_region_two (X := wr) (by kernel_rfl) 24 rfl _ _ rfl rfl rfl rfl (by decide) (by decide) (by kernel_rfl) (by kernel_rfl) [12, 13, 14, 15, 16, 17, 18, 19, 20, 21, 22, 23, 24, 25, 26, 27, 28, 29, 30, 31, 32, 33, 34, 35] (by decide) rfl (by first | rfl | kernel_rfl | simp [opsB]) (unhide HKX) (fun i v W1 => match i with | 0 => v = .slice oo k oc | 1 => v = .slice (some ⟨b, off, none⟩) l.len cap | 2 => v = .int .i64 (k : Int) | 3 => v = .pointer (some ⟨b, off + k * 4, none⟩) | 4 => v = .pointer (some ⟨b, off + k * 4, none⟩) | 5 => v = .int .i64 op | 6 => v = .slice (some ⟨b, off, none⟩) l.len cap | 7 => v = .int .i64 (k : Int) | 8 => v = .pointer (some ⟨b, off + k * 4, none⟩) | 9 => v = .pointer (some ⟨b, off + k * 4 + 1, none⟩) | 10 => v = .int .i64 n | 11 => v = .slice (some ⟨b, off, none⟩) l.len cap | 12 => v = .int .i64 (k : Int) | 13 => v = .pointer (some ⟨b, off + k * 4, none⟩) | 14 => v = .pointer (some ⟨b, off + k * 4 + 2, none⟩) | 15 => v = str s | 16 => v = .slice (some ⟨b, off, none⟩) l.len cap | 17 => v = .int .i64 (k : Int) | 18 => v = .pointer (some ⟨b, off + k * 4, none⟩) | 19 => v = .pointer (some ⟨b, off + k * 4 + 3, none⟩) | 20 => v = .slice kao kids.len kcap | 21 => WdSl (fun q => wr.heap.size ≤ q) W1 v kids | 22 => ∃ kv, v = .agg #[.int .i64 op, .int .i64 n, str s, kv] ∧ WdSl (fun q => wr.heap.size ≤ q) W1 kv kids | 23 => ∃ kv g, v = .slice (some ⟨g, 0, none⟩) 1 1 ∧ wr.heap.size ≤ g ∧ W1.heap[g]? = some (.cells #[.int .i64 op, .int .i64 n, str s, kv] 54 (0, 0)) ∧ WdSl (fun q => wr.heap.size ≤ q ∧ q < g) W1 kv kids | _ => True) ?_ ?_ ?_
        · intro i v w1 w2 hq hk
          rcases i with _ | _ | _ | _ | _ | _ | _ | _ | _ | _ | _ | _ | _ | _ | _ | _ | _ | _ | _ | _ | _ | _ | _ | _ | i
          all_goals first | exact hq | exact WdSl.keepF hq hk | (obtain ⟨kv, q1, q2⟩ := hq; exact ⟨kv, q1, q2.keepF hk⟩) | (obtain ⟨kv, g, q1, q2, q3, q4⟩ := hq; exact ⟨kv, g, q1, q2, (hk.block _ (lt_of_block q3) id).trans q3, q4.keepF hk⟩)
        · intro i o A W1 him ho hs hk hd K' hK
          rcases i with _ | _ | _ | _ | _ | _ | _ | _ | _ | _ | _ | _ | _ | _ | _ | _ | _ | _ | _ | _ | _ | _ | _ | _ | i
          · obtain rfl := Option.some.inj ho
            exact step_move rfl ((hs.at rfl 3 (by decide)).trans rfl) (hK _ _ rfl (Keeps.refl _ _))
          · obtain rfl := Option.some.inj ho
            exact step_move rfl ((hs.at rfl 0 (by decide)).trans rfl) (hK _ _ rfl (Keeps.refl _ _))
          · obtain rfl := Option.some.inj ho
            exact step_move rfl ((hs.at rfl 4 (by decide)).trans rfl) (hK _ _ rfl (Keeps.refl _ _))
          · obtain rfl := Option.some.inj ho
            exact step_indexE rfl (hd ⟨1, .data⟩ (by simp) rfl) (hd ⟨2, .data⟩ (by simp) rfl) (unhide HLT) (hK _ _ rfl (Keeps.refl _ _))
          · obtain rfl := Option.some.inj ho
            exact step_fieldE0 rfl (hd ⟨3, .data⟩ (by simp) rfl) (hK _ _ rfl (Keeps.refl _ _))
          · obtain rfl := Option.some.inj ho
            exact step_load3 rfl (hd ⟨4, .data⟩ (by simp) rfl) (unhide HC W1 hk).1 (hK _ _ rfl (Keeps.refl _ _))
          · obtain rfl := Option.some.inj ho
            exact step_move rfl ((hs.at rfl 0 (by decide)).trans rfl) (hK _ _ rfl (Keeps.refl _ _))
          · obtain rfl := Option.some.inj ho
            exact step_move rfl ((hs.at rfl 4 (by decide)).trans rfl) (hK _ _ rfl (Keeps.refl _ _))
          · obtain rfl := Option.some.inj ho
            exact step_indexE rfl (hd ⟨6, .data⟩ (by simp) rfl) (hd ⟨7, .data⟩ (by simp) rfl) (unhide HLT) (hK _ _ rfl (Keeps.refl _ _))
          · obtain rfl := Option.some.inj ho
            exact step_fieldE1 rfl (hd ⟨8, .data⟩ (by simp) rfl) (hK _ _ rfl (Keeps.refl _ _))
          · obtain rfl := Option.some.inj ho
            exact step_load2 rfl (hd ⟨9, .data⟩ (by simp) rfl) (unhide HC W1 hk).2.1 (hK _ _ rfl (Keeps.refl _ _))
          · obtain rfl := Option.some.inj ho
            exact step_move rfl ((hs.at rfl 0 (by decide)).trans rfl) (hK _ _ rfl (Keeps.refl _ _))
          · obtain rfl := Option.some.inj ho
            exact step_move rfl ((hs.at rfl 4 (by decide)).trans rfl) (hK _ _ rfl (Keeps.refl _ _))
          · obtain rfl := Option.some.inj ho
            exact step_indexE rfl (hd ⟨11, .data⟩ (by simp) rfl) (hd ⟨12, .data⟩ (by simp) rfl) (unhide HLT) (hK _ _ rfl (Keeps.refl _ _))
          · obtain rfl := Option.some.inj ho
            exact step_fieldE2 rfl (hd ⟨13, .data⟩ (by simp) rfl) (hK _ _ rfl (Keeps.refl _ _))
          · obtain rfl := Option.some.inj ho
            exact step_load9 rfl (hd ⟨14, .data⟩ (by simp) rfl) (unhide HC W1 hk).2.2.1 (hK _ _ rfl (Keeps.refl _ _))
          · obtain rfl := Option.some.inj ho
            exact step_move rfl ((hs.at rfl 0 (by decide)).trans rfl) (hK _ _ rfl (Keeps.refl _ _))
          · obtain rfl := Option.some.inj ho
            exact step_move rfl ((hs.at rfl 4 (by decide)).trans rfl) (hK _ _ rfl (Keeps.refl _ _))
          · obtain rfl := Option.some.inj ho
            exact step_indexE rfl (hd ⟨16, .data⟩ (by simp) rfl) (hd ⟨17, .data⟩ (by simp) rfl) (unhide HLT) (hK _ _ rfl (Keeps.refl _ _))
          · obtain rfl := Option.some.inj ho
            exact step_fieldE3 rfl (hd ⟨18, .data⟩ (by simp) rfl) (hK _ _ rfl (Keeps.refl _ _))
          · obtain rfl := Option.some.inj ho
            exact step_load25 rfl (hd ⟨19, .data⟩ (by simp) rfl) (unhide HC W1 hk).2.2.2 (hK _ _ rfl (Keeps.refl _ _))
          · obtain rfl := Option.some.inj ho
            exact step_c50 rfl (hd ⟨20, .data⟩ (by simp) rfl) (unhide HIH W1 hk) (fun v' w' q1 q2 => hK v' w' (q1.mono (fun q _ (z : W1.heap.size ≤ q) => Nat.le_trans hk.size z)) q2)
          · obtain rfl := Option.some.inj ho
            exact step_build27 rfl (hd ⟨5, .data⟩ (by simp) rfl) (hd ⟨10, .data⟩ (by simp) rfl) (hd ⟨15, .data⟩ (by simp) rfl) rfl (hd ⟨21, .data⟩ (by simp) rfl) (hK _ _ ⟨_, rfl, (hd ⟨21, .data⟩ (by simp) rfl)⟩ (Keeps.refl _ _))
          · obtain rfl := Option.some.inj ho
            exact step_one27 rfl rfl (hd ⟨22, .data⟩ (by simp) rfl) hk.size (fun v' w' q1 q2 => hK v' w' q1 q2)
          · omega
        · intro A2 V hs hk hall K' hK
          obtain ⟨kv, g, e35, hg, hgb, hkv⟩ : ∃ kv g, A2.tmps.getD 35 undef = .slice (some ⟨g, 0, none⟩) 1 1 ∧ wr.heap.size ≤ g ∧ V.heap[g]? = some (.cells #[.int .i64 op, .int .i64 n, str s, kv] 54 (0, 0)) ∧ WdSl (fun q => wr.heap.size ≤ q ∧ q < g) V kv kids := hall 23 (by decide)
          have w12 : A2.tmps.getD 12 undef = .slice oo k oc := hall 0 (by decide)
          have w13 : A2.tmps.getD 13 undef = .slice (some ⟨b, off, none⟩) l.len cap := hall 1 (by decide)
          have w14 : A2.tmps.getD 14 undef = .int .i64 (k : Int) := hall 2 (by decide)
          have w15 : A2.tmps.getD 15 undef = .pointer (some ⟨b, off + k * 4, none⟩) := hall 3 (by decide)
          have w16 : A2.tmps.getD 16 undef = .pointer (some ⟨b, off + k * 4, none⟩) := hall 4 (by decide)
          have w17 : A2.tmps.getD 17 undef = .int .i64 op := hall 5 (by decide)
          have w18 : A2.tmps.getD 18 undef = .slice (some ⟨b, off, none⟩) l.len cap := hall 6 (by decide)
          have w19 : A2.tmps.getD 19 undef = .int .i64 (k : Int) := hall 7 (by decide)
          have w20 : A2.tmps.getD 20 undef = .pointer (some ⟨b, off + k * 4, none⟩) := hall 8 (by decide)
          have w21 : A2.tmps.getD 21 undef = .pointer (some ⟨b, off + k * 4 + 1, none⟩) := hall 9 (by decide)
          have w22 : A2.tmps.getD 22 undef = .int .i64 n := hall 10 (by decide)
          have w23 : A2.tmps.getD 23 undef = .slice (some ⟨b, off, none⟩) l.len cap := hall 11 (by decide)
          have w24 : A2.tmps.getD 24 undef = .int .i64 (k : Int) := hall 12 (by decide)
          have w25 : A2.tmps.getD 25 undef = .pointer (some ⟨b, off + k * 4, none⟩) := hall 13 (by decide)
          have w26 : A2.tmps.getD 26 undef = .pointer (some ⟨b, off + k * 4 + 2, none⟩) := hall 14 (by decide)
          have w27 : A2.tmps.getD 27 undef = str s := hall 15 (by decide)
          have w28 : A2.tmps.getD 28 undef = .slice (some ⟨b, off, none⟩) l.len cap := hall 16 (by decide)
          have w29 : A2.tmps.getD 29 undef = .int .i64 (k : Int) := hall 17 (by decide)
          have w30 : A2.tmps.getD 30 undef = .pointer (some ⟨b, off + k * 4, none⟩) := hall 18 (by decide)
          have w31 : A2.tmps.getD 31 undef = .pointer (some ⟨b, off + k * 4 + 3, none⟩) := hall 19 (by decide)
          have w32 : A2.tmps.getD 32 undef = .slice kao kids.len kcap := hall 20 (by decide)
          have hA := same_fold hs rfl
          simp only [List.foldl_cons, List.foldl_nil, w12, w13, w14, w15, w16, w17, w18, w19, w20, w21, w22, w23, w24, w25, w26, w27, w28, w29, w30, w31, w32, e35] at hA
          simp only [Act.put, List.setIfInBounds_toArray, List.set_cons_zero, List.set_cons_succ] at hA
          have hOV := ownsRow_kept (unhide HO) hk (fun _ _ => id)
          have hsz2 := hs.size
          have v12 : A2.tmps.getD 12 undef = .slice oo k oc := hall 0 (by decide)
          refine wp_append_lies V (.tmp 12) (.tmp 35) 22 rfl w.heap.size 54 i0 _ 4 56 Tryz.underlying22 hi hz0 hz1 hz2 rfl (by omega) (.slice oo k oc) k xs v12 hOV ⟨g, 0, none⟩ 1 1 [.int .i64 op, .int .i64 n, str s, kv] e35 rfl (World.news_of_block (cs := #[.int .i64 op, .int .i64 n, str s, kv]) (t := 54) (fr := (0, 0)) hgb) (by obtain ⟨_, _, rfl, _⟩ := hkv; simp [Value.oneCell']) (by omega) (by unfold maxLen; omega) (by omega) (by have := hk.size; have := unhide HB0; omega) V.heap.size rfl ?_
          intro g6 c6 w6 hown6 hgrow hat6 hlt6
          refine hK (A2.put (some 36) (.slice (some ⟨g6, 0, none⟩) (k + 1) c6)) w6 (fun K2 hK2 => ?_)
          refine step_assign rfl (put_get A2 36 _ (by rw [hsz2]; simp)) (hK2 ((A2.put (some 36) (.slice (some ⟨g6, 0, none⟩) (k + 1) c6)).put (some 3) (.slice (some ⟨g6, 0, none⟩) (k + 1) c6)) w6 (hc0 _ _ ?_))
          have HO6 := hide hown6
          have HGR := hide hgrow
          have HAT := hide hat6
          have HKR := hide hk
          have HKV := hide hkv
          have HGB := hide hgb
          have HG := hide hg
          rw [hA]
          generalize A2.tmps.getD 33 undef = u33 at *
          generalize A2.tmps.getD 34 undef = u34 at *
          clear hs hall hK hK2 hA hown6 hgrow hat6 hk hkv hgb hg hOV e35 v12 hsz2 w12 w13 w14 w15 w16 w17 w18 w19 w20 w21 w22 w23 w24 w25 w26 w27 w28 w29 w30 w31 w32
          simp only [Act.put, List.setIfInBounds_toArray, List.set_cons_zero, List.set_cons_succ]
          go_wp2_with fail
          go_roundw
          case rel =>
            have hgr := unhide HGR
            have hk3 : Keeps (fun q => (Value.slice oo k oc).ownBlock = some q) V w6 := (Keeps.refl _ V).grown hgr (fun q e _ => e)
            have hk2 : Keeps (fun q => (Value.slice oo k oc).ownBlock = some q) wr w6 := (unhide HKR).any.trans hk3
            have hkw : Keeps (fun _ => False) w w6 := (unhide HK).narrow hk2 (fun q e => ((unhide HO).lt q e).1)
            have hol : ∀ q, (Value.slice oo k oc).ownBlock = some q → q < wr.heap.size := fun q e => ((unhide HO).lt q e).2
            have hgV := lt_of_block (unhide HGB)
            have hrV := (unhide HKR).size
            have c1 := WsIn.mono (B := fun q => A q ∨ (wr.heap.size ≤ q ∧ q < g)) (fun _ _ h => Or.inl h) ((unhide HCS).keep hk2 (fun q _ h e => ((unhide HAQ) q h).2.2 e))
            have c2 : WdSl (fun q => A q ∨ (wr.heap.size ≤ q ∧ q < g)) w6 kv kids := ((unhide HKV).keep hk3 (fun q _ h e => by have := hol q e; omega)).mono (fun _ _ h => Or.inr h)
            have hs6 : V.heap.size ≤ w6.heap.size := hgr.size
            refine ⟨pre.app (.cons op n s kids .nil), rest, k + 1, _, _, by go_num, ?_, ?_, unhide HO6, c1.snoc c2, fun q hq => ?_, hkw, ?_⟩
            · rw [app_one]; exact unhide HAPP
            · rw [EL.len_app, unhide HKP]; rfl
            · have hb0 := unhide HB0
              rcases hq with hq | hq
              · obtain ⟨a1, a2, a3⟩ := (unhide HAQ) q hq
                refine ⟨a1, by omega, fun e => ?_⟩
                have e' : g6 = q := by simpa [Value.ownBlock] using e
                rcases unhide HAT with h | h
                · exact a3 (by rw [h, e'])
                · omega
              · refine ⟨by omega, by omega, fun e => ?_⟩
                have e' : g6 = q := by simpa [Value.ownBlock] using e
                rcases unhide HAT with h | h
                · have := hol _ h; omega
                · omega
            · rw [show off + (k + 1) * 4 = off + k * 4 + 4 by omega]
              exact unhide HR
          case measure => simp [intOf]; omega
theorem MarksE.at {w : World} {g o : Nat} (h : MarksE w g o) {j : Nat} (hj : j < 16) : w.cell? ⟨g, o + j * 4, none⟩ = some (.int .i64 (-77 - (j : Int))) ∧ w.cell? ⟨g, o + j * 4 + 1, none⟩ = some (.int .i64 0) ∧ w.cell? ⟨g, o + j * 4 + 2, none⟩ = some (.string ⟨#[115, 112, 97, 114, 101]⟩) ∧ w.cell? ⟨g, o + j * 4 + 3, none⟩ = some (.slice none 0 0) := by
  have key : ∀ r x, (markE j)[r]? = some x → w.cell? ⟨g, o + j * 4 + r, none⟩ = some x := fun r x hx => by
    have := h (j * 4 + r) x (marks_get (f := markE) (sz := 4) (fun _ => rfl) hj hx)
    rwa [← Nat.add_assoc] at this
  exact ⟨key 0 _ rfl, key 1 _ rfl, key 2 _ rfl, key 3 _ rfl⟩
set_option maxRecDepth 100000 in
set_option maxHeartbeats 8000000 in
/-- The marks of a list that nobody wrote into. -/
theorem spareExprs_v (A : Nat → Prop) (N : Nat) : ∀ (l : EL), l.size < N → l.size ≤ 4294967294 → ∀ (w : World) (v : Value), WdSl A w v l → Calls Tryz.prog 23 #[v] w fun e w' => e = .returned (.bool true) ∧ Keeps (fun _ => False) w w' := by
  induction N with
  | zero => intro l h; omega
  | succ N ih =>
    intro l hsz hlen' w v hS
    have hlen : l.len ≤ 4294967294 := by have := EL.len_le l; omega
    obtain ⟨g, cap, rfl, hcap, hg, hA, hm, hin⟩ := hS
    have IH := hide ih
    have HM := hide hm
    have HIN := hide hin
    have HG := hide hg
    have c1 : (l.len : Int) + 16 ≤ (cap : Int) := by omega
    have c2 : l.len + 16 ≤ cap := by omega
    have c0 : (0 : Int) ≤ (l.len : Int) + 16 := by omega
    clear ih hm hin hg hA
    go_enter Tryz.func23, Tryz.ntmps23
    go_wp2_with fail
    go_loopw [4] (fun i wr => ∃ j : Nat, j ≤ 16 ∧ i = .int .i64 (j : Int) ∧ Hid (Keeps (fun _ => False) w wr)) (fun i _ => 16 - (intOf i).toNat)
    case atStart => exact ⟨0, by omega, rfl, hide (Keeps.refl _ _)⟩
    case round =>
      obtain ⟨j, hj, rfl, HK⟩ := hrel
      by_cases hlt : j < 16
      · have i1 : (j : Int) < 16 := by omega
        have i0 : (0 : Int) ≤ (j : Int) := by omega
        have i2 : (l.len : Int) + (j : Int) < (l.len : Int) + 16 := by omega
        have i3 : (0 : Int) ≤ (l.len : Int) + (j : Int) := by omega
        obtain ⟨m0, m1, m2, m3⟩ := (unhide HM).at hlt
        replace m0 := ((unhide HK).cell (unhide HG) id).trans m0
        replace m1 := ((unhide HK).cell (unhide HG) id).trans m1
        replace m2 := ((unhide HK).cell (unhide HG) id).trans m2
        replace m3 := ((unhide HK).cell (unhide HG) id).trans m3
        rw [show l.len * 4 + j * 4 = (l.len + j) * 4 by omega] at m0 m1 m2 m3
        obtain ⟨b0, b1, b2, b3⟩ := cl4 (heap_alloc_new wr (.cells #[.int .i64 (-77 - (j : Int)), .int .i64 0, .string ⟨#[115, 112, 97, 114, 101]⟩, .slice none 0 0] 54))
        have HKB := hide ((unhide HK).alloc (.cells #[.int .i64 (-77 - (j : Int)), .int .i64 0, .string ⟨#[115, 112, 97, 114, 101]⟩, .slice none 0 0] 54))
        go_wp2_with fail
        go_roundw
        case rel => exact ⟨j + 1, by omega, by go_num, HKB⟩
        case measure => simp [intOf]; omega
      · obtain rfl : j = 16 := by omega
        have i2 : ¬ ((16 : Nat) : Int) < 16 := by omega
        go_wp2_with fail
        rename World => wo
        go_loopw [6] (fun i wr => ∃ (pre rest : EL) (k : Nat), i = .int .i64 (k : Int) ∧ l = pre.app rest ∧ k = pre.len ∧ Hid (Keeps (fun _ => False) w wr) ∧ WdIn A w rest g (k * 4)) (fun i _ => l.len - (intOf i).toNat)
        case atStart => exact ⟨.nil, l, 0, rfl, rfl, rfl, HK, by simpa using unhide HIN⟩
        case round =>
          obtain ⟨pre, rest, k, rfl, happ, hkp, HK, hr⟩ := hrel
          have hll := congrArg EL.len happ
          have hls := congrArg EL.size happ
          rw [EL.len_app] at hll
          rw [EL.size_app] at hls
          have HAPP := hide happ
          have HKP := hide hkp
          cases rest with
          | nil =>
            simp only [EL.len] at hll
            have i3 : ¬ (k : Int) < (l.len : Int) := by omega
            clear happ hkp hll hls hr
            go_wp2_with fail
            go_ret
            exact ⟨rfl, unhide HK⟩
          | cons op n s kids rest =>
            obtain ⟨h1, h2, h3, h4, h5, ⟨g2, cp2, h6, h7, h8, h9, h10, h11⟩, h12⟩ := hr
            simp only [EL.len, EL.size] at hll hls
            have i3 : (k : Int) < (l.len : Int) := by omega
            have q3 := ((unhide HK).cell h1 id).trans h6
            have HS := hide (unhide IH kids (by omega) (by omega) wr (.slice (some ⟨g2, 0, none⟩) kids.len cp2) ((show WdSl A w _ kids from ⟨g2, cp2, rfl, h7, h8, h9, h10, h11⟩).keepF (unhide HK)))
            have HR := hide h12
            have hkl : k + (rest.len + 1) = l.len := by omega
            clear happ hkp hll hls h1 h2 h3 h4 h5 h6 h7 h8 h9 h10 h11 h12
            go_wp2_with fail
            refine (unhide HS).mono ?_
            rintro e w1 ⟨rfl, hk1⟩
            have HK1 := hide ((unhide HK).trans hk1)
            clear hk1 q3
            go_wp2_with fail
            go_roundw
            case rel =>
              refine ⟨pre.app (.cons op n s kids .nil), rest, k + 1, by go_num, by rw [app_one]; exact unhide HAPP, by rw [EL.len_app, unhide HKP]; rfl, HK1, ?_⟩
              rw [show (k + 1) * 4 = k * 4 + 4 by omega]
              exact unhide HR
            case measure => simp [intOf]; omega
end Go.Proofs.YtgdabnkjipcbhaaGreatDoor
