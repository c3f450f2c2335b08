import Derived.Test.YtiinohibmcefkaaGreatDoorJba
import Derived.Laws.Rows
import Derived.Laws.Tables
import Derived.Test.YtiinohibmcefkaaGreatDoorJan
namespace Go.Proofs.YtiinohibmcefkaaGreatDoor
open Go.RowKit Go.Maps

/-- A slice of these expressions. -/
def isL (w : World) (v : Value) (l : EL) : Prop := SlE (argZ w.heap.size) w 0 v l
theorem sl_top {B : Nat} {w w' : World} {v : Value} {l : EL} (h : SlE (argZ B) w 0 v l) (hk : Keeps (fun _ => False) w w') : SlE (argZ w'.heap.size) w' 0 v l := (h.keepF hk).argUp (Nat.le_refl _) 0
theorem isL_new {w : World} {l : EL} {xs : List Value} (h : EsIn (argZ w.heap.size) w l xs) : isL (w.alloc (.cells xs.toArray 27)) (.slice (some ⟨w.heap.size, 0, none⟩) l.len l.len) l := by
  obtain ⟨HB, hxb, hxc⟩ := boxed w xs.toArray 27
  have h2 := h.argKeep (unhide HB) (fun _ q => q.elim)
  refine ⟨_, _, rfl, Nat.le_refl _, fun _ => ⟨w.heap.size, 0, rfl, trivial, h2.exIn hxb (Nat.le_refl _) (fun j x hx => ?_)⟩⟩
  rw [Nat.zero_add]
  exact hxc j x (by simpa using hx)
section
variable {Q : Exit → Act → World → Prop} {K : Act → World → Prop} {o : Oper} {a : Act} {w : World}
theorem slot_of {a : Act} {t : Nat} {v : Value} (h : a.tmps.getD t undef = v) : a.tmps[t]?.getD undef = v := by rw [← Array.getD_eq_getD_getElem?]; exact h
theorem step_assign {t : Nat} {v : Value} (ho : o.op = .assign (.tmp t)) (ht : a.tmps.getD t undef = v) (hk : K (a.put o.dst v) w) : Oper.wp Tryz.prog o a w K Q := by
  have he : a.eval (.tmp t) = v := ht
  unfold Oper.wp
  simp only [execOp, ho, he]
  exact hk
theorem step_load24 {t g : Nat} {x : Value} (ho : o.op = .load 24 (.tmp t)) (ht : a.tmps.getD t undef = .pointer (some ⟨g, 0, none⟩)) (hg : w.heap[g]? = some (.cells #[x] 24 (0, 0))) (hk : K (a.put o.dst (.agg #[x])) w) : Oper.wp Tryz.prog o a w K Q :=
  wp_load_row 24 (.tmp t) ho g ht 24 #[x] (0, 0) _ hg Tryz.underlying24 rfl (by kernel_rfl) hk
theorem step_load31 {t g : Nat} {x y : Value} (ho : o.op = .load 31 (.tmp t)) (ht : a.tmps.getD t undef = .pointer (some ⟨g, 0, none⟩)) (hg : w.heap[g]? = some (.cells #[x, y] 31 (0, 0))) (hk : K (a.put o.dst (.agg #[x, y])) w) : Oper.wp Tryz.prog o a w K Q :=
  wp_load_row 31 (.tmp t) ho g ht 31 #[x, y] (0, 0) _ hg Tryz.underlying31 rfl (by kernel_rfl) hk
end
end Go.Proofs.YtiinohibmcefkaaGreatDoor
namespace Go.Proofs.YtiinohibmcefkaaGreatDoor
open Go.RowKit Go.Maps

/-- The operations of a region, one by one: each writes its own slot, is not guarded, waits for earlier ones alone. -/
def opsB (dl : List Nat) (sz : Nat) : Nat → List Oper → Bool
  | _, [] => true
  | i, o :: r => decide (o.dst = some (dl.getD i 0)) && o.guard.isNone && decide (dl.getD i 0 < sz) && o.after.toList.all (fun e => decide (e.on < i)) && opsB dl sz (i + 1) r
theorem opsB_at {dl : List Nat} {sz : Nat} : ∀ {l : List Oper} {k : Nat}, opsB dl sz k l = true → ∀ (j : Nat) (o : Oper), l[j]? = some o → o.dst = some (dl.getD (k + j) 0) ∧ o.guard = none ∧ dl.getD (k + j) 0 < sz ∧ ∀ e ∈ o.after, e.on < k + j
  | [], _, _, j, o, h => by simp at h
  | x :: r, k, hB, 0, o, h => by
    simp at h
    subst h
    simp only [opsB, Bool.and_eq_true, decide_eq_true_eq, Option.isNone_iff_eq_none] at hB
    obtain ⟨⟨⟨⟨h1, h2⟩, h3⟩, h4⟩, _⟩ := hB
    refine ⟨h1, h2, h3, fun e he => ?_⟩
    have := List.all_eq_true.1 h4 e (by simpa using he)
    simpa using this
  | x :: r, k, hB, j + 1, o, h => by
    simp only [opsB, Bool.and_eq_true] at hB
    have := opsB_at hB.2 j o (by simpa using h)
    rw [show k + 1 + j = k + (j + 1) by omega] at this
    exact this
section
variable {P : Program} {ops : Array Oper} {Q : Exit → Act → World → Prop}
theorem wp_region_table {id : Nat} {a0 : Act} {w0 X : World} (hm : P.follows .mixedOrders = true) (dl : List Nat) (hn : dl.Nodup) (hlen : dl.length = ops.size) (hB : opsB dl a0.tmps.size 0 ops.toList = true)
    (hX : Keeps (fun _ => False) X w0)
    (F : Nat → Value → World → Prop) (hF : ∀ i v w w', F i v w → Keeps (fun _ => False) w w' → F i v w')
    (hs : ∀ (i : Nat) (o : Oper) (a : Act) (w : World), ops[i]? = some o → Same a0 ops.size (fun i => dl.getD i 0) a → Keeps (fun _ => False) X w → (∀ e ∈ o.after, Region.binds .any e = true → F e.on (a.tmps.getD (dl.getD e.on 0) undef) w) →
      ∀ K' : Act → World → Prop, (∀ v w', F i v w' → Keeps (fun _ => False) w w' → K' (a.put o.dst v) w') → Oper.wp P o a w K' Q)
    (he : ∀ (a : Act) (w : World), Same a0 ops.size (fun i => dl.getD i 0) a → Keeps (fun _ => False) X w → (∀ i, i < ops.size → F i (a.tmps.getD (dl.getD i 0) undef) w) → Q .normal a w) : (Code.region id ops true).wp P Q a0 w0 := by
  have hat : ∀ (i : Nat) (o : Oper), ops[i]? = some o → o.dst = some (dl.getD i 0) ∧ o.guard = none ∧ dl.getD i 0 < a0.tmps.size ∧ ∀ e ∈ o.after, e.on < i := fun i o ho => by
    have := opsB_at hB i o (by simpa using ho)
    rwa [Nat.zero_add] at this
  refine wp_region_slots hm (fun i o ho => (hat i o ho).2.2.2) (fun i => dl.getD i 0) (fun i o ho => ⟨(hat i o ho).1, (hat i o ho).2.1, (hat i o ho).2.2.1⟩) (fun i j hi hj e => ?_) hX F hF (fun i o a w ho h1 h2 h3 K' hK => ?_) he
  · have hi' : i < dl.length := by omega
    have hj' : j < dl.length := by omega
    have e' : dl[i] = dl[j] := by
      have := e
      simp only [List.getD_eq_getElem?_getD, List.getElem?_eq_getElem hi', List.getElem?_eq_getElem hj'] at this
      exact this
    exact (List.getElem?_inj hi' hn).1 (by rw [List.getElem?_eq_getElem hi', List.getElem?_eq_getElem hj', e'])
  · exact hs i o a w ho h1 h2 h3 K' (fun v w' hv hk => by rw [(hat i o ho).1]; exact hK v w' hv hk)
end
end Go.Proofs.YtiinohibmcefkaaGreatDoor
namespace Go.Proofs.YtiinohibmcefkaaGreatDoor
open Go.RowKit Go.Maps

/-- What an operation waits for. -/
def waitsL (o : Oper) : List Nat := (o.after.toList.filter (Region.binds .any)).map (·.on)
/-- Are all of the first n waited for? -/
def coverB (ops : Array Oper) : Nat → List Nat → Bool
  | 0, _ => true
  | i + 1, need => need.contains i && coverB ops i (need ++ (match ops[i]? with | some o => waitsL o | none => []))
theorem waitsL_mem {o : Oper} {j : Nat} (h : j ∈ waitsL o) : ∃ e ∈ o.after, Region.binds .any e = true ∧ e.on = j := by
  unfold waitsL at h
  obtain ⟨e, he, rfl⟩ := List.mem_map.1 h
  obtain ⟨h1, h2⟩ := List.mem_filter.1 he
  exact ⟨e, by simpa using h1, h2, rfl⟩
theorem coverB_all {ops : Array Oper} {d : Nat → Bool} (hc : ∀ (i : Nat) (o : Oper), ops[i]? = some o → d i = true → ∀ e ∈ o.after, Region.binds .any e = true → d e.on = true) : ∀ (n : Nat) (need : List Nat), coverB ops n need = true → (∀ j ∈ need, d j = true) → ∀ i, i < n → d i = true
  | 0, _, _, _, i, h => by omega
  | n + 1, need, h, hn, i, hi => by
    simp only [coverB, Bool.and_eq_true] at h
    have hdn : d n = true := hn n (by simpa using h.1)
    by_cases e : i = n
    · rw [e]; exact hdn
    · refine coverB_all hc n _ h.2 (fun j hj => ?_) i (by omega)
      rcases List.mem_append.1 hj with hj | hj
      · exact hn j hj
      · cases ho : ops[n]? with
        | none => rw [ho] at hj; simp at hj
        | some o =>
          rw [ho] at hj
          obtain ⟨e, he, hb, rfl⟩ := waitsL_mem hj
          exact hc n o ho hdn e he hb
section
variable {P : Program} {ops : Array Oper} {Q : Exit → Act → World → Prop}
/-- A region that draws its order and whose last operation writes no slot and waits for all others. -/
theorem wp_region_last {id : Nat} {a0 : Act} {w0 X : World} (hm : P.follows .mixedOrders = true) (m : Nat) (hsz : ops.size = m + 1) (os : Oper) (hos : ops[m]? = some os) (hog : os.guard = none) (hoa : ∀ e ∈ os.after, e.on < m) (hcov : coverB ops m (waitsL os) = true)
    (dl : List Nat) (hn : dl.Nodup) (hlen : dl.length = m) (hB : opsB dl a0.tmps.size 0 (ops.toList.take m) = true)
    (hX : Keeps (fun _ => False) X w0)
    (F : Nat → Value → World → Prop) (hF : ∀ i v w w', F i v w → Keeps (fun _ => False) w w' → F i v w')
    (hs : ∀ (i : Nat) (o : Oper) (a : Act) (w : World), i < m → ops[i]? = some o → Same a0 m (fun i => dl.getD i 0) a → Keeps (fun _ => False) X w → (∀ e ∈ o.after, Region.binds .any e = true → F e.on (a.tmps.getD (dl.getD e.on 0) undef) w) →
      ∀ K' : Act → World → Prop, (∀ v w', F i v w' → Keeps (fun _ => False) w w' → K' (a.put o.dst v) w') → Oper.wp P o a w K' Q)
    (he : ∀ (a : Act) (w : World), Same a0 m (fun i => dl.getD i 0) a → Keeps (fun _ => False) X w → (∀ i, i < m → F i (a.tmps.getD (dl.getD i 0) undef) w) →
      ∀ K' : Act → World → Prop, (∀ a' w', Q .normal a' w' → K' a' w') → Oper.wp P os a w K' Q) : (Code.region id ops true).wp P Q a0 w0 := by
  have hat : ∀ (i : Nat) (o : Oper), i < m → ops[i]? = some o → o.dst = some (dl.getD i 0) ∧ o.guard = none ∧ dl.getD i 0 < a0.tmps.size ∧ ∀ e ∈ o.after, e.on < i := fun i o hi ho => by
    have := opsB_at hB i o (by rw [List.getElem?_take_of_lt hi]; simpa using ho)
    rwa [Nat.zero_add] at this
  have hinj : ∀ i j, i < m → j < m → dl.getD i 0 = dl.getD j 0 → i = j := fun i j hi hj e => by
    have hi' : i < dl.length := by omega
    have hj' : j < dl.length := by omega
    have e' : dl[i] = dl[j] := by
      have := e
      simp only [List.getD_eq_getElem?_getD, List.getElem?_eq_getElem hi', List.getElem?_eq_getElem hj'] at this
      exact this
    exact (List.getElem?_inj hi' hn).1 (by rw [List.getElem?_eq_getElem hi', List.getElem?_eq_getElem hj', e'])
  have hlt : ∀ (i : Nat) (o : Oper), ops[i]? = some o → i < m ∨ i = m := fun i o ho => by
    have := (Array.getElem?_eq_some_iff.1 ho).1
    omega
  have hac : ∀ (i : Nat) (o : Oper), ops[i]? = some o → ∀ e ∈ o.after, e.on < i := fun i o ho => by
    rcases hlt i o ho with hi | rfl
    · exact (hat i o hi ho).2.2.2
    · rw [hos] at ho
      obtain rfl := Option.some.inj ho
      exact hoa
  refine wp_region_inv hm hac (fun d a w => (∀ (i : Nat) (o : Oper), ops[i]? = some o → d i = true → ∀ e ∈ o.after, Region.binds .any e = true → d e.on = true) ∧ ((d m = false ∧ Same a0 m (fun i => dl.getD i 0) a ∧ Keeps (fun _ => False) X w ∧ ∀ i, i < m → d i = true → F i (a.tmps.getD (dl.getD i 0) undef) w) ∨ (d m = true ∧ Q .normal a w))) ?_ ?_ ?_
  · exact ⟨(fun i o _ h => by cases h), Or.inl ⟨rfl, ⟨rfl, rfl, fun _ _ => rfl⟩, hX.drew, (fun i _ h => by cases h)⟩⟩
  · rintro d a w i o ⟨hcl, hI⟩ hd ho hall
    have hcl' : ∀ (j : Nat) (o' : Oper), ops[j]? = some o' → mark d i j = true → ∀ e ∈ o'.after, Region.binds .any e = true → mark d i e.on = true := fun j o' ho' hj e he' hb => by
      unfold mark at hj ⊢
      by_cases hei : e.on = i
      · rw [if_pos hei]
      · rw [if_neg hei]
        by_cases hji : j = i
        · subst hji
          rw [ho] at ho'
          obtain rfl := Option.some.inj ho'
          exact hall e he' hb
        · rw [if_neg hji] at hj
          exact hcl j o' ho' hj e he' hb
    refine wpOp_step ho (fun K' hK => ?_)
    rcases hI with ⟨hdm, h1, h2, h3⟩ | ⟨hdm, _⟩
    · rcases hlt i o ho with hi | rfl
      · obtain ⟨q1, q2, q3, q4⟩ := hat i o hi ho
        have hw : Region.wanted o (yielded ops a.tmps) = true := by simp [Region.wanted, q2]
        rw [if_pos hw]
        refine hs i o a w hi ho h1 h2 (fun e he' hb => h3 e.on (Nat.lt_trans (q4 e he') hi) (hall e he' hb)) K' fun v w' hv hk => hK _ _ ⟨hcl', Or.inl ⟨?_, ?_, h2.trans hk, fun j hj hmk => ?_⟩⟩
        · unfold mark
          rw [if_neg (by omega)]
          exact hdm
        · rw [q1]
          exact h1.put hi v
        · by_cases hij : j = i
          · subst hij
            rw [q1, put_get a _ v (by rw [h1.size]; exact q3)]
            exact hv
          · rw [q1, put_get_ne a v (fun e => hij (hinj j i hj hi e.symm))]
            refine hF _ _ _ _ (h3 j hj ?_) hk
            unfold mark at hmk
            rwa [if_neg hij] at hmk
      · rw [hos] at ho
        obtain rfl := Option.some.inj ho
        have hw : Region.wanted os (yielded ops a.tmps) = true := by simp [Region.wanted, hog]
        rw [if_pos hw]
        have hdone := coverB_all hcl i (waitsL os) hcov (fun j hj => by
          obtain ⟨e, he', hb, rfl⟩ := waitsL_mem hj
          exact hall e he' hb)
        refine he a w h1 h2 (fun j hj => h3 j hj (hdone j hj)) K' fun a' w' hq => hK _ _ ⟨hcl', Or.inr ⟨?_, hq⟩⟩
        unfold mark
        rw [if_pos rfl]
    · exfalso
      rcases hlt i o ho with hi | rfl
      · have hdone := coverB_all hcl m (waitsL os) hcov (fun j hj => by
          obtain ⟨e, he', hb, rfl⟩ := waitsL_mem hj
          exact hcl m os hos hdm e he' hb) i hi
        rw [hd] at hdone
        cases hdone
      · rw [hd] at hdm
        cases hdm
  · rintro d a w ⟨_, hI⟩ hd
    rcases hI with ⟨hdm, _⟩ | ⟨_, hq⟩
    · have := hd m (by omega)
      rw [hdm] at this
      cases this
    · exact hq
end
end Go.Proofs.YtiinohibmcefkaaGreatDoor
namespace Go.Proofs.YtiinohibmcefkaaGreatDoor
open Go.RowKit Go.Maps

theorem Same.at {a0 a : Act} {n : Nat} {dl : List Nat} (h : Same a0 n (fun i => dl.getD i 0) a) (hn : dl.length = n) (t : Nat) (ht : t ∉ dl) : a.tmps.getD t undef = a0.tmps.getD t undef :=
  h.slot t fun i hi e => ht (by rw [← e]; subst hn; rw [List.getD_eq_getElem?_getD, List.getElem?_eq_getElem hi]; exact List.getElem_mem hi)
theorem wrap_eq64 (x : Int) : IntKind.i64.wrap x = wrap64 x := by unfold wrap64; exact IntKind.wrap_i64 x
theorem keeps_row (w : World) (g : Nat) (cs : Array Value) : Keeps (fun q => q = g) w (w.setRow g cs) := ⟨rfl, rfl, rfl, by simp, fun k _ hk => setRow_other w g k _ hk⟩
section
variable {Q : Exit → Act → World → Prop} {K : Act → World → Prop} {o : Oper} {a : Act} {w : World}
theorem step_move {t : Nat} {v : Value} (ho : o.op = .move (.tmp t)) (ht : a.tmps.getD t undef = v) (hk : K (a.put o.dst v) w) : Oper.wp Tryz.prog o a w K Q := by
  have he : a.eval (.tmp t) = v := ht
  unfold Oper.wp
  simp only [execOp, ho, he]
  exact hk
set_option maxRecDepth 100000 in
theorem step_index29 {t kb ko n cap : Nat} (j : Nat) (ho : o.op = .indexAddr 29 (.tmp t) (.const (.int .i64 (j : Int)))) (ht : a.tmps.getD t undef = .slice (some ⟨kb, ko, none⟩) n cap) (hj : j < n) (hk : K (a.put o.dst (.pointer (some ⟨kb, ko + j * 3, none⟩))) w) : Oper.wp Tryz.prog o a w K Q := by
  have he := slot_of ht
  have h1 : (j : Int) < (n : Int) := by omega
  have h0 : (0 : Int) ≤ (j : Int) := by omega
  unfold Oper.wp
  simp [execOp, ho, he, go_sem, h1, h0]
  exact hk
theorem step_field1 {t b off : Nat} (ho : o.op = .fieldAddr 41 (.tmp t) 1) (ht : a.tmps.getD t undef = .pointer (some ⟨b, off, none⟩)) (hk : K (a.put o.dst (.pointer (some ⟨b, off + 1, none⟩))) w) : Oper.wp Tryz.prog o a w K Q := by
  have he := slot_of ht
  unfold Oper.wp
  simp [execOp, ho, he, go_sem]
  exact hk
theorem step_field2 {t b off : Nat} (ho : o.op = .fieldAddr 41 (.tmp t) 2) (ht : a.tmps.getD t undef = .pointer (some ⟨b, off, none⟩)) (hk : K (a.put o.dst (.pointer (some ⟨b, off + 2, none⟩))) w) : Oper.wp Tryz.prog o a w K Q := by
  have he := slot_of ht
  unfold Oper.wp
  simp [execOp, ho, he, go_sem]
  exact hk
theorem step_load2 {t b off : Nat} {v : Value} (ho : o.op = .load 2 (.tmp t)) (ht : a.tmps.getD t undef = .pointer (some ⟨b, off, none⟩)) (hc : w.cell? ⟨b, off, none⟩ = some v) (hk : K (a.put o.dst v) w) : Oper.wp Tryz.prog o a w K Q := by
  have he := slot_of ht
  unfold Oper.wp
  simp [execOp, ho, he, go_sem, hc]
  exact hk
theorem step_load9 {t b off : Nat} {v : Value} (ho : o.op = .load 9 (.tmp t)) (ht : a.tmps.getD t undef = .pointer (some ⟨b, off, none⟩)) (hc : w.cell? ⟨b, off, none⟩ = some v) (hk : K (a.put o.dst v) w) : Oper.wp Tryz.prog o a w K Q := by
  have he := slot_of ht
  unfold Oper.wp
  simp [execOp, ho, he, go_sem, hc]
  exact hk
theorem step_load41 {t b off : Nat} {v0 v1 v2 : Value} (ho : o.op = .load 41 (.tmp t)) (ht : a.tmps.getD t undef = .pointer (some ⟨b, off, none⟩)) (h0 : w.cell? ⟨b, off, none⟩ = some v0) (h1 : w.cell? ⟨b, off + 1, none⟩ = some v1) (h2 : w.cell? ⟨b, off + 2, none⟩ = some v2) (hk : K (a.put o.dst (.agg #[v0, v1, v2])) w) : Oper.wp Tryz.prog o a w K Q := by
  have he := slot_of ht
  unfold Oper.wp
  simp [execOp, ho, he, go_sem, h0, h1, h2]
  exact hk
theorem step_add {t u : Nat} {x y : Int} (ho : o.op = .binOp .add 2 (.tmp t) (.tmp u) 2) (ht : a.tmps.getD t undef = .int .i64 x) (hu : a.tmps.getD u undef = .int .i64 y) (hk : K (a.put o.dst (.int .i64 (wrap64 (x + y)))) w) : Oper.wp Tryz.prog o a w K Q := by
  have he := slot_of ht
  have he2 := slot_of hu
  unfold Oper.wp
  simp [execOp, ho, he, he2, go_sem]
  rw [show IntKind.i64.wrap (x + y) = wrap64 (x + y) from wrap_eq64 _]
  exact hk
theorem step_sub {t u : Nat} {x y : Int} (ho : o.op = .binOp .sub 2 (.tmp t) (.tmp u) 2) (ht : a.tmps.getD t undef = .int .i64 x) (hu : a.tmps.getD u undef = .int .i64 y) (hk : K (a.put o.dst (.int .i64 (wrap64 (x - y)))) w) : Oper.wp Tryz.prog o a w K Q := by
  have he := slot_of ht
  have he2 := slot_of hu
  unfold Oper.wp
  simp [execOp, ho, he, he2, go_sem]
  rw [show IntKind.i64.wrap (x - y) = wrap64 (x - y) from wrap_eq64 _]
  exact hk
theorem step_mul {t u : Nat} {x y : Int} (ho : o.op = .binOp .mul 2 (.tmp t) (.tmp u) 2) (ht : a.tmps.getD t undef = .int .i64 x) (hu : a.tmps.getD u undef = .int .i64 y) (hk : K (a.put o.dst (.int .i64 (wrap64 (x * y)))) w) : Oper.wp Tryz.prog o a w K Q := by
  have he := slot_of ht
  have he2 := slot_of hu
  unfold Oper.wp
  simp [execOp, ho, he, he2, go_sem]
  rw [show IntKind.i64.wrap (x * y) = wrap64 (x * y) from wrap_eq64 _]
  exact hk
theorem step_min {t u : Nat} {x y : Int} (ho : o.op = .call { callee := .builtin .min, args := #[.tmp t, .tmp u], argTypes := #[2, 2] }) (ht : a.tmps.getD t undef = .int .i64 x) (hu : a.tmps.getD u undef = .int .i64 y) (hk : K (a.put o.dst (.int .i64 (min x y))) w) : Oper.wp Tryz.prog o a w K Q := by
  have he := slot_of ht
  have he2 := slot_of hu
  unfold Oper.wp
  simp [execOp, ho, he, he2, go_sem]
  rw [show (if y < x then y else x) = min x y by split <;> omega]
  exact hk
theorem step_max {t u : Nat} {x y : Int} (ho : o.op = .call { callee := .builtin .max, args := #[.tmp t, .tmp u], argTypes := #[2, 2] }) (ht : a.tmps.getD t undef = .int .i64 x) (hu : a.tmps.getD u undef = .int .i64 y) (hk : K (a.put o.dst (.int .i64 (max x y))) w) : Oper.wp Tryz.prog o a w K Q := by
  have he := slot_of ht
  have he2 := slot_of hu
  unfold Oper.wp
  simp [execOp, ho, he, he2, go_sem]
  rw [show (if x < y then y else x) = max x y by split <;> omega]
  exact hk
set_option maxRecDepth 100000 in
theorem step_c89 {t : Nat} {v : Value} {r : Value} (ho : o.op = .call { callee := .value (.func 89), args := #[.tmp t], argTypes := #[2] }) (ht : a.tmps.getD t undef = v) (hc : Calls Tryz.prog 89 #[v] w fun e w' => e = .returned r ∧ Keeps (fun _ => False) w w')
    (hk : ∀ w', Keeps (fun _ => False) w w' → K (a.put o.dst r) w') : Oper.wp Tryz.prog o a w K Q := by
  have et := slot_of ht
  unfold Oper.wp
  simp [execOp, ho, et, go_sem]
  refine hc.mono ?_
  rintro e w' ⟨rfl, h⟩
  exact hk _ h
set_option maxRecDepth 100000 in
theorem step_c90 {t : Nat} {v : Value} {r : Value} (ho : o.op = .call { callee := .value (.func 90), args := #[.tmp t], argTypes := #[4] }) (ht : a.tmps.getD t undef = v) (hc : Calls Tryz.prog 90 #[v] w fun e w' => e = .returned r ∧ Keeps (fun _ => False) w w')
    (hk : ∀ w', Keeps (fun _ => False) w w' → K (a.put o.dst r) w') : Oper.wp Tryz.prog o a w K Q := by
  have et := slot_of ht
  unfold Oper.wp
  simp [execOp, ho, et, go_sem]
  refine hc.mono ?_
  rintro e w' ⟨rfl, h⟩
  exact hk _ h
set_option maxRecDepth 100000 in
theorem step_c91 {t : Nat} {v : Value} {r : Value} (ho : o.op = .call { callee := .value (.func 91), args := #[.tmp t], argTypes := #[9] }) (ht : a.tmps.getD t undef = v) (hc : Calls Tryz.prog 91 #[v] w fun e w' => e = .returned r ∧ Keeps (fun _ => False) w w')
    (hk : ∀ w', Keeps (fun _ => False) w w' → K (a.put o.dst r) w') : Oper.wp Tryz.prog o a w K Q := by
  have et := slot_of ht
  unfold Oper.wp
  simp [execOp, ho, et, go_sem]
  refine hc.mono ?_
  rintro e w' ⟨rfl, h⟩
  exact hk _ h
set_option maxRecDepth 100000 in
theorem step_c154 {t u : Nat} {v v2 : Value} {r : Value} (ho : o.op = .call { callee := .value (.func 154), args := #[.tmp t, .tmp u], argTypes := #[9, 9] }) (ht : a.tmps.getD t undef = v) (hu : a.tmps.getD u undef = v2) (hc : Calls Tryz.prog 154 #[v, v2] w fun e w' => e = .returned r ∧ Keeps (fun _ => False) w w')
    (hk : ∀ w', Keeps (fun _ => False) w w' → K (a.put o.dst r) w') : Oper.wp Tryz.prog o a w K Q := by
  have et := slot_of ht
  have eu := slot_of hu
  unfold Oper.wp
  simp [execOp, ho, et, eu, go_sem]
  refine hc.mono ?_
  rintro e w' ⟨rfl, h⟩
  exact hk _ h
set_option maxRecDepth 100000 in
theorem step_c155 {t u q : Nat} {v v2 v3 : Value} {r : Value} (ho : o.op = .call { callee := .value (.func 155), args := #[.tmp t, .tmp u, .tmp q], argTypes := #[3, 41, 41] }) (ht : a.tmps.getD t undef = v) (hu : a.tmps.getD u undef = v2) (hq : a.tmps.getD q undef = v3) (hc : Calls Tryz.prog 155 #[v, v2, v3] w fun e w' => e = .returned r ∧ Keeps (fun _ => False) w w')
    (hk : ∀ w', Keeps (fun _ => False) w w' → K (a.put o.dst r) w') : Oper.wp Tryz.prog o a w K Q := by
  have et := slot_of ht
  have eu := slot_of hu
  have eq := slot_of hq
  unfold Oper.wp
  simp [execOp, ho, et, eu, eq, go_sem]
  refine hc.mono ?_
  rintro e w' ⟨rfl, h⟩
  exact hk _ h
set_option maxRecDepth 100000 in
theorem step_c93 {t u : Nat} {v v2 : Value} {r : Value} (ho : o.op = .call { callee := .value (.func 93), args := #[.tmp t, .tmp u], argTypes := #[24, 9] }) (ht : a.tmps.getD t undef = v) (hu : a.tmps.getD u undef = v2) (hc : Calls Tryz.prog 93 #[v, v2] w fun e w' => e = .returned r ∧ Keeps (fun _ => False) w w')
    (hk : ∀ w', Keeps (fun _ => False) w w' → K (a.put o.dst r) w') : Oper.wp Tryz.prog o a w K Q := by
  have et := slot_of ht
  have eu := slot_of hu
  unfold Oper.wp
  simp [execOp, ho, et, eu, go_sem]
  refine hc.mono ?_
  rintro e w' ⟨rfl, h⟩
  exact hk _ h
set_option maxRecDepth 100000 in
theorem step_c92 {t u q : Nat} {v v2 v3 : Value} {r : Value} (ho : o.op = .call { callee := .value (.func 92), args := #[.tmp t, .tmp u, .tmp q], argTypes := #[24, 3, 31] }) (ht : a.tmps.getD t undef = v) (hu : a.tmps.getD u undef = v2) (hq : a.tmps.getD q undef = v3) (hc : Calls Tryz.prog 92 #[v, v2, v3] w fun e w' => e = .returned r ∧ Keeps (fun _ => False) w w')
    (hk : ∀ w', Keeps (fun _ => False) w w' → K (a.put o.dst r) w') : Oper.wp Tryz.prog o a w K Q := by
  have et := slot_of ht
  have eu := slot_of hu
  have eq := slot_of hq
  unfold Oper.wp
  simp [execOp, ho, et, eu, eq, go_sem]
  refine hc.mono ?_
  rintro e w' ⟨rfl, h⟩
  exact hk _ h
set_option maxRecDepth 100000 in
theorem step_c54 {t u q : Nat} {v v2 v3 : Value} {r : Value} (ho : o.op = .call { callee := .value (.func 54), args := #[.tmp t, .tmp u, .tmp q], argTypes := #[24, 27, 31] }) (ht : a.tmps.getD t undef = v) (hu : a.tmps.getD u undef = v2) (hq : a.tmps.getD q undef = v3) (hc : Calls Tryz.prog 54 #[v, v2, v3] w fun e w' => e = .returned r ∧ Keeps (fun _ => False) w w')
    (hk : ∀ w', Keeps (fun _ => False) w w' → K (a.put o.dst r) w') : Oper.wp Tryz.prog o a w K Q := by
  have et := slot_of ht
  have eu := slot_of hu
  have eq := slot_of hq
  unfold Oper.wp
  simp [execOp, ho, et, eu, eq, go_sem]
  refine hc.mono ?_
  rintro e w' ⟨rfl, h⟩
  exact hk _ h
end
end Go.Proofs.YtiinohibmcefkaaGreatDoor
