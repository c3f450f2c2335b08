import Derived.Test.YtijfnlfgehcpaaaGreatDoorDs
import Derived.Deep.RegionHeld3
import Derived.Laws.Rows
namespace Go.Proofs.YtijfnlfgehcpaaaGreatDoor
open Go.RowKit Go.Maps

/-- How many of the first n are not done. -/
def undone (d : Nat → Bool) : Nat → Nat
  | 0 => 0
  | n + 1 => undone d n + if d n then 0 else 1
def mark (d : Nat → Bool) (i : Nat) : Nat → Bool := fun j => if j = i then true else d j
theorem undone_ge (d : Nat → Bool) {i : Nat} : ∀ {n : Nat}, n ≤ i → undone (mark d i) n = undone d n
  | 0, _ => rfl
  | n + 1, h => by
    have : mark d i n = d n := by unfold mark; rw [if_neg (by omega)]
    simp only [undone, this, undone_ge d (show n ≤ i by omega)]
theorem undone_mark {d : Nat → Bool} {i : Nat} (hd : d i = false) : ∀ {n : Nat}, i < n → undone (mark d i) n + 1 = undone d n
  | 0, h => by omega
  | n + 1, h => by
    by_cases hn : n = i
    · subst hn
      have : mark d n n = true := by unfold mark; rw [if_pos rfl]
      simp only [undone, this, hd, undone_ge d (Nat.le_refl n)]
      simp
    · have : mark d i n = d n := by unfold mark; rw [if_neg hn]
      have ih := undone_mark hd (show i < n by omega)
      simp only [undone, this]
      omega
theorem undone_zero {d : Nat → Bool} : ∀ {n : Nat}, undone d n = 0 → ∀ i, i < n → d i = true
  | 0, _, i, h => by omega
  | n + 1, h, i, hi => by
    simp only [undone] at h
    by_cases hn : i = n
    · subst hn
      cases hd : d i with
      | true => rfl
      | false => rw [hd] at h; simp at h
    · exact undone_zero (n := n) (by omega) i (by omega)
section
variable {P : Program} {ops : Array Oper} {Q : Exit → Act → World → Prop}
/-- A region whose edges go back alone, and in which none is ready: all are done. -/
theorem all_done (hac : ∀ (i : Nat) (o : Oper), ops[i]? = some o → ∀ e ∈ o.after, e.on < i) {listed : Array Bool} (hl : listed.size = ops.size) (hr : Region.ready .any ops listed = []) : ∀ i, i < ops.size → listed.getD i false = true := by
  intro i
  induction i using Nat.strongRecOn with
  | ind i ih =>
    intro hi
    cases hd : listed.getD i false with
    | true => rfl
    | false =>
      have hm : i ∈ Region.ready .any ops listed := by
        refine mem_ready.2 ⟨?_, ops[i], Array.getElem?_eq_getElem hi, fun e he _ => ih e.on (hac i _ (Array.getElem?_eq_getElem hi) e he) (Nat.lt_trans (hac i _ (Array.getElem?_eq_getElem hi) e he) hi)⟩
        rw [Array.getD_eq_getD_getElem?, Array.getElem?_eq_getElem (by omega)] at hd ⊢
        exact hd
      rw [hr] at hm
      cases hm
theorem wpAny_inv (hac : ∀ (i : Nat) (o : Oper), ops[i]? = some o → ∀ e ∈ o.after, e.on < i) (I : (Nat → Bool) → Act → World → Prop)
    (hs : ∀ (d : Nat → Bool) (a : Act) (w : World) (i : Nat) (o : Oper), I d a w → d i = false → ops[i]? = some o → (∀ e ∈ o.after, Region.binds .any e = true → d e.on = true) → wpOp P ops Q i (fun a' w' => I (mark d i) a' w') a w)
    (he : ∀ (d : Nat → Bool) (a : Act) (w : World), I d a w → (∀ i, i < ops.size → d i = true) → Q .normal a w) :
    ∀ (fuel : Nat) (listed : Array Bool) (a : Act) (w : World), listed.size = ops.size → undone (fun j => listed.getD j false) ops.size ≤ fuel → I (fun j => listed.getD j false) a w → wpAny P .any ops Q fuel listed a w
  | 0, listed, a, w, hl, hf, hI => by
    have hd := undone_zero (Nat.le_zero.1 hf)
    refine ⟨?_, he _ a w hI hd⟩
    cases hr : Region.ready .any ops listed with
    | nil => rfl
    | cons i r =>
      have hm : i ∈ Region.ready .any ops listed := by rw [hr]; exact List.mem_cons_self ..
      obtain ⟨h1, o, ho, _⟩ := mem_ready.1 hm
      have hi : i < ops.size := (Array.getElem?_eq_some_iff.1 ho).1
      have h2 := hd i hi
      rw [Array.getD_eq_getD_getElem?, Array.getElem?_eq_getElem (by omega)] at h1
      simp only [Array.getD_eq_getD_getElem?, Array.getElem?_eq_getElem (show i < listed.size by omega)] at h2
      have h1' : listed[i] = false := h1
      have h2' : listed[i] = true := h2
      rw [h1'] at h2'
      cases h2'
  | fuel + 1, listed, a, w, hl, hf, hI => by
    refine ⟨fun hr => he _ a w hI (all_done hac hl hr), fun i hm => ?_⟩
    obtain ⟨h1, o, ho, hall⟩ := mem_ready.1 hm
    have hi : i < ops.size := (Array.getElem?_eq_some_iff.1 ho).1
    have hd : listed.getD i false = false := by
      rw [Array.getD_eq_getD_getElem?, Array.getElem?_eq_getElem (by omega)] at h1 ⊢
      exact h1
    have heq : (fun j => (listed.setIfInBounds i true).getD j false) = mark (fun j => listed.getD j false) i := by
      funext j
      unfold mark
      by_cases hj : j = i
      · subst hj
        rw [if_pos rfl, Array.getD_eq_getD_getElem?, Array.getElem?_setIfInBounds_self_of_lt (by omega)]
        rfl
      · rw [if_neg hj]
        show (listed.setIfInBounds i true).getD j false = listed.getD j false
        rw [Array.getD_eq_getD_getElem?, Array.getD_eq_getD_getElem?, Array.getElem?_setIfInBounds_ne (fun e => hj e.symm)]
    refine wpOp_mono (fun a' w' hI' => ?_) (hs _ a w i o hI hd ho hall)
    refine wpAny_inv hac I hs he fuel (listed.setIfInBounds i true) a' w' (by simpa using hl) ?_ ?_
    · rw [heq]
      have := undone_mark (d := fun j => listed.getD j false) hd hi
      omega
    · rw [heq]
      exact hI'
/-- A region that draws its order, by what holds of those that are done. -/
theorem wp_region_inv {id : Nat} {a : Act} {w : World} (hm : P.follows .mixedOrders = true) (hac : ∀ (i : Nat) (o : Oper), ops[i]? = some o → ∀ e ∈ o.after, e.on < i) (I : (Nat → Bool) → Act → World → Prop)
    (h0 : I (fun _ => false) a w.drew)
    (hs : ∀ (d : Nat → Bool) (a : Act) (w : World) (i : Nat) (o : Oper), I d a w → d i = false → ops[i]? = some o → (∀ e ∈ o.after, Region.binds .any e = true → d e.on = true) → wpOp P ops Q i (fun a' w' => I (mark d i) a' w') a w)
    (he : ∀ (d : Nat → Bool) (a : Act) (w : World), I d a w → (∀ i, i < ops.size → d i = true) → Q .normal a w) : (Code.region id ops true).wp P Q a w := by
  refine wp_region_any hm ?_
  have e : (fun j => (Array.replicate ops.size false).getD j false) = fun _ => false := by
    funext j
    rw [Array.getD_eq_getD_getElem?, Array.getElem?_replicate]
    split <;> rfl
  have hu : ∀ n, undone (fun _ => false) n = n := fun n => by
    induction n with
    | zero => rfl
    | succ n ih => simp [undone, ih]
  refine wpAny_inv hac I hs he _ _ _ _ (by simp) ?_ ?_
  · rw [e, hu]
    exact Nat.le_refl _
  · rw [e]
    exact h0
end
end Go.Proofs.YtijfnlfgehcpaaaGreatDoor
namespace Go.Proofs.YtijfnlfgehcpaaaGreatDoor
open Go.RowKit Go.Maps

theorem put_get (a : Act) (d : Nat) (v : Value) (h : d < a.tmps.size) : (a.put (some d) v).tmps.getD d undef = v := by
  unfold Act.put
  rw [Array.getD_eq_getD_getElem?, Array.getElem?_setIfInBounds_self_of_lt h]
  rfl
theorem put_get_ne (a : Act) {d t : Nat} (v : Value) (h : d ≠ t) : (a.put (some d) v).tmps.getD t undef = a.tmps.getD t undef := by
  unfold Act.put
  simp only
  rw [Array.getD_eq_getD_getElem?, Array.getD_eq_getD_getElem?, Array.getElem?_setIfInBounds_ne h]
/-- The slots that a region doesn't write are as they were. -/
structure Same (a0 : Act) (n : Nat) (dst : Nat → Nat) (a : Act) : Prop where
  size : a.tmps.size = a0.tmps.size
  defers : a.defers = a0.defers
  slot : ∀ t, (∀ i, i < n → dst i ≠ t) → a.tmps.getD t undef = a0.tmps.getD t undef
theorem Same.put {a0 a : Act} {n : Nat} {dst : Nat → Nat} (h : Same a0 n dst a) {i : Nat} (hi : i < n) (v : Value) : Same a0 n dst (a.put (some (dst i)) v) :=
  ⟨by unfold Act.put; simpa using h.size, h.defers, fun t ht => (put_get_ne a v (ht i hi)).trans (h.slot t ht)⟩
section
variable {P : Program} {ops : Array Oper} {Q : Exit → Act → World → Prop}
/-- A region that draws its order and keeps all that was there, by what each of its slots holds, however its operations are drawn: F i v w says what the slot of the i-th holds once it is done. -/
theorem wp_region_slots {id : Nat} {a0 : Act} {w0 X : World} (hm : P.follows .mixedOrders = true) (hac : ∀ (i : Nat) (o : Oper), ops[i]? = some o → ∀ e ∈ o.after, e.on < i)
    (dst : Nat → Nat) (hdst : ∀ (i : Nat) (o : Oper), ops[i]? = some o → o.dst = some (dst i) ∧ o.guard = none ∧ dst i < a0.tmps.size) (hinj : ∀ i j, i < ops.size → j < ops.size → dst i = dst j → i = j)
    (hX : Keeps (fun _ => False) X w0)
    (F : Nat → Value → World → Prop) (hF : ∀ i v w w', F i v w → Keeps (fun _ => False) w w' → F i v w')
    (hs : ∀ (i : Nat) (o : Oper) (a : Act) (w : World), ops[i]? = some o → Same a0 ops.size dst a → Keeps (fun _ => False) X w → (∀ e ∈ o.after, Region.binds .any e = true → F e.on (a.tmps.getD (dst e.on) undef) w) →
      ∀ K' : Act → World → Prop, (∀ v w', F i v w' → Keeps (fun _ => False) w w' → K' (a.put (some (dst i)) v) w') → Oper.wp P o a w K' Q)
    (he : ∀ (a : Act) (w : World), Same a0 ops.size dst a → Keeps (fun _ => False) X w → (∀ i, i < ops.size → F i (a.tmps.getD (dst i) undef) w) → Q .normal a w) : (Code.region id ops true).wp P Q a0 w0 := by
  refine wp_region_inv hm hac (fun d a w => Same a0 ops.size dst a ∧ Keeps (fun _ => False) X w ∧ ∀ i, i < ops.size → d i = true → F i (a.tmps.getD (dst i) undef) w) ?_ ?_ ?_
  · exact ⟨⟨rfl, rfl, fun _ _ => rfl⟩, hX.drew, fun i _ h => by cases h⟩
  · rintro d a w i o ⟨h1, h2, h3⟩ hd ho hall
    have hi : i < ops.size := (Array.getElem?_eq_some_iff.1 ho).1
    obtain ⟨q1, q2, q3⟩ := hdst i o ho
    refine wpOp_step ho (fun K' hK => ?_)
    have hw : Region.wanted o (yielded ops a.tmps) = true := by simp [Region.wanted, q2]
    rw [if_pos hw]
    refine hs i o a w ho h1 h2 (fun e he hb => h3 e.on (Nat.lt_trans (hac i o ho e he) hi) (hall e he hb)) K' fun v w' hv hk => hK _ _ ⟨h1.put hi v, h2.trans hk, fun j hj hm => ?_⟩
    by_cases hij : j = i
    · subst hij
      rw [put_get a (dst j) v (by rw [h1.size]; exact q3)]
      exact hv
    · rw [put_get_ne a v (fun e => hij (hinj j i hj hi e.symm))]
      refine hF _ _ _ _ (h3 j hj ?_) hk
      unfold mark at hm
      rwa [if_neg hij] at hm
  · rintro d a w ⟨h1, h2, h3⟩ hd
    exact he a w h1 h2 (fun i hi => h3 i hi (hd i hi))
end
end Go.Proofs.YtijfnlfgehcpaaaGreatDoor
namespace Go.Proofs.YtijfnlfgehcpaaaGreatDoor
open Go.RowKit Go.Maps

/-- A value that is this expression. -/
def isE (w : World) (v : Value) (e : XE) : Prop := ∃ kv, v = exV e.op e.n e.s kv ∧ SlE (argZ w.heap.size) w 0 kv e.kids
/-- A slice of these expressions. -/
def isL (w : World) (v : Value) (l : EL) : Prop := SlE (argZ w.heap.size) w 0 v l
theorem sl_top {B : Nat} {w w' : World} {v : Value} {l : EL} (h : SlE (argZ B) w 0 v l) (hk : Keeps (fun _ => False) w w') : SlE (argZ w'.heap.size) w' 0 v l := (h.keepF hk).argUp (Nat.le_refl _) 0
theorem isE.keep {w w' : World} {v : Value} {e : XE} (h : isE w v e) (hk : Keeps (fun _ => False) w w') : isE w' v e := by
  obtain ⟨kv, e1, h1⟩ := h
  exact ⟨kv, e1, sl_top h1 hk⟩
theorem isL.keep {w w' : World} {v : Value} {l : EL} (h : isL w v l) (hk : Keeps (fun _ => False) w w') : isL w' v l := sl_top h hk
theorem isL_new {w : World} {l : EL} {xs : List Value} (h : EsIn (argZ w.heap.size) w l xs) : isL (w.alloc (.cells xs.toArray 27)) (.slice (some ⟨w.heap.size, 0, none⟩) l.len l.len) l := by
  obtain ⟨HB, hxb, hxc⟩ := boxed w xs.toArray 27
  have h2 := h.argKeep (unhide HB) (fun _ q => q.elim)
  refine ⟨_, _, rfl, Nat.le_refl _, fun _ => ⟨w.heap.size, 0, rfl, trivial, h2.exIn hxb (Nat.le_refl _) (fun j x hx => ?_)⟩⟩
  rw [Nat.zero_add]
  exact hxc j x (by simpa using hx)
section
variable {Q : Exit → Act → World → Prop} {K : Act → World → Prop} {o : Oper} {a : Act} {w : World}
theorem slot_of {a : Act} {t : Nat} {v : Value} (h : a.tmps.getD t undef = v) : a.tmps[t]?.getD undef = v := by rw [← Array.getD_eq_getD_getElem?]; exact h
theorem step_assign {t : Nat} {v : Value} (ho : o.op = .assign (.tmp t)) (ht : a.tmps.getD t undef = v) (hk : K (a.put o.dst v) w) : Oper.wp Tryz.prog o a w K Q := by
  have he : a.eval (.tmp t) = v := ht
  unfold Oper.wp
  simp only [execOp, ho, he]
  exact hk
theorem step_call26 {t : Nat} {k : Int} {l : EL} {v : Value} (ho : o.op = .call { callee := .value (.func 26), args := #[.const (.int .i64 k), .tmp t], argTypes := #[3, 25] }) (ht : a.tmps.getD t undef = v) (hl : isL w v l) (hn : l.len ≤ 1000)
    (hk : ∀ v' w', isE w' v' ⟨k, 0, [], l⟩ → Keeps (fun _ => False) w w' → K (a.put o.dst v') w') : Oper.wp Tryz.prog o a w K Q := by
  obtain ⟨ao, cap, rfl, _⟩ := SlE.head hl
  have he := slot_of ht
  unfold Oper.wp
  simp [execOp, ho, he, go_sem]
  refine (op_v w.heap.size k l hn _ w (Nat.le_refl _) hl).mono ?_
  rintro e w' ⟨ao', c', rfl, h1, h2⟩
  exact hk _ _ ⟨_, rfl, h1⟩ h2
theorem step_call25 {S : List FieldA} {h : Bool} {vals : List ValA} {x y : XE} {t1 t2 t3 t4 : Nat} {sv u v1 v2 : Value} (ho : o.op = .call { callee := .value (.func 25), args := #[.tmp t1, .tmp t2, .tmp t3, .tmp t4], argTypes := #[24, 31, 27, 27] })
    (h1 : a.tmps.getD t1 undef = .agg #[sv]) (h2 : a.tmps.getD t2 undef = .agg #[.bool h, u]) (h3 : a.tmps.getD t3 undef = v1) (h4 : a.tmps.getD t4 undef = v2) (hT : Types w) (hF : Forms w) (hf : FldsAt w sv S) (hu : ValsAt w u vals) (hx : isE w v1 x) (hy : isE w v2 y)
    (hz : x.kids.size + 1 ≤ 4294967294) (hz2 : y.kids.size + 1 ≤ 4294967294) (hA : Alike S h vals x y) (hk : ∀ w', Keeps (fun _ => False) w w' → K (a.put o.dst (.bool true)) w') : Oper.wp Tryz.prog o a w K Q := by
  obtain ⟨xv, rfl, hx⟩ := hx
  obtain ⟨yv, rfl, hy⟩ := hy
  have e1 := slot_of h1
  have e2 := slot_of h2
  have e3 := slot_of h3
  have e4 := slot_of h4
  unfold Oper.wp
  simp [execOp, ho, e1, e2, e3, e4, go_sem]
  refine (same_v (argZ w.heap.size) (argZ w.heap.size) S h vals x.op x.n y.op y.n x.s y.s x.kids y.kids hz hz2 sv u xv yv w 0 0 hT hF hf hu hx hy hA).mono ?_
  rintro e w' ⟨rfl, h2⟩
  exact hk _ h2
set_option maxRecDepth 100000 in
theorem step_slice1 {t : Nat} {x : XE} {v : Value} (ho : o.op = .buildSlice 25 1 #[(0, .tmp t)]) (ht0 : a.tmps.getD t undef = v) (hx : isE w v x)
    (hk : ∀ v' w', isL w' v' (x.el .nil) → Keeps (fun _ => False) w w' → K (a.put o.dst v') w') : Oper.wp Tryz.prog o a w K Q := by
  obtain ⟨xv, rfl, hx⟩ := hx
  obtain ⟨xo, xc, rfl, _⟩ := hx.head
  have he0 := slot_of ht0
  have hl := isL_new (w := w) (l := x.el .nil) (xs := [.int .i64 x.op, .int .i64 x.n, str x.s, .slice xo x.kids.len xc]) ⟨_, _, rfl, hx, rfl⟩
  unfold Oper.wp
  simp [execOp, ho, he0, go_sem, exV]
  exact hk _ _ hl (kAlloc w _)
set_option maxRecDepth 100000 in
theorem step_slice2 {t t2 : Nat} {x y : XE} {v v2 : Value} (ho : o.op = .buildSlice 25 2 #[(0, .tmp t), (1, .tmp t2)]) (ht0 : a.tmps.getD t undef = v) (ht1 : a.tmps.getD t2 undef = v2) (hx : isE w v x) (hy : isE w v2 y)
    (hk : ∀ v' w', isL w' v' (x.el (y.el .nil)) → Keeps (fun _ => False) w w' → K (a.put o.dst v') w') : Oper.wp Tryz.prog o a w K Q := by
  obtain ⟨xv, rfl, hx⟩ := hx
  obtain ⟨xo, xc, rfl, _⟩ := hx.head
  obtain ⟨yv, rfl, hy⟩ := hy
  obtain ⟨yo, yc, rfl, _⟩ := hy.head
  have he0 := slot_of ht0
  have he1 := slot_of ht1
  have hl := isL_new (w := w) (l := x.el (y.el .nil)) (xs := [.int .i64 x.op, .int .i64 x.n, str x.s, .slice xo x.kids.len xc, .int .i64 y.op, .int .i64 y.n, str y.s, .slice yo y.kids.len yc]) ⟨_, _, rfl, hx, ⟨_, _, rfl, hy, rfl⟩⟩
  unfold Oper.wp
  simp [execOp, ho, he0, he1, go_sem, exV]
  exact hk _ _ hl (kAlloc w _)
theorem step_load24 {t g : Nat} {x : Value} (ho : o.op = .load 24 (.tmp t)) (ht : a.tmps.getD t undef = .pointer (some ⟨g, 0, none⟩)) (hg : w.heap[g]? = some (.cells #[x] 24 (0, 0))) (hk : K (a.put o.dst (.agg #[x])) w) : Oper.wp Tryz.prog o a w K Q :=
  wp_load_row 24 (.tmp t) ho g ht 24 #[x] (0, 0) _ hg Tryz.underlying24 rfl (by kernel_rfl) hk
theorem step_load31 {t g : Nat} {x y : Value} (ho : o.op = .load 31 (.tmp t)) (ht : a.tmps.getD t undef = .pointer (some ⟨g, 0, none⟩)) (hg : w.heap[g]? = some (.cells #[x, y] 31 (0, 0))) (hk : K (a.put o.dst (.agg #[x, y])) w) : Oper.wp Tryz.prog o a w K Q :=
  wp_load_row 31 (.tmp t) ho g ht 31 #[x, y] (0, 0) _ hg Tryz.underlying31 rfl (by kernel_rfl) hk
theorem step_load27 {t g : Nat} {e : XE} {kv : Value} {B : Nat} {w1 : World} (ho : o.op = .load 27 (.tmp t)) (ht : a.tmps.getD t undef = .pointer (some ⟨g, 0, none⟩)) (hg : w.heap[g]? = some (.cells #[.int .i64 e.op, .int .i64 e.n, str e.s, kv] 27 (0, 0)))
    (hs : SlE (argZ B) w1 0 kv e.kids) (hw : Keeps (fun _ => False) w1 w) (hk : ∀ v', isE w v' e → K (a.put o.dst v') w) : Oper.wp Tryz.prog o a w K Q :=
  wp_load_row 27 (.tmp t) ho g ht 27 _ (0, 0) _ hg Tryz.underlying27 rfl (by kernel_rfl) (hk _ ⟨kv, rfl, sl_top hs hw⟩)
end
end Go.Proofs.YtijfnlfgehcpaaaGreatDoor
namespace Go.Proofs.YtijfnlfgehcpaaaGreatDoor
open Go.RowKit Go.Maps

/-- The operations of a region, one by one: each writes its own slot, is not guarded, waits for earlier ones alone. -/
def opsB (dl : List Nat) (sz : Nat) : Nat → List Oper → Bool
  | _, [] => true
  | i, o :: r => decide (o.dst = some (dl.getD i 0)) && o.guard.isNone && decide (dl.getD i 0 < sz) && o.after.toList.all (fun e => decide (e.on < i)) && opsB dl sz (i + 1) r
theorem opsB_at {dl : List Nat} {sz : Nat} : ∀ {l : List Oper} {k : Nat}, opsB dl sz k l = true → ∀ (j : Nat) (o : Oper), l[j]? = some o → o.dst = some (dl.getD (k + j) 0) ∧ o.guard = none ∧ dl.getD (k + j) 0 < sz ∧ ∀ e ∈ o.after, e.on < k + j
  | [], _, _, j, o, h => by simp at h
  | x :: r, k, hB, 0, o, h => by
    simp at h
    subst h
    simp only [opsB, Bool.and_eq_true, decide_eq_true_eq, Option.isNone_iff_eq_none] at hB
    obtain ⟨⟨⟨⟨h1, h2⟩, h3⟩, h4⟩, _⟩ := hB
    refine ⟨h1, h2, h3, fun e he => ?_⟩
    have := List.all_eq_true.1 h4 e (by simpa using he)
    simpa using this
  | x :: r, k, hB, j + 1, o, h => by
    simp only [opsB, Bool.and_eq_true] at hB
    have := opsB_at hB.2 j o (by simpa using h)
    rw [show k + 1 + j = k + (j + 1) by omega] at this
    exact this
section
variable {P : Program} {ops : Array Oper} {Q : Exit → Act → World → Prop}
theorem wp_region_table {id : Nat} {a0 : Act} {w0 X : World} (hm : P.follows .mixedOrders = true) (dl : List Nat) (hn : dl.Nodup) (hlen : dl.length = ops.size) (hB : opsB dl a0.tmps.size 0 ops.toList = true)
    (hX : Keeps (fun _ => False) X w0)
    (F : Nat → Value → World → Prop) (hF : ∀ i v w w', F i v w → Keeps (fun _ => False) w w' → F i v w')
    (hs : ∀ (i : Nat) (o : Oper) (a : Act) (w : World), ops[i]? = some o → Same a0 ops.size (fun i => dl.getD i 0) a → Keeps (fun _ => False) X w → (∀ e ∈ o.after, Region.binds .any e = true → F e.on (a.tmps.getD (dl.getD e.on 0) undef) w) →
      ∀ K' : Act → World → Prop, (∀ v w', F i v w' → Keeps (fun _ => False) w w' → K' (a.put o.dst v) w') → Oper.wp P o a w K' Q)
    (he : ∀ (a : Act) (w : World), Same a0 ops.size (fun i => dl.getD i 0) a → Keeps (fun _ => False) X w → (∀ i, i < ops.size → F i (a.tmps.getD (dl.getD i 0) undef) w) → Q .normal a w) : (Code.region id ops true).wp P Q a0 w0 := by
  have hat : ∀ (i : Nat) (o : Oper), ops[i]? = some o → o.dst = some (dl.getD i 0) ∧ o.guard = none ∧ dl.getD i 0 < a0.tmps.size ∧ ∀ e ∈ o.after, e.on < i := fun i o ho => by
    have := opsB_at hB i o (by simpa using ho)
    rwa [Nat.zero_add] at this
  refine wp_region_slots hm (fun i o ho => (hat i o ho).2.2.2) (fun i => dl.getD i 0) (fun i o ho => ⟨(hat i o ho).1, (hat i o ho).2.1, (hat i o ho).2.2.1⟩) (fun i j hi hj e => ?_) hX F hF (fun i o a w ho h1 h2 h3 K' hK => ?_) he
  · have hi' : i < dl.length := by omega
    have hj' : j < dl.length := by omega
    have e' : dl[i] = dl[j] := by
      have := e
      simp only [List.getD_eq_getElem?_getD, List.getElem?_eq_getElem hi', List.getElem?_eq_getElem hj'] at this
      exact this
    exact (List.getElem?_inj hi' hn).1 (by rw [List.getElem?_eq_getElem hi', List.getElem?_eq_getElem hj', e'])
  · exact hs i o a w ho h1 h2 h3 K' (fun v w' hv hk => by rw [(hat i o ho).1]; exact hK v w' hv hk)
end
end Go.Proofs.YtijfnlfgehcpaaaGreatDoor
