import Derived.Test.YtijfnlfgehcpaaaGreatDoorZd
import Derived.Deep.RegionHeld3
import Derived.Laws.Rows
import Derived.Laws.Tables
namespace Go.Proofs.YtijfnlfgehcpaaaGreatDoor
open Go.RowKit Go.Maps

/-- How many of the first n are not done. -/
def undone (d : Nat → Bool) : Nat → Nat
  | 0 => 0
  | n + 1 => undone d n + if d n then 0 else 1
def mark (d : Nat → Bool) (i : Nat) : Nat → Bool := fun j => if j = i then true else d j
theorem undone_ge (d : Nat → Bool) {i : Nat} : ∀ {n : Nat}, n ≤ i → undone (mark d i) n = undone d n
  | 0, _ => rfl
  | n + 1, h => by
    have : mark d i n = d n := by unfold mark; rw [if_neg (by omega)]
    simp only [undone, this, undone_ge d (show n ≤ i by omega)]
theorem undone_mark {d : Nat → Bool} {i : Nat} (hd : d i = false) : ∀ {n : Nat}, i < n → undone (mark d i) n + 1 = undone d n
  | 0, h => by omega
  | n + 1, h => by
    by_cases hn : n = i
    · subst hn
      have : mark d n n = true := by unfold mark; rw [if_pos rfl]
      simp only [undone, this, hd, undone_ge d (Nat.le_refl n)]
      simp
    · have : mark d i n = d n := by unfold mark; rw [if_neg hn]
      have ih := undone_mark hd (show i < n by omega)
      simp only [undone, this]
      omega
theorem undone_zero {d : Nat → Bool} : ∀ {n : Nat}, undone d n = 0 → ∀ i, i < n → d i = true
  | 0, _, i, h => by omega
  | n + 1, h, i, hi => by
    simp only [undone] at h
    by_cases hn : i = n
    · subst hn
      cases hd : d i with
      | true => rfl
      | false => rw [hd] at h; simp at h
    · exact undone_zero (n := n) (by omega) i (by omega)
section
variable {P : Program} {ops : Array Oper} {Q : Exit → Act → World → Prop}
/-- A region whose edges go back alone, and in which none is ready: all are done. -/
theorem all_done (hac : ∀ (i : Nat) (o : Oper), ops[i]? = some o → ∀ e ∈ o.after, e.on < i) {listed : Array Bool} (hl : listed.size = ops.size) (hr : Region.ready .any ops listed = []) : ∀ i, i < ops.size → listed.getD i false = true := by
  intro i
  induction i using Nat.strongRecOn with
  | ind i ih =>
    intro hi
    cases hd : listed.getD i false with
    | true => rfl
    | false =>
      have hm : i ∈ Region.ready .any ops listed := by
        refine mem_ready.2 ⟨?_, ops[i], Array.getElem?_eq_getElem hi, fun e he _ => ih e.on (hac i _ (Array.getElem?_eq_getElem hi) e he) (Nat.lt_trans (hac i _ (Array.getElem?_eq_getElem hi) e he) hi)⟩
        rw [Array.getD_eq_getD_getElem?, Array.getElem?_eq_getElem (by omega)] at hd ⊢
        exact hd
      rw [hr] at hm
      cases hm
theorem wpAny_inv (hac : ∀ (i : Nat) (o : Oper), ops[i]? = some o → ∀ e ∈ o.after, e.on < i) (I : (Nat → Bool) → Act → World → Prop)
    (hs : ∀ (d : Nat → Bool) (a : Act) (w : World) (i : Nat) (o : Oper), I d a w → d i = false → ops[i]? = some o → (∀ e ∈ o.after, Region.binds .any e = true → d e.on = true) → wpOp P ops Q i (fun a' w' => I (mark d i) a' w') a w)
    (he : ∀ (d : Nat → Bool) (a : Act) (w : World), I d a w → (∀ i, i < ops.size → d i = true) → Q .normal a w) :
    ∀ (fuel : Nat) (listed : Array Bool) (a : Act) (w : World), listed.size = ops.size → undone (fun j => listed.getD j false) ops.size ≤ fuel → I (fun j => listed.getD j false) a w → wpAny P .any ops Q fuel listed a w
  | 0, listed, a, w, hl, hf, hI => by
    have hd := undone_zero (Nat.le_zero.1 hf)
    refine ⟨?_, he _ a w hI hd⟩
    cases hr : Region.ready .any ops listed with
    | nil => rfl
    | cons i r =>
      have hm : i ∈ Region.ready .any ops listed := by rw [hr]; exact List.mem_cons_self ..
      obtain ⟨h1, o, ho, _⟩ := mem_ready.1 hm
      have hi : i < ops.size := (Array.getElem?_eq_some_iff.1 ho).1
      have h2 := hd i hi
      rw [Array.getD_eq_getD_getElem?, Array.getElem?_eq_getElem (by omega)] at h1
      simp only [Array.getD_eq_getD_getElem?, Array.getElem?_eq_getElem (show i < listed.size by omega)] at h2
      have h1' : listed[i] = false := h1
      have h2' : listed[i] = true := h2
      rw [h1'] at h2'
      cases h2'
  | fuel + 1, listed, a, w, hl, hf, hI => by
    refine ⟨fun hr => he _ a w hI (all_done hac hl hr), fun i hm => ?_⟩
    obtain ⟨h1, o, ho, hall⟩ := mem_ready.1 hm
    have hi : i < ops.size := (Array.getElem?_eq_some_iff.1 ho).1
    have hd : listed.getD i false = false := by
      rw [Array.getD_eq_getD_getElem?, Array.getElem?_eq_getElem (by omega)] at h1 ⊢
      exact h1
    have heq : (fun j => (listed.setIfInBounds i true).getD j false) = mark (fun j => listed.getD j false) i := by
      funext j
      unfold mark
      by_cases hj : j = i
      · subst hj
        rw [if_pos rfl, Array.getD_eq_getD_getElem?, Array.getElem?_setIfInBounds_self_of_lt (by omega)]
        rfl
      · rw [if_neg hj]
        show (listed.setIfInBounds i true).getD j false = listed.getD j false
        rw [Array.getD_eq_getD_getElem?, Array.getD_eq_getD_getElem?, Array.getElem?_setIfInBounds_ne (fun e => hj e.symm)]
    refine wpOp_mono (fun a' w' hI' => ?_) (hs _ a w i o hI hd ho hall)
    refine wpAny_inv hac I hs he fuel (listed.setIfInBounds i true) a' w' (by simpa using hl) ?_ ?_
    · rw [heq]
      have := undone_mark (d := fun j => listed.getD j false) hd hi
      omega
    · rw [heq]
      exact hI'
/-- A region that draws its order, by what holds of those that are done. -/
theorem wp_region_inv {id : Nat} {a : Act} {w : World} (hm : P.follows .mixedOrders = true) (hac : ∀ (i : Nat) (o : Oper), ops[i]? = some o → ∀ e ∈ o.after, e.on < i) (I : (Nat → Bool) → Act → World → Prop)
    (h0 : I (fun _ => false) a w.drew)
    (hs : ∀ (d : Nat → Bool) (a : Act) (w : World) (i : Nat) (o : Oper), I d a w → d i = false → ops[i]? = some o → (∀ e ∈ o.after, Region.binds .any e = true → d e.on = true) → wpOp P ops Q i (fun a' w' => I (mark d i) a' w') a w)
    (he : ∀ (d : Nat → Bool) (a : Act) (w : World), I d a w → (∀ i, i < ops.size → d i = true) → Q .normal a w) : (Code.region id ops true).wp P Q a w := by
  refine wp_region_any hm ?_
  have e : (fun j => (Array.replicate ops.size false).getD j false) = fun _ => false := by
    funext j
    rw [Array.getD_eq_getD_getElem?, Array.getElem?_replicate]
    split <;> rfl
  have hu : ∀ n, undone (fun _ => false) n = n := fun n => by
    induction n with
    | zero => rfl
    | succ n ih => simp [undone, ih]
  refine wpAny_inv hac I hs he _ _ _ _ (by simp) ?_ ?_
  · rw [e, hu]
    exact Nat.le_refl _
  · rw [e]
    exact h0
end
end Go.Proofs.YtijfnlfgehcpaaaGreatDoor
namespace Go.Proofs.YtijfnlfgehcpaaaGreatDoor
open Go.RowKit Go.Maps

theorem put_get (a : Act) (d : Nat) (v : Value) (h : d < a.tmps.size) : (a.put (some d) v).tmps.getD d undef = v := by
  unfold Act.put
  rw [Array.getD_eq_getD_getElem?, Array.getElem?_setIfInBounds_self_of_lt h]
  rfl
theorem put_get_ne (a : Act) {d t : Nat} (v : Value) (h : d ≠ t) : (a.put (some d) v).tmps.getD t undef = a.tmps.getD t undef := by
  unfold Act.put
  simp only
  rw [Array.getD_eq_getD_getElem?, Array.getD_eq_getD_getElem?, Array.getElem?_setIfInBounds_ne h]
/-- The slots that a region doesn't write are as they were. -/
structure Same (a0 : Act) (n : Nat) (dst : Nat → Nat) (a : Act) : Prop where
  size : a.tmps.size = a0.tmps.size
  defers : a.defers = a0.defers
  slot : ∀ t, (∀ i, i < n → dst i ≠ t) → a.tmps.getD t undef = a0.tmps.getD t undef
theorem Same.put {a0 a : Act} {n : Nat} {dst : Nat → Nat} (h : Same a0 n dst a) {i : Nat} (hi : i < n) (v : Value) : Same a0 n dst (a.put (some (dst i)) v) :=
  ⟨by unfold Act.put; simpa using h.size, h.defers, fun t ht => (put_get_ne a v (ht i hi)).trans (h.slot t ht)⟩
section
variable {P : Program} {ops : Array Oper} {Q : Exit → Act → World → Prop}
/-- A region that draws its order and keeps all that was there, by what each of its slots holds, however its operations are drawn: F i v w says what the slot of the i-th holds once it is done. -/
theorem wp_region_slots {id : Nat} {a0 : Act} {w0 X : World} (hm : P.follows .mixedOrders = true) (hac : ∀ (i : Nat) (o : Oper), ops[i]? = some o → ∀ e ∈ o.after, e.on < i)
    (dst : Nat → Nat) (hdst : ∀ (i : Nat) (o : Oper), ops[i]? = some o → o.dst = some (dst i) ∧ o.guard = none ∧ dst i < a0.tmps.size) (hinj : ∀ i j, i < ops.size → j < ops.size → dst i = dst j → i = j)
    (hX : Keeps (fun _ => False) X w0)
    (F : Nat → Value → World → Prop) (hF : ∀ i v w w', F i v w → Keeps (fun _ => False) w w' → F i v w')
    (hs : ∀ (i : Nat) (o : Oper) (a : Act) (w : World), ops[i]? = some o → Same a0 ops.size dst a → Keeps (fun _ => False) X w → (∀ e ∈ o.after, Region.binds .any e = true → F e.on (a.tmps.getD (dst e.on) undef) w) →
      ∀ K' : Act → World → Prop, (∀ v w', F i v w' → Keeps (fun _ => False) w w' → K' (a.put (some (dst i)) v) w') → Oper.wp P o a w K' Q)
    (he : ∀ (a : Act) (w : World), Same a0 ops.size dst a → Keeps (fun _ => False) X w → (∀ i, i < ops.size → F i (a.tmps.getD (dst i) undef) w) → Q .normal a w) : (Code.region id ops true).wp P Q a0 w0 := by
  refine wp_region_inv hm hac (fun d a w => Same a0 ops.size dst a ∧ Keeps (fun _ => False) X w ∧ ∀ i, i < ops.size → d i = true → F i (a.tmps.getD (dst i) undef) w) ?_ ?_ ?_
  · exact ⟨⟨rfl, rfl, fun _ _ => rfl⟩, hX.drew, fun i _ h => by cases h⟩
  · rintro d a w i o ⟨h1, h2, h3⟩ hd ho hall
    have hi : i < ops.size := (Array.getElem?_eq_some_iff.1 ho).1
    obtain ⟨q1, q2, q3⟩ := hdst i o ho
    refine wpOp_step ho (fun K' hK => ?_)
    have hw : Region.wanted o (yielded ops a.tmps) = true := by simp [Region.wanted, q2]
    rw [if_pos hw]
    refine hs i o a w ho h1 h2 (fun e he hb => h3 e.on (Nat.lt_trans (hac i o ho e he) hi) (hall e he hb)) K' fun v w' hv hk => hK _ _ ⟨h1.put hi v, h2.trans hk, fun j hj hm => ?_⟩
    by_cases hij : j = i
    · subst hij
      rw [put_get a (dst j) v (by rw [h1.size]; exact q3)]
      exact hv
    · rw [put_get_ne a v (fun e => hij (hinj j i hj hi e.symm))]
      refine hF _ _ _ _ (h3 j hj ?_) hk
      unfold mark at hm
      rwa [if_neg hij] at hm
  · rintro d a w ⟨h1, h2, h3⟩ hd
    exact he a w h1 h2 (fun i hi => h3 i hi (hd i hi))
end
end Go.Proofs.YtijfnlfgehcpaaaGreatDoor
namespace Go.Proofs.YtijfnlfgehcpaaaGreatDoor
open Go.RowKit Go.Maps

/-- A value that is this expression. -/
def isE (w : World) (v : Value) (e : XE) : Prop := ∃ kv, v = exV e.op e.n e.s kv ∧ SlE (argZ w.heap.size) w 0 kv e.kids
/-- A slice of these expressions. -/
def isL (w : World) (v : Value) (l : EL) : Prop := SlE (argZ w.heap.size) w 0 v l
theorem sl_top {B : Nat} {w w' : World} {v : Value} {l : EL} (h : SlE (argZ B) w 0 v l) (hk : Keeps (fun _ => False) w w') : SlE (argZ w'.heap.size) w' 0 v l := (h.keepF hk).argUp (Nat.le_refl _) 0
theorem isE.keep {w w' : World} {v : Value} {e : XE} (h : isE w v e) (hk : Keeps (fun _ => False) w w') : isE w' v e := by
  obtain ⟨kv, e1, h1⟩ := h
  exact ⟨kv, e1, sl_top h1 hk⟩
theorem isL.keep {w w' : World} {v : Value} {l : EL} (h : isL w v l) (hk : Keeps (fun _ => False) w w') : isL w' v l := sl_top h hk
theorem isL_new {w : World} {l : EL} {xs : List Value} (h : EsIn (argZ w.heap.size) w l xs) : isL (w.alloc (.cells xs.toArray 27)) (.slice (some ⟨w.heap.size, 0, none⟩) l.len l.len) l := by
  obtain ⟨HB, hxb, hxc⟩ := boxed w xs.toArray 27
  have h2 := h.argKeep (unhide HB) (fun _ q => q.elim)
  refine ⟨_, _, rfl, Nat.le_refl _, fun _ => ⟨w.heap.size, 0, rfl, trivial, h2.exIn hxb (Nat.le_refl _) (fun j x hx => ?_)⟩⟩
  rw [Nat.zero_add]
  exact hxc j x (by simpa using hx)
section
variable {Q : Exit → Act → World → Prop} {K : Act → World → Prop} {o : Oper} {a : Act} {w : World}
theorem slot_of {a : Act} {t : Nat} {v : Value} (h : a.tmps.getD t undef = v) : a.tmps[t]?.getD undef = v := by rw [← Array.getD_eq_getD_getElem?]; exact h
theorem step_assign {t : Nat} {v : Value} (ho : o.op = .assign (.tmp t)) (ht : a.tmps.getD t undef = v) (hk : K (a.put o.dst v) w) : Oper.wp Tryz.prog o a w K Q := by
  have he : a.eval (.tmp t) = v := ht
  unfold Oper.wp
  simp only [execOp, ho, he]
  exact hk
theorem step_call26 {t : Nat} {k : Int} {l : EL} {v : Value} (ho : o.op = .call { callee := .value (.func 26), args := #[.const (.int .i64 k), .tmp t], argTypes := #[3, 25] }) (ht : a.tmps.getD t undef = v) (hl : isL w v l) (hn : l.len ≤ 1000)
    (hk : ∀ v' w', isE w' v' ⟨k, 0, [], l⟩ → Keeps (fun _ => False) w w' → K (a.put o.dst v') w') : Oper.wp Tryz.prog o a w K Q := by
  obtain ⟨ao, cap, rfl, _⟩ := SlE.head hl
  have he := slot_of ht
  unfold Oper.wp
  simp [execOp, ho, he, go_sem]
  refine (op_v w.heap.size k l hn _ w (Nat.le_refl _) hl).mono ?_
  rintro e w' ⟨ao', c', rfl, h1, h2⟩
  exact hk _ _ ⟨_, rfl, h1⟩ h2
theorem step_call25 {S : List FieldA} {h : Bool} {vals : List ValA} {x y : XE} {t1 t2 t3 t4 : Nat} {sv u v1 v2 : Value} (ho : o.op = .call { callee := .value (.func 25), args := #[.tmp t1, .tmp t2, .tmp t3, .tmp t4], argTypes := #[24, 31, 27, 27] })
    (h1 : a.tmps.getD t1 undef = .agg #[sv]) (h2 : a.tmps.getD t2 undef = .agg #[.bool h, u]) (h3 : a.tmps.getD t3 undef = v1) (h4 : a.tmps.getD t4 undef = v2) (hT : Types w) (hF : Forms w) (hf : FldsAt w sv S) (hu : ValsAt w u vals) (hx : isE w v1 x) (hy : isE w v2 y)
    (hz : x.kids.size + 1 ≤ 4294967294) (hz2 : y.kids.size + 1 ≤ 4294967294) (hA : Alike S h vals x y) (hk : ∀ w', Keeps (fun _ => False) w w' → K (a.put o.dst (.bool true)) w') : Oper.wp Tryz.prog o a w K Q := by
  obtain ⟨xv, rfl, hx⟩ := hx
  obtain ⟨yv, rfl, hy⟩ := hy
  have e1 := slot_of h1
  have e2 := slot_of h2
  have e3 := slot_of h3
  have e4 := slot_of h4
  unfold Oper.wp
  simp [execOp, ho, e1, e2, e3, e4, go_sem]
  refine (same_v (argZ w.heap.size) (argZ w.heap.size) S h vals x.op x.n y.op y.n x.s y.s x.kids y.kids hz hz2 sv u xv yv w 0 0 hT hF hf hu hx hy hA).mono ?_
  rintro e w' ⟨rfl, h2⟩
  exact hk _ h2
set_option maxRecDepth 100000 in
theorem step_slice1 {t : Nat} {x : XE} {v : Value} (ho : o.op = .buildSlice 25 1 #[(0, .tmp t)]) (ht0 : a.tmps.getD t undef = v) (hx : isE w v x)
    (hk : ∀ v' w', isL w' v' (x.el .nil) → Keeps (fun _ => False) w w' → K (a.put o.dst v') w') : Oper.wp Tryz.prog o a w K Q := by
  obtain ⟨xv, rfl, hx⟩ := hx
  obtain ⟨xo, xc, rfl, _⟩ := hx.head
  have he0 := slot_of ht0
  have hl := isL_new (w := w) (l := x.el .nil) (xs := [.int .i64 x.op, .int .i64 x.n, str x.s, .slice xo x.kids.len xc]) ⟨_, _, rfl, hx, rfl⟩
  unfold Oper.wp
  simp [execOp, ho, he0, go_sem, exV]
  exact hk _ _ hl (kAlloc w _)
set_option maxRecDepth 100000 in
theorem step_slice2 {t t2 : Nat} {x y : XE} {v v2 : Value} (ho : o.op = .buildSlice 25 2 #[(0, .tmp t), (1, .tmp t2)]) (ht0 : a.tmps.getD t undef = v) (ht1 : a.tmps.getD t2 undef = v2) (hx : isE w v x) (hy : isE w v2 y)
    (hk : ∀ v' w', isL w' v' (x.el (y.el .nil)) → Keeps (fun _ => False) w w' → K (a.put o.dst v') w') : Oper.wp Tryz.prog o a w K Q := by
  obtain ⟨xv, rfl, hx⟩ := hx
  obtain ⟨xo, xc, rfl, _⟩ := hx.head
  obtain ⟨yv, rfl, hy⟩ := hy
  obtain ⟨yo, yc, rfl, _⟩ := hy.head
  have he0 := slot_of ht0
  have he1 := slot_of ht1
  have hl := isL_new (w := w) (l := x.el (y.el .nil)) (xs := [.int .i64 x.op, .int .i64 x.n, str x.s, .slice xo x.kids.len xc, .int .i64 y.op, .int .i64 y.n, str y.s, .slice yo y.kids.len yc]) ⟨_, _, rfl, hx, ⟨_, _, rfl, hy, rfl⟩⟩
  unfold Oper.wp
  simp [execOp, ho, he0, he1, go_sem, exV]
  exact hk _ _ hl (kAlloc w _)
set_option maxRecDepth 100000 in
theorem step_slice3 {t t2 t3 : Nat} {x y z : XE} {v v2 v3 : Value} (ho : o.op = .buildSlice 25 3 #[(0, .tmp t), (1, .tmp t2), (2, .tmp t3)]) (ht0 : a.tmps.getD t undef = v) (ht1 : a.tmps.getD t2 undef = v2) (ht2 : a.tmps.getD t3 undef = v3) (hx : isE w v x) (hy : isE w v2 y) (hz : isE w v3 z)
    (hk : ∀ v' w', isL w' v' (x.el (y.el (z.el .nil))) → Keeps (fun _ => False) w w' → K (a.put o.dst v') w') : Oper.wp Tryz.prog o a w K Q := by
  obtain ⟨xv, rfl, hx⟩ := hx
  obtain ⟨xo, xc, rfl, _⟩ := hx.head
  obtain ⟨yv, rfl, hy⟩ := hy
  obtain ⟨yo, yc, rfl, _⟩ := hy.head
  obtain ⟨zv, rfl, hz⟩ := hz
  obtain ⟨zo, zc, rfl, _⟩ := hz.head
  have he0 := slot_of ht0
  have he1 := slot_of ht1
  have he2 := slot_of ht2
  have hl := isL_new (w := w) (l := x.el (y.el (z.el .nil))) (xs := [.int .i64 x.op, .int .i64 x.n, str x.s, .slice xo x.kids.len xc, .int .i64 y.op, .int .i64 y.n, str y.s, .slice yo y.kids.len yc, .int .i64 z.op, .int .i64 z.n, str z.s, .slice zo z.kids.len zc]) ⟨_, _, rfl, hx, ⟨_, _, rfl, hy, ⟨_, _, rfl, hz, rfl⟩⟩⟩
  unfold Oper.wp
  simp [execOp, ho, he0, he1, he2, go_sem, exV]
  exact hk _ _ hl (kAlloc w _)
theorem step_load24 {t g : Nat} {x : Value} (ho : o.op = .load 24 (.tmp t)) (ht : a.tmps.getD t undef = .pointer (some ⟨g, 0, none⟩)) (hg : w.heap[g]? = some (.cells #[x] 24 (0, 0))) (hk : K (a.put o.dst (.agg #[x])) w) : Oper.wp Tryz.prog o a w K Q :=
  wp_load_row 24 (.tmp t) ho g ht 24 #[x] (0, 0) _ hg Tryz.underlying24 rfl (by kernel_rfl) hk
theorem step_load31 {t g : Nat} {x y : Value} (ho : o.op = .load 31 (.tmp t)) (ht : a.tmps.getD t undef = .pointer (some ⟨g, 0, none⟩)) (hg : w.heap[g]? = some (.cells #[x, y] 31 (0, 0))) (hk : K (a.put o.dst (.agg #[x, y])) w) : Oper.wp Tryz.prog o a w K Q :=
  wp_load_row 31 (.tmp t) ho g ht 31 #[x, y] (0, 0) _ hg Tryz.underlying31 rfl (by kernel_rfl) hk
theorem step_load27 {t g : Nat} {e : XE} {kv : Value} {B : Nat} {w1 : World} (ho : o.op = .load 27 (.tmp t)) (ht : a.tmps.getD t undef = .pointer (some ⟨g, 0, none⟩)) (hg : w.heap[g]? = some (.cells #[.int .i64 e.op, .int .i64 e.n, str e.s, kv] 27 (0, 0)))
    (hs : SlE (argZ B) w1 0 kv e.kids) (hw : Keeps (fun _ => False) w1 w) (hk : ∀ v', isE w v' e → K (a.put o.dst v') w) : Oper.wp Tryz.prog o a w K Q :=
  wp_load_row 27 (.tmp t) ho g ht 27 _ (0, 0) _ hg Tryz.underlying27 rfl (by kernel_rfl) (hk _ ⟨kv, rfl, sl_top hs hw⟩)
end
end Go.Proofs.YtijfnlfgehcpaaaGreatDoor
namespace Go.Proofs.YtijfnlfgehcpaaaGreatDoor
open Go.RowKit Go.Maps

/-- The operations of a region, one by one: each writes its own slot, is not guarded, waits for earlier ones alone. -/
def opsB (dl : List Nat) (sz : Nat) : Nat → List Oper → Bool
  | _, [] => true
  | i, o :: r => decide (o.dst = some (dl.getD i 0)) && o.guard.isNone && decide (dl.getD i 0 < sz) && o.after.toList.all (fun e => decide (e.on < i)) && opsB dl sz (i + 1) r
theorem opsB_at {dl : List Nat} {sz : Nat} : ∀ {l : List Oper} {k : Nat}, opsB dl sz k l = true → ∀ (j : Nat) (o : Oper), l[j]? = some o → o.dst = some (dl.getD (k + j) 0) ∧ o.guard = none ∧ dl.getD (k + j) 0 < sz ∧ ∀ e ∈ o.after, e.on < k + j
  | [], _, _, j, o, h => by simp at h
  | x :: r, k, hB, 0, o, h => by
    simp at h
    subst h
    simp only [opsB, Bool.and_eq_true, decide_eq_true_eq, Option.isNone_iff_eq_none] at hB
    obtain ⟨⟨⟨⟨h1, h2⟩, h3⟩, h4⟩, _⟩ := hB
    refine ⟨h1, h2, h3, fun e he => ?_⟩
    have := List.all_eq_true.1 h4 e (by simpa using he)
    simpa using this
  | x :: r, k, hB, j + 1, o, h => by
    simp only [opsB, Bool.and_eq_true] at hB
    have := opsB_at hB.2 j o (by simpa using h)
    rw [show k + 1 + j = k + (j + 1) by omega] at this
    exact this
section
variable {P : Program} {ops : Array Oper} {Q : Exit → Act → World → Prop}
theorem wp_region_table {id : Nat} {a0 : Act} {w0 X : World} (hm : P.follows .mixedOrders = true) (dl : List Nat) (hn : dl.Nodup) (hlen : dl.length = ops.size) (hB : opsB dl a0.tmps.size 0 ops.toList = true)
    (hX : Keeps (fun _ => False) X w0)
    (F : Nat → Value → World → Prop) (hF : ∀ i v w w', F i v w → Keeps (fun _ => False) w w' → F i v w')
    (hs : ∀ (i : Nat) (o : Oper) (a : Act) (w : World), ops[i]? = some o → Same a0 ops.size (fun i => dl.getD i 0) a → Keeps (fun _ => False) X w → (∀ e ∈ o.after, Region.binds .any e = true → F e.on (a.tmps.getD (dl.getD e.on 0) undef) w) →
      ∀ K' : Act → World → Prop, (∀ v w', F i v w' → Keeps (fun _ => False) w w' → K' (a.put o.dst v) w') → Oper.wp P o a w K' Q)
    (he : ∀ (a : Act) (w : World), Same a0 ops.size (fun i => dl.getD i 0) a → Keeps (fun _ => False) X w → (∀ i, i < ops.size → F i (a.tmps.getD (dl.getD i 0) undef) w) → Q .normal a w) : (Code.region id ops true).wp P Q a0 w0 := by
  have hat : ∀ (i : Nat) (o : Oper), ops[i]? = some o → o.dst = some (dl.getD i 0) ∧ o.guard = none ∧ dl.getD i 0 < a0.tmps.size ∧ ∀ e ∈ o.after, e.on < i := fun i o ho => by
    have := opsB_at hB i o (by simpa using ho)
    rwa [Nat.zero_add] at this
  refine wp_region_slots hm (fun i o ho => (hat i o ho).2.2.2) (fun i => dl.getD i 0) (fun i o ho => ⟨(hat i o ho).1, (hat i o ho).2.1, (hat i o ho).2.2.1⟩) (fun i j hi hj e => ?_) hX F hF (fun i o a w ho h1 h2 h3 K' hK => ?_) he
  · have hi' : i < dl.length := by omega
    have hj' : j < dl.length := by omega
    have e' : dl[i] = dl[j] := by
      have := e
      simp only [List.getD_eq_getElem?_getD, List.getElem?_eq_getElem hi', List.getElem?_eq_getElem hj'] at this
      exact this
    exact (List.getElem?_inj hi' hn).1 (by rw [List.getElem?_eq_getElem hi', List.getElem?_eq_getElem hj', e'])
  · exact hs i o a w ho h1 h2 h3 K' (fun v w' hv hk => by rw [(hat i o ho).1]; exact hK v w' hv hk)
end
end Go.Proofs.YtijfnlfgehcpaaaGreatDoor
namespace Go.Proofs.YtijfnlfgehcpaaaGreatDoor
open Go.RowKit Go.Maps

/-- What an operation waits for. -/
def waitsL (o : Oper) : List Nat := (o.after.toList.filter (Region.binds .any)).map (·.on)
/-- Are all of the first n waited for? -/
def coverB (ops : Array Oper) : Nat → List Nat → Bool
  | 0, _ => true
  | i + 1, need => need.contains i && coverB ops i (need ++ (match ops[i]? with | some o => waitsL o | none => []))
theorem waitsL_mem {o : Oper} {j : Nat} (h : j ∈ waitsL o) : ∃ e ∈ o.after, Region.binds .any e = true ∧ e.on = j := by
  unfold waitsL at h
  obtain ⟨e, he, rfl⟩ := List.mem_map.1 h
  obtain ⟨h1, h2⟩ := List.mem_filter.1 he
  exact ⟨e, by simpa using h1, h2, rfl⟩
theorem coverB_all {ops : Array Oper} {d : Nat → Bool} (hc : ∀ (i : Nat) (o : Oper), ops[i]? = some o → d i = true → ∀ e ∈ o.after, Region.binds .any e = true → d e.on = true) : ∀ (n : Nat) (need : List Nat), coverB ops n need = true → (∀ j ∈ need, d j = true) → ∀ i, i < n → d i = true
  | 0, _, _, _, i, h => by omega
  | n + 1, need, h, hn, i, hi => by
    simp only [coverB, Bool.and_eq_true] at h
    have hdn : d n = true := hn n (by simpa using h.1)
    by_cases e : i = n
    · rw [e]; exact hdn
    · refine coverB_all hc n _ h.2 (fun j hj => ?_) i (by omega)
      rcases List.mem_append.1 hj with hj | hj
      · exact hn j hj
      · cases ho : ops[n]? with
        | none => rw [ho] at hj; simp at hj
        | some o =>
          rw [ho] at hj
          obtain ⟨e, he, hb, rfl⟩ := waitsL_mem hj
          exact hc n o ho hdn e he hb
section
variable {P : Program} {ops : Array Oper} {Q : Exit → Act → World → Prop}
/-- A region that draws its order and whose last operation writes no slot and waits for all others. -/
theorem wp_region_last {id : Nat} {a0 : Act} {w0 X : World} (hm : P.follows .mixedOrders = true) (m : Nat) (hsz : ops.size = m + 1) (os : Oper) (hos : ops[m]? = some os) (hog : os.guard = none) (hoa : ∀ e ∈ os.after, e.on < m) (hcov : coverB ops m (waitsL os) = true)
    (dl : List Nat) (hn : dl.Nodup) (hlen : dl.length = m) (hB : opsB dl a0.tmps.size 0 (ops.toList.take m) = true)
    (hX : Keeps (fun _ => False) X w0)
    (F : Nat → Value → World → Prop) (hF : ∀ i v w w', F i v w → Keeps (fun _ => False) w w' → F i v w')
    (hs : ∀ (i : Nat) (o : Oper) (a : Act) (w : World), i < m → ops[i]? = some o → Same a0 m (fun i => dl.getD i 0) a → Keeps (fun _ => False) X w → (∀ e ∈ o.after, Region.binds .any e = true → F e.on (a.tmps.getD (dl.getD e.on 0) undef) w) →
      ∀ K' : Act → World → Prop, (∀ v w', F i v w' → Keeps (fun _ => False) w w' → K' (a.put o.dst v) w') → Oper.wp P o a w K' Q)
    (he : ∀ (a : Act) (w : World), Same a0 m (fun i => dl.getD i 0) a → Keeps (fun _ => False) X w → (∀ i, i < m → F i (a.tmps.getD (dl.getD i 0) undef) w) →
      ∀ K' : Act → World → Prop, (∀ a' w', Q .normal a' w' → K' a' w') → Oper.wp P os a w K' Q) : (Code.region id ops true).wp P Q a0 w0 := by
  have hat : ∀ (i : Nat) (o : Oper), i < m → ops[i]? = some o → o.dst = some (dl.getD i 0) ∧ o.guard = none ∧ dl.getD i 0 < a0.tmps.size ∧ ∀ e ∈ o.after, e.on < i := fun i o hi ho => by
    have := opsB_at hB i o (by rw [List.getElem?_take_of_lt hi]; simpa using ho)
    rwa [Nat.zero_add] at this
  have hinj : ∀ i j, i < m → j < m → dl.getD i 0 = dl.getD j 0 → i = j := fun i j hi hj e => by
    have hi' : i < dl.length := by omega
    have hj' : j < dl.length := by omega
    have e' : dl[i] = dl[j] := by
      have := e
      simp only [List.getD_eq_getElem?_getD, List.getElem?_eq_getElem hi', List.getElem?_eq_getElem hj'] at this
      exact this
    exact (List.getElem?_inj hi' hn).1 (by rw [List.getElem?_eq_getElem hi', List.getElem?_eq_getElem hj', e'])
  have hlt : ∀ (i : Nat) (o : Oper), ops[i]? = some o → i < m ∨ i = m := fun i o ho => by
    have := (Array.getElem?_eq_some_iff.1 ho).1
    omega
  have hac : ∀ (i : Nat) (o : Oper), ops[i]? = some o → ∀ e ∈ o.after, e.on < i := fun i o ho => by
    rcases hlt i o ho with hi | rfl
    · exact (hat i o hi ho).2.2.2
    · rw [hos] at ho
      obtain rfl := Option.some.inj ho
      exact hoa
  refine wp_region_inv hm hac (fun d a w => (∀ (i : Nat) (o : Oper), ops[i]? = some o → d i = true → ∀ e ∈ o.after, Region.binds .any e = true → d e.on = true) ∧ ((d m = false ∧ Same a0 m (fun i => dl.getD i 0) a ∧ Keeps (fun _ => False) X w ∧ ∀ i, i < m → d i = true → F i (a.tmps.getD (dl.getD i 0) undef) w) ∨ (d m = true ∧ Q .normal a w))) ?_ ?_ ?_
  · exact ⟨(fun i o _ h => by cases h), Or.inl ⟨rfl, ⟨rfl, rfl, fun _ _ => rfl⟩, hX.drew, (fun i _ h => by cases h)⟩⟩
  · rintro d a w i o ⟨hcl, hI⟩ hd ho hall
    have hcl' : ∀ (j : Nat) (o' : Oper), ops[j]? = some o' → mark d i j = true → ∀ e ∈ o'.after, Region.binds .any e = true → mark d i e.on = true := fun j o' ho' hj e he' hb => by
      unfold mark at hj ⊢
      by_cases hei : e.on = i
      · rw [if_pos hei]
      · rw [if_neg hei]
        by_cases hji : j = i
        · subst hji
          rw [ho] at ho'
          obtain rfl := Option.some.inj ho'
          exact hall e he' hb
        · rw [if_neg hji] at hj
          exact hcl j o' ho' hj e he' hb
    refine wpOp_step ho (fun K' hK => ?_)
    rcases hI with ⟨hdm, h1, h2, h3⟩ | ⟨hdm, _⟩
    · rcases hlt i o ho with hi | rfl
      · obtain ⟨q1, q2, q3, q4⟩ := hat i o hi ho
        have hw : Region.wanted o (yielded ops a.tmps) = true := by simp [Region.wanted, q2]
        rw [if_pos hw]
        refine hs i o a w hi ho h1 h2 (fun e he' hb => h3 e.on (Nat.lt_trans (q4 e he') hi) (hall e he' hb)) K' fun v w' hv hk => hK _ _ ⟨hcl', Or.inl ⟨?_, ?_, h2.trans hk, fun j hj hmk => ?_⟩⟩
        · unfold mark
          rw [if_neg (by omega)]
          exact hdm
        · rw [q1]
          exact h1.put hi v
        · by_cases hij : j = i
          · subst hij
            rw [q1, put_get a _ v (by rw [h1.size]; exact q3)]
            exact hv
          · rw [q1, put_get_ne a v (fun e => hij (hinj j i hj hi e.symm))]
            refine hF _ _ _ _ (h3 j hj ?_) hk
            unfold mark at hmk
            rwa [if_neg hij] at hmk
      · rw [hos] at ho
        obtain rfl := Option.some.inj ho
        have hw : Region.wanted os (yielded ops a.tmps) = true := by simp [Region.wanted, hog]
        rw [if_pos hw]
        have hdone := coverB_all hcl i (waitsL os) hcov (fun j hj => by
          obtain ⟨e, he', hb, rfl⟩ := waitsL_mem hj
          exact hall e he' hb)
        refine he a w h1 h2 (fun j hj => h3 j hj (hdone j hj)) K' fun a' w' hq => hK _ _ ⟨hcl', Or.inr ⟨?_, hq⟩⟩
        unfold mark
        rw [if_pos rfl]
    · exfalso
      rcases hlt i o ho with hi | rfl
      · have hdone := coverB_all hcl m (waitsL os) hcov (fun j hj => by
          obtain ⟨e, he', hb, rfl⟩ := waitsL_mem hj
          exact hcl m os hos hdm e he' hb) i hi
        rw [hd] at hdone
        cases hdone
      · rw [hd] at hdm
        cases hdm
  · rintro d a w ⟨_, hI⟩ hd
    rcases hI with ⟨hdm, _⟩ | ⟨_, hq⟩
    · have := hd m (by omega)
      rw [hdm] at this
      cases this
    · exact hq
end
/-- A box of an expression, all zero. -/
abbrev zBox : Obj := .cells #[.int .i64 0, .int .i64 0, .string ⟨#[]⟩, .slice none 0 0] 27 (0, 0)
/-- Where trees lie: below N, or in a block that is no box of zeros. -/
def boxZ (N : Nat) : Zone := ⟨fun w _ k => k < N ∨ w.heap[k]? ≠ some zBox, fun _ _ => True, fun hk h hg => hg.imp id (fun q e => q ((hk.block _ h id).symm.trans e))⟩
theorem ExIn.zone {Z Z' : Zone} {w : World} (hP : ∀ b b', Z'.P b b') (hG : ∀ k, k < w.heap.size → Z.G w false k → Z'.G w false k) : ∀ {l : EL} {b o : Nat}, ExIn Z w l b o → ExIn Z' w l b o
  | .nil, _, _, _ => trivial
  | .cons _ _ _ _ _, _, _, ⟨h1, h2, h3, h4, h5, ⟨ao, cap, h6, h7, h8⟩, h9⟩ => ⟨h1, hG _ h1 h2, h3, h4, h5, ⟨ao, cap, h6, h7, fun h0 => by obtain ⟨b', o', e, _, hx⟩ := h8 h0; exact ⟨b', o', e, hP _ _, ExIn.zone hP hG hx⟩⟩, ExIn.zone hP hG h9⟩
theorem SlE.zone {Z Z' : Zone} {w : World} (hP : ∀ b b', Z'.P b b') (hG : ∀ k, k < w.heap.size → Z.G w false k → Z'.G w false k) {up up' : Nat} {v : Value} {l : EL} (h : SlE Z w up v l) : SlE Z' w up' v l := by
  obtain ⟨ao, cap, e, hc, hr⟩ := h
  refine ⟨ao, cap, e, hc, fun h0 => ?_⟩
  obtain ⟨b, o, e1, _, hx⟩ := hr h0
  exact ⟨b, o, e1, hP _ _, hx.zone hP hG⟩
theorem EsIn.keepF {Z : Zone} {w w' : World} (hk : Keeps (fun _ => False) w w') : ∀ {l : EL} {xs : List Value}, EsIn Z w l xs → EsIn Z w' l xs
  | .nil, _, h => h
  | .cons _ _ _ _ _, _, ⟨kv, xs', e, h1, h⟩ => ⟨kv, xs', e, h1.keepF hk, h.keepF hk⟩
theorem EsIn.length {Z : Zone} {w : World} : ∀ {l : EL} {xs : List Value}, EsIn Z w l xs → xs.length = l.len * 4
  | .nil, _, h => by have h' : _ = _ := h; subst h'; rfl
  | .cons _ _ _ _ r, _, ⟨kv, xs', e, _, h⟩ => by have := EsIn.length h; subst e; simp [EL.len, this]; omega
theorem EsIn.exZ {Z : Zone} (hP : ∀ b b', Z.P b b') {w : World} {b : Nat} (hb : b < w.heap.size) (hG : Z.G w false b) : ∀ {l : EL} {xs : List Value} {o : Nat}, EsIn Z w l xs → (∀ j x, xs[j]? = some x → w.cell? ⟨b, o + j, none⟩ = some x) → ExIn Z w l b o
  | .nil, _, _, _, _ => trivial
  | .cons op n s kids r, _, o, ⟨kv, xs', ee, h1, h4⟩, hc => by
    subst ee
    obtain ⟨ao, cap, et, hcap, hr⟩ := h1
    refine ⟨hb, hG, hc 0 _ rfl, hc 1 _ rfl, hc 2 _ rfl, ⟨ao, cap, by rw [← et]; exact hc 3 _ rfl, hcap, fun h0 => ?_⟩, EsIn.exZ hP hb hG h4 (fun j x hx => ?_)⟩
    · obtain ⟨b', o', e, _, hx⟩ := hr h0
      exact ⟨b', o', e, hP _ _, hx⟩
    · rw [show o + 4 + j = o + (j + 4) by omega]
      exact hc (j + 4) x (by simpa using hx)
/-- A block that holds two expressions or more is no box of zeros. -/
theorem no_box {w : World} {b o : Nat} {xs : List Value} (h : 8 ≤ xs.length) (hc : ∀ j x, xs[j]? = some x → w.cell? ⟨b, o + j, none⟩ = some x) : w.heap[b]? ≠ some zBox := fun e => by
  have h1 := hc 7 _ (List.getElem?_eq_getElem (show 7 < xs.length by omega))
  rw [cell_of_blk e (o + 7)] at h1
  have : (#[.int .i64 0, .int .i64 0, .string ⟨#[]⟩, .slice none 0 0] : Array Value)[o + 7]? = none := by simp
  rw [this] at h1
  cases h1
end Go.Proofs.YtijfnlfgehcpaaaGreatDoor
namespace Go.Proofs.YtijfnlfgehcpaaaGreatDoor
open Go.RowKit Go.Maps

set_option maxRecDepth 100000 in
set_option maxHeartbeats 4000000 in
/-- An operation on some expressions, wherever these lie. -/
theorem op_z (Z : Zone) (hP : ∀ b b', Z.P b b') (k : Int) (l : EL) (hls : l.len ≤ 1000) (v : Value) (w : World) (hx : SlE Z w 0 v l) :
    Calls Tryz.prog 26 #[.int .i64 k, v] w fun e w' => ∃ ao c xs, e = .returned (exV k 0 [] (.slice ao l.len c)) ∧ w'.ownsRow (w.heap.size + 1) 27 4 (.slice ao l.len c) l.len xs ∧ EsIn Z w l xs ∧ Keeps (fun _ => False) w w' := by
  obtain ⟨i0, hi, hz0, hz1, hz2⟩ := info_parts Tryz.infoE
  obtain ⟨pao, pcap, pb, poff, rfl, hpcap, hpa, hpx⟩ := hx.open
  obtain ⟨X, hX⟩ : ∃ X, w.alloc (.cells #[.int .i64 0, .int .i64 0, .string ⟨#[]⟩, .slice none 0 0] 27) = X := ⟨_, rfl⟩
  have PK : Keeps (fun _ => False) w X := hX ▸ (Keeps.refl _ w).alloc _
  have P0 : X.heap[w.heap.size]? = some (.cells #[.int .i64 0, .int .i64 0, .string ⟨#[]⟩, .slice none 0 0] 27 (0, 0)) := hX ▸ heap_alloc_new w _
  have hXs : X.heap.size = w.heap.size + 1 := by rw [← hX]; simp
  have HXS1 := hide hXs
  have HPK := hide PK
  have HP0 := hide P0
  have HpX := hide hpx
  have HpA := hide hpa
  clear hx hpx hpa PK P0 hXs
  go_enter Tryz.func26, Tryz.ntmps26
  go_wp2_with fail
  go_loopw [5, 6] (fun o i wr => ∃ (pre rest : EL) (k : Nat) (xs : List Value), i = .int .i64 k ∧ l = pre.app rest ∧ k = pre.len ∧ wr.ownsRow X.heap.size 27 4 o k xs ∧ EsIn Z w pre xs ∧ Keeps (fun _ => False) X wr ∧ ExIn Z w rest pb (poff + k * 4)) (fun _ i _ => l.len - (intOf i).toNat)
  case atStart => exact ⟨.nil, l, 0, [], rfl, rfl, rfl, World.ownsRow_nil X X.heap.size 27 4, rfl, Keeps.refl _ _, by simpa using unhide HpX⟩
  case round =>
    obtain ⟨pre, rest, j, xs, rfl, happ, hkp, hown, hss, hkeep, hr⟩ := hrel
    obtain ⟨oo, oc, rfl⟩ := (rowAt_own hown).form
    have hll := congrArg EL.len happ
    rw [EL.lenApp] at hll
    have HO := hide hown
    have HSS := hide hss
    have HK := hide hkeep
    have HKw := hide ((unhide HPK).trans hkeep)
    cases rest with
    | cons op n s kids rest =>
      obtain ⟨h1, h2, h3, h4, h5, ⟨xao, xcap, h6, h7, h8⟩, h9⟩ := hr
      simp only [EL.len] at hll
      obtain ⟨rfl, hp'⟩ := (unhide HpA) (by omega)
      have HXS : Hid (SlE Z w pb (.slice xao kids.len xcap) kids) := ⟨xao, xcap, rfl, h7, h8⟩
      have HR := hide h9
      have i1 : (j : Int) < (l.len : Int) := by omega
      have ix0 : (0 : Int) ≤ (j : Int) := by omega
      have q0 := ((unhide HKw).cell h1 id).trans h3
      have q1 := ((unhide HKw).cell h1 id).trans h4
      have q2 := ((unhide HKw).cell h1 id).trans h5
      have q3 := ((unhide HKw).cell h1 id).trans h6
      have HNB := hide (heap_alloc_new wr (.cells #[.int .i64 op, .int .i64 n, str s, .slice xao kids.len xcap] 27))
      have HOX := hide (ownsRow_kept hown ((Keeps.refl (fun _ => False) wr).alloc (.cells #[.int .i64 op, .int .i64 n, str s, .slice xao kids.len xcap] 27)) (fun _ _ => id))
      have HB0 : Hid (X.heap.size ≤ wr.heap.size) := hkeep.size
      have HKP := hide hkp
      have HAPP := hide happ
      have hj : j ≤ 1000 := by omega
      clear hown hss hkeep h1 h2 h3 h4 h5 h6 h8 h9 happ hkp
      go_wp2_with (at_builtin; refine wpList_append_lies _ rfl _ _ _ rfl X.heap.size 27 i0 _ 4 56 Tryz.underlying25 hi hz0 hz1 hz2 rfl (by omega) (.slice oo j oc) j xs rfl (unhide HOX) ⟨wr.heap.size, 0, none⟩ 1 1 [.int .i64 op, .int .i64 n, str s, .slice xao kids.len xcap] rfl rfl (World.news_of_block (cs := #[.int .i64 op, .int .i64 n, str s, .slice xao kids.len xcap]) (t := 27) (fr := (0, 0)) (unhide HNB)) (by simp [Value.oneCell']) (by omega) (by unfold maxLen; omega) (by omega) (by have := unhide HB0; simp; omega) (wr.heap.size + 1) (by simp) ?_; intro g6 c6 w6 hown6 hgrow _ _; have HO6 := hide hown6; have HGR := hide hgrow; clear hown6 hgrow)
      go_roundw
      case rel =>
        have kr6 : Keeps (fun q => X.heap.size ≤ q) wr w6 := ((Keeps.refl _ wr).alloc _).grown (unhide HGR) (fun q e _ => ((unhide HO).lt q e).1)
        have kX6 : Keeps (fun q => X.heap.size ≤ q) X w6 := (unhide HK).any.trans kr6
        have s1 := unhide HSS
        have s2 : EsIn Z w (.cons op n s kids .nil) [.int .i64 op, .int .i64 n, str s, .slice xao kids.len xcap] := ⟨_, [], rfl, (unhide HXS).zone hP (fun _ _ q => q), rfl⟩
        refine ⟨pre.app (.cons op n s kids .nil), rest, j + 1, by go_num, by rw [app_oneX]; exact unhide HAPP, by rw [EL.lenApp, unhide HKP]; rfl, _, unhide HO6, s1.app s2, kX6.mono (fun q hq e => by have e' : X.heap.size ≤ q := e; omega), ?_⟩
        rw [show poff + (j + 1) * 4 = poff + j * 4 + 4 by omega]
        exact unhide HR
      case measure => simp [intOf]; omega
    | nil =>
      rw [EL.appNil] at happ
      subst happ
      simp only [EL.len, Nat.add_zero] at hll
      have i1 : ¬ (j : Int) < (l.len : Int) := by omega
      subst hkp
      have HZ := hide ((hkeep.block _ (lt_of_block (unhide HP0)) id).trans (unhide HP0))
      have m0 := (cell_of_blk (unhide HZ) 0).trans rfl
      have m1 := (cell_of_blk (unhide HZ) 1).trans rfl
      have m2 := (cell_of_blk (unhide HZ) 2).trans rfl
      have m3 := (cell_of_blk (unhide HZ) 3).trans rfl
      have g0 := frozen_of_blk (unhide HZ) 0
      have g1 := frozen_of_blk (unhide HZ) 1
      have g2 := frozen_of_blk (unhide HZ) 2
      have g3 := frozen_of_blk (unhide HZ) 3
      have z := set4b (unhide HZ) (.int .i64 k) (.int .i64 0) (.string ⟨#[]⟩) (.slice oo l.len oc)
      have o0 := (cell_of_blk z 0).trans rfl
      have o1 := (cell_of_blk z 1).trans rfl
      have o2 := (cell_of_blk z 2).trans rfl
      have o3 := (cell_of_blk z 3).trans rfl
      have HFIN : Hid (World.ownsRow ((((wr.setCell ⟨w.heap.size, 0, none⟩ (.int .i64 k)).setCell ⟨w.heap.size, 1, none⟩ (.int .i64 0)).setCell ⟨w.heap.size, 2, none⟩ (.string ⟨#[]⟩)).setCell ⟨w.heap.size, 3, none⟩ (.slice oo l.len oc)) (w.heap.size + 1) 27 4 (.slice oo l.len oc) l.len xs) := by
        have kq := keeps_set4 wr w.heap.size (.int .i64 k) (.int .i64 0) (.string ⟨#[]⟩) (.slice oo l.len oc)
        have hlt := (lt_of_block (unhide HP0))
        rw [unhide HXS1] at hown
        exact ownsRow_kept hown kq (fun q e hq => by have := (hown.lt q e).1; omega)
      have HKF : Hid (Keeps (fun _ => False) w ((((wr.setCell ⟨w.heap.size, 0, none⟩ (.int .i64 k)).setCell ⟨w.heap.size, 1, none⟩ (.int .i64 0)).setCell ⟨w.heap.size, 2, none⟩ (.string ⟨#[]⟩)).setCell ⟨w.heap.size, 3, none⟩ (.slice oo l.len oc))) := (unhide HKw).narrow (keeps_set4 _ _ _ _ _ _) (fun q e => by omega)
      clear hown hss hkeep hr hll z
      go_wp2_with fail
      refine bodyPost_ret (v := exV k 0 [] (.slice oo l.len oc)) (by simp [results, go_sem, o0, o1, o2, o3, exV]) rfl ?_
      exact ⟨oo, oc, rfl, xs, unhide HFIN, unhide HSS, unhide HKF⟩

/-- A value that is this expression, in no box of zeros. -/
def isEz (N : Nat) (w : World) (v : Value) (e : XE) : Prop := ∃ kv, v = exV e.op e.n e.s kv ∧ SlE (boxZ N) w 0 kv e.kids
def isLz (N : Nat) (w : World) (v : Value) (l : EL) : Prop := SlE (boxZ N) w 0 v l
/-- A box of zeros from N on. -/
def isBz (N : Nat) (w : World) (v : Value) : Prop := ∃ g, v = .pointer (some ⟨g, 0, none⟩) ∧ N ≤ g ∧ w.heap[g]? = some zBox
theorem isEz.keep {N : Nat} {w w' : World} {v : Value} {e : XE} (h : isEz N w v e) (hk : Keeps (fun _ => False) w w') : isEz N w' v e := by
  obtain ⟨kv, e1, h1⟩ := h
  exact ⟨kv, e1, h1.keepF hk⟩
theorem isLz.keep {N : Nat} {w w' : World} {v : Value} {l : EL} (h : isLz N w v l) (hk : Keeps (fun _ => False) w w') : isLz N w' v l := SlE.keepF h hk
theorem isBz.keep {N : Nat} {w w' : World} {v : Value} (h : isBz N w v) (hk : Keeps (fun _ => False) w w') : isBz N w' v := by
  obtain ⟨g, e, hN, hg⟩ := h
  exact ⟨g, e, hN, (hk.block _ (lt_of_block hg) id).trans hg⟩
section
variable {Q : Exit → Act → World → Prop} {K : Act → World → Prop} {o : Oper} {a : Act} {w X : World}
theorem step_load27z {N t g : Nat} {e : XE} {kv : Value} {B : Nat} {w1 : World} (ho : o.op = .load 27 (.tmp t)) (ht : a.tmps.getD t undef = .pointer (some ⟨g, 0, none⟩)) (hg : w.heap[g]? = some (.cells #[.int .i64 e.op, .int .i64 e.n, str e.s, kv] 27 (0, 0)))
    (hs : SlE (argZ B) w1 0 kv e.kids) (hB : B ≤ N) (hw : Keeps (fun _ => False) w1 w) (hk : ∀ v', isEz N w v' e → K (a.put o.dst v') w) : Oper.wp Tryz.prog o a w K Q :=
  wp_load_row 27 (.tmp t) ho g ht 27 _ (0, 0) _ hg Tryz.underlying27 rfl (by kernel_rfl) (hk _ ⟨kv, rfl, (hs.keepF hw).zone (fun _ _ => trivial) (fun k _ (q : k < B) => Or.inl (Nat.lt_of_lt_of_le q hB))⟩)
set_option maxRecDepth 100000 in
theorem step_slice2z {N t t2 : Nat} {x y : XE} {v v2 : Value} (ho : o.op = .buildSlice 25 2 #[(0, .tmp t), (1, .tmp t2)]) (ht0 : a.tmps.getD t undef = v) (ht1 : a.tmps.getD t2 undef = v2) (hx : isEz N w v x) (hy : isEz N w v2 y)
    (hk : ∀ v' w', isLz N w' v' (x.el (y.el .nil)) → Keeps (fun _ => False) w w' → K (a.put o.dst v') w') : Oper.wp Tryz.prog o a w K Q := by
  obtain ⟨xv, rfl, hx⟩ := hx
  obtain ⟨xo, xc, rfl, _⟩ := hx.head
  obtain ⟨yv, rfl, hy⟩ := hy
  obtain ⟨yo, yc, rfl, _⟩ := hy.head
  have he0 := slot_of ht0
  have he1 := slot_of ht1
  have hl : isLz N (w.alloc (.cells [.int .i64 x.op, .int .i64 x.n, str x.s, .slice xo x.kids.len xc, .int .i64 y.op, .int .i64 y.n, str y.s, .slice yo y.kids.len yc].toArray 27)) (.slice (some ⟨w.heap.size, 0, none⟩) 2 2) (x.el (y.el .nil)) := by
    have hE : EsIn (boxZ N) w (x.el (y.el .nil)) [.int .i64 x.op, .int .i64 x.n, str x.s, .slice xo x.kids.len xc, .int .i64 y.op, .int .i64 y.n, str y.s, .slice yo y.kids.len yc] := ⟨_, _, rfl, hx, ⟨_, _, rfl, hy, rfl⟩⟩
    obtain ⟨HB, hxb, hxc⟩ := boxed w [.int .i64 x.op, .int .i64 x.n, str x.s, .slice xo x.kids.len xc, .int .i64 y.op, .int .i64 y.n, str y.s, .slice yo y.kids.len yc].toArray 27
    have hcc : ∀ j z, ([.int .i64 x.op, .int .i64 x.n, str x.s, .slice xo x.kids.len xc, .int .i64 y.op, .int .i64 y.n, str y.s, .slice yo y.kids.len yc] : List Value)[j]? = some z → (w.alloc (.cells [.int .i64 x.op, .int .i64 x.n, str x.s, .slice xo x.kids.len xc, .int .i64 y.op, .int .i64 y.n, str y.s, .slice yo y.kids.len yc].toArray 27)).cell? ⟨w.heap.size, 0 + j, none⟩ = some z := fun j z hz => by
      rw [Nat.zero_add]
      exact hxc j z (by simpa using hz)
    exact ⟨_, _, rfl, Nat.le_refl _, fun _ => ⟨w.heap.size, 0, rfl, trivial, (hE.keepF (unhide HB)).exZ (fun _ _ => trivial) hxb (Or.inr (no_box (by simp) hcc)) hcc⟩⟩
  unfold Oper.wp
  simp [execOp, ho, he0, he1, go_sem, exV]
  exact hk _ _ hl (kAlloc w _)
theorem step_call26z {N t : Nat} {k : Int} {l : EL} {v : Value} (ho : o.op = .call { callee := .value (.func 26), args := #[.const (.int .i64 k), .tmp t], argTypes := #[3, 25] }) (ht : a.tmps.getD t undef = v) (hl : isLz N w v l) (hn : l.len ≤ 1000) (h2 : 2 ≤ l.len)
    (hk : ∀ v' w', isEz N w' v' ⟨k, 0, [], l⟩ → Keeps (fun _ => False) w w' → K (a.put o.dst v') w') : Oper.wp Tryz.prog o a w K Q := by
  obtain ⟨ao, cap, rfl, _⟩ := SlE.head hl
  have he := slot_of ht
  unfold Oper.wp
  simp [execOp, ho, he, go_sem]
  refine (op_z (boxZ N) (fun _ _ => trivial) k l hn _ w hl).mono ?_
  rintro e w' ⟨ao', c', xs, rfl, h1, h3, h4⟩
  refine hk _ _ ⟨_, rfl, ao', c', rfl, (rowAt_own h1).room _ _ _ rfl, fun h0 => ?_⟩ h4
  obtain ⟨g, goff, gc, e, hg, hgc⟩ := (rowAt_own h1).cells (by omega)
  simp at e
  obtain ⟨rfl, rfl⟩ := e
  have := h3.length
  exact ⟨g, goff, rfl, trivial, (h3.keepF h4).exZ (fun _ _ => trivial) hg (Or.inr (no_box (by omega) hgc)) hgc⟩
theorem step_alloc27 {N : Nat} (ho : o.op = .alloc 27) (hN : N ≤ w.heap.size)
    (hk : ∀ v' w', isBz N w' v' → Keeps (fun _ => False) w w' → K (a.put o.dst v') w') : Oper.wp Tryz.prog o a w K Q := by
  unfold Oper.wp
  simp [execOp, ho, go_sem]
  exact hk _ _ ⟨w.heap.size, rfl, hN, heap_alloc_new w _⟩ (kAlloc w _)
/-- The store of an expression into a box of zeros. -/
theorem step_store27z {N t s : Nat} {e : XE} {vb ve : Value} (ho : o.op = .store 27 (.tmp t) (.tmp s)) (hd : o.dst = none) (hb : a.tmps.getD t undef = vb) (hv : a.tmps.getD s undef = ve) (hB : isBz N w vb) (hE : isEz N w ve e) (hX : X.heap.size = N) (hk0 : Keeps (fun _ => False) X w)
    (hk : ∀ g kv w', vb = .pointer (some ⟨g, 0, none⟩) → w'.heap[g]? = some (.cells #[.int .i64 e.op, .int .i64 e.n, str e.s, kv] 27 (0, 0)) → SlE (argZ w'.heap.size) w' 0 kv e.kids → Keeps (fun _ => False) X w' → K a w') : Oper.wp Tryz.prog o a w K Q := by
  obtain ⟨g, rfl, hN, hg⟩ := hB
  obtain ⟨kv, rfl, hkv⟩ := hE
  obtain ⟨ko, kc, rfl, _⟩ := hkv.head
  refine wp_store_row 27 (.tmp t) (.tmp s) ho g #[.int .i64 e.op, .int .i64 e.n, str e.s, .slice ko e.kids.len kc] hb hv 27 _ hg (by kernel_rfl) rfl (by simp [Value.oneCell']) ?_
  rw [hd]
  have hks : Keeps (fun q => q = g) w (w.setRow g #[.int .i64 e.op, .int .i64 e.n, str e.s, .slice ko e.kids.len kc]) := ⟨rfl, rfl, rfl, by simp, fun k hk1 hk2 => setRow_other w g k _ hk2⟩
  refine hk g _ _ rfl (setRow_heap w g _ _ 27 (0, 0) hg) ?_ (hk0.narrow hks (fun q e => by omega))
  have h2 : SlE (boxZ N) (w.setRow g #[.int .i64 e.op, .int .i64 e.n, str e.s, .slice ko e.kids.len kc]) 0 (.slice ko e.kids.len kc) e.kids := by
    refine SlE.keep (Q := fun _ => True) (fun _ _ _ _ => trivial) hks (fun s k _ hk1 hG => ?_) trivial hkv
    have hne : k ≠ g := fun e => by
      subst e
      rcases hG with q | q
      · omega
      · exact q hg
    refine ⟨hne, hG.imp id (fun q => ?_)⟩
    rw [setRow_other w g k _ hne]
    exact q
  exact h2.argUp (Nat.le_refl _) 0
end
end Go.Proofs.YtijfnlfgehcpaaaGreatDoor
