import Derived.Test.YtijfnlfgehcpaaaGreatDoorIb
import Derived.Laws.Rows
namespace Go.Proofs.YtijfnlfgehcpaaaGreatDoor
open Go.RowKit Go.Maps

/-- A value that is this expression. -/
def isE (w : World) (v : Value) (e : XE) : Prop := ∃ kv, v = exV e.op e.n e.s kv ∧ SlE (argZ w.heap.size) w 0 kv e.kids
/-- A slice of these expressions. -/
def isL (w : World) (v : Value) (l : EL) : Prop := SlE (argZ w.heap.size) w 0 v l
theorem sl_top {B : Nat} {w w' : World} {v : Value} {l : EL} (h : SlE (argZ B) w 0 v l) (hk : Keeps (fun _ => False) w w') : SlE (argZ w'.heap.size) w' 0 v l := (h.keepF hk).argUp (Nat.le_refl _) 0
theorem isE.keep {w w' : World} {v : Value} {e : XE} (h : isE w v e) (hk : Keeps (fun _ => False) w w') : isE w' v e := by
  obtain ⟨kv, e1, h1⟩ := h
  exact ⟨kv, e1, sl_top h1 hk⟩
theorem isL.keep {w w' : World} {v : Value} {l : EL} (h : isL w v l) (hk : Keeps (fun _ => False) w w') : isL w' v l := sl_top h hk
theorem isL_new {w : World} {l : EL} {xs : List Value} (h : EsIn (argZ w.heap.size) w l xs) : isL (w.alloc (.cells xs.toArray 27)) (.slice (some ⟨w.heap.size, 0, none⟩) l.len l.len) l := by
  obtain ⟨HB, hxb, hxc⟩ := boxed w xs.toArray 27
  have h2 := h.argKeep (unhide HB) (fun _ q => q.elim)
  refine ⟨_, _, rfl, Nat.le_refl _, fun _ => ⟨w.heap.size, 0, rfl, trivial, h2.exIn hxb (Nat.le_refl _) (fun j x hx => ?_)⟩⟩
  rw [Nat.zero_add]
  exact hxc j x (by simpa using hx)
section
variable {Q : Exit → Act → World → Prop} {K : Act → World → Prop} {o : Oper} {a : Act} {w : World}
theorem slot_of {a : Act} {t : Nat} {v : Value} (h : a.tmps.getD t undef = v) : a.tmps[t]?.getD undef = v := by rw [← Array.getD_eq_getD_getElem?]; exact h
theorem step_assign {t : Nat} {v : Value} (ho : o.op = .assign (.tmp t)) (ht : a.tmps.getD t undef = v) (hk : K (a.put o.dst v) w) : Oper.wp Tryz.prog o a w K Q := by
  have he : a.eval (.tmp t) = v := ht
  unfold Oper.wp
  simp only [execOp, ho, he]
  exact hk
theorem step_call26 {t : Nat} {k : Int} {l : EL} {v : Value} (ho : o.op = .call { callee := .value (.func 26), args := #[.const (.int .i64 k), .tmp t], argTypes := #[3, 25] }) (ht : a.tmps.getD t undef = v) (hl : isL w v l) (hn : l.len ≤ 1000)
    (hk : ∀ v' w', isE w' v' ⟨k, 0, [], l⟩ → Keeps (fun _ => False) w w' → K (a.put o.dst v') w') : Oper.wp Tryz.prog o a w K Q := by
  obtain ⟨ao, cap, rfl, _⟩ := SlE.head hl
  have he := slot_of ht
  unfold Oper.wp
  simp [execOp, ho, he, go_sem]
  refine (op_v w.heap.size k l hn _ w (Nat.le_refl _) hl).mono ?_
  rintro e w' ⟨ao', c', rfl, h1, h2⟩
  exact hk _ _ ⟨_, rfl, h1⟩ h2
theorem step_call25 {S : List FieldA} {h : Bool} {vals : List ValA} {x y : XE} {t1 t2 t3 t4 : Nat} {sv u v1 v2 : Value} (ho : o.op = .call { callee := .value (.func 25), args := #[.tmp t1, .tmp t2, .tmp t3, .tmp t4], argTypes := #[24, 31, 27, 27] })
    (h1 : a.tmps.getD t1 undef = .agg #[sv]) (h2 : a.tmps.getD t2 undef = .agg #[.bool h, u]) (h3 : a.tmps.getD t3 undef = v1) (h4 : a.tmps.getD t4 undef = v2) (hT : Types w) (hF : Forms w) (hf : FldsAt w sv S) (hu : ValsAt w u vals) (hx : isE w v1 x) (hy : isE w v2 y)
    (hz : x.kids.size + 1 ≤ 4294967294) (hz2 : y.kids.size + 1 ≤ 4294967294) (hA : Alike S h vals x y) (hk : ∀ w', Keeps (fun _ => False) w w' → K (a.put o.dst (.bool true)) w') : Oper.wp Tryz.prog o a w K Q := by
  obtain ⟨xv, rfl, hx⟩ := hx
  obtain ⟨yv, rfl, hy⟩ := hy
  have e1 := slot_of h1
  have e2 := slot_of h2
  have e3 := slot_of h3
  have e4 := slot_of h4
  unfold Oper.wp
  simp [execOp, ho, e1, e2, e3, e4, go_sem]
  refine (same_v (argZ w.heap.size) (argZ w.heap.size) S h vals x.op x.n y.op y.n x.s y.s x.kids y.kids hz hz2 sv u xv yv w 0 0 hT hF hf hu hx hy hA).mono ?_
  rintro e w' ⟨rfl, h2⟩
  exact hk _ h2
set_option maxRecDepth 100000 in
theorem step_slice1 {t : Nat} {x : XE} {v : Value} (ho : o.op = .buildSlice 25 1 #[(0, .tmp t)]) (ht0 : a.tmps.getD t undef = v) (hx : isE w v x)
    (hk : ∀ v' w', isL w' v' (x.el .nil) → Keeps (fun _ => False) w w' → K (a.put o.dst v') w') : Oper.wp Tryz.prog o a w K Q := by
  obtain ⟨xv, rfl, hx⟩ := hx
  obtain ⟨xo, xc, rfl, _⟩ := hx.head
  have he0 := slot_of ht0
  have hl := isL_new (w := w) (l := x.el .nil) (xs := [.int .i64 x.op, .int .i64 x.n, str x.s, .slice xo x.kids.len xc]) ⟨_, _, rfl, hx, rfl⟩
  unfold Oper.wp
  simp [execOp, ho, he0, go_sem, exV]
  exact hk _ _ hl (kAlloc w _)
set_option maxRecDepth 100000 in
theorem step_slice2 {t t2 : Nat} {x y : XE} {v v2 : Value} (ho : o.op = .buildSlice 25 2 #[(0, .tmp t), (1, .tmp t2)]) (ht0 : a.tmps.getD t undef = v) (ht1 : a.tmps.getD t2 undef = v2) (hx : isE w v x) (hy : isE w v2 y)
    (hk : ∀ v' w', isL w' v' (x.el (y.el .nil)) → Keeps (fun _ => False) w w' → K (a.put o.dst v') w') : Oper.wp Tryz.prog o a w K Q := by
  obtain ⟨xv, rfl, hx⟩ := hx
  obtain ⟨xo, xc, rfl, _⟩ := hx.head
  obtain ⟨yv, rfl, hy⟩ := hy
  obtain ⟨yo, yc, rfl, _⟩ := hy.head
  have he0 := slot_of ht0
  have he1 := slot_of ht1
  have hl := isL_new (w := w) (l := x.el (y.el .nil)) (xs := [.int .i64 x.op, .int .i64 x.n, str x.s, .slice xo x.kids.len xc, .int .i64 y.op, .int .i64 y.n, str y.s, .slice yo y.kids.len yc]) ⟨_, _, rfl, hx, ⟨_, _, rfl, hy, rfl⟩⟩
  unfold Oper.wp
  simp [execOp, ho, he0, he1, go_sem, exV]
  exact hk _ _ hl (kAlloc w _)
theorem step_load24 {t g : Nat} {x : Value} (ho : o.op = .load 24 (.tmp t)) (ht : a.tmps.getD t undef = .pointer (some ⟨g, 0, none⟩)) (hg : w.heap[g]? = some (.cells #[x] 24 (0, 0))) (hk : K (a.put o.dst (.agg #[x])) w) : Oper.wp Tryz.prog o a w K Q :=
  wp_load_row 24 (.tmp t) ho g ht 24 #[x] (0, 0) _ hg Tryz.underlying24 rfl (by kernel_rfl) hk
theorem step_load31 {t g : Nat} {x y : Value} (ho : o.op = .load 31 (.tmp t)) (ht : a.tmps.getD t undef = .pointer (some ⟨g, 0, none⟩)) (hg : w.heap[g]? = some (.cells #[x, y] 31 (0, 0))) (hk : K (a.put o.dst (.agg #[x, y])) w) : Oper.wp Tryz.prog o a w K Q :=
  wp_load_row 31 (.tmp t) ho g ht 31 #[x, y] (0, 0) _ hg Tryz.underlying31 rfl (by kernel_rfl) hk
theorem step_load27 {t g : Nat} {e : XE} {kv : Value} {B : Nat} {w1 : World} (ho : o.op = .load 27 (.tmp t)) (ht : a.tmps.getD t undef = .pointer (some ⟨g, 0, none⟩)) (hg : w.heap[g]? = some (.cells #[.int .i64 e.op, .int .i64 e.n, str e.s, kv] 27 (0, 0)))
    (hs : SlE (argZ B) w1 0 kv e.kids) (hw : Keeps (fun _ => False) w1 w) (hk : ∀ v', isE w v' e → K (a.put o.dst v') w) : Oper.wp Tryz.prog o a w K Q :=
  wp_load_row 27 (.tmp t) ho g ht 27 _ (0, 0) _ hg Tryz.underlying27 rfl (by kernel_rfl) (hk _ ⟨kv, rfl, sl_top hs hw⟩)
end
end Go.Proofs.YtijfnlfgehcpaaaGreatDoor
