import Derived.Test.YtiinohibmcefkaaGreatDoorJbc
namespace Go.Proofs.YtiinohibmcefkaaGreatDoor
open Go.RowKit Go.Maps

section
variable {Q : Exit → Act → World → Prop} {K : Act → World → Prop} {o : Oper} {a : Act} {w : World}
theorem step_fieldE0 {t b off : Nat} (ho : o.op = .fieldAddr 27 (.tmp t) 0) (ht : a.tmps.getD t undef = .pointer (some ⟨b, off, none⟩)) (hk : K (a.put o.dst (.pointer (some ⟨b, off, none⟩))) w) : Oper.wp Tryz.prog o a w K Q := by
  have he := slot_of ht
  unfold Oper.wp
  simp [execOp, ho, he, go_sem]
  exact hk
theorem step_fieldE1 {t b off : Nat} (ho : o.op = .fieldAddr 27 (.tmp t) 1) (ht : a.tmps.getD t undef = .pointer (some ⟨b, off, none⟩)) (hk : K (a.put o.dst (.pointer (some ⟨b, off + 1, none⟩))) w) : Oper.wp Tryz.prog o a w K Q := by
  have he := slot_of ht
  unfold Oper.wp
  simp [execOp, ho, he, go_sem]
  exact hk
theorem step_fieldE2 {t b off : Nat} (ho : o.op = .fieldAddr 27 (.tmp t) 2) (ht : a.tmps.getD t undef = .pointer (some ⟨b, off, none⟩)) (hk : K (a.put o.dst (.pointer (some ⟨b, off + 2, none⟩))) w) : Oper.wp Tryz.prog o a w K Q := by
  have he := slot_of ht
  unfold Oper.wp
  simp [execOp, ho, he, go_sem]
  exact hk
theorem step_fieldE3 {t b off : Nat} (ho : o.op = .fieldAddr 27 (.tmp t) 3) (ht : a.tmps.getD t undef = .pointer (some ⟨b, off, none⟩)) (hk : K (a.put o.dst (.pointer (some ⟨b, off + 3, none⟩))) w) : Oper.wp Tryz.prog o a w K Q := by
  have he := slot_of ht
  unfold Oper.wp
  simp [execOp, ho, he, go_sem]
  exact hk
theorem step_load25 {t b off : Nat} {v : Value} (ho : o.op = .load 25 (.tmp t)) (ht : a.tmps.getD t undef = .pointer (some ⟨b, off, none⟩)) (hc : w.cell? ⟨b, off, none⟩ = some v) (hk : K (a.put o.dst v) w) : Oper.wp Tryz.prog o a w K Q := by
  have he := slot_of ht
  unfold Oper.wp
  simp [execOp, ho, he, go_sem, hc]
  exact hk
theorem step_load3 {t b off : Nat} {v : Value} (ho : o.op = .load 3 (.tmp t)) (ht : a.tmps.getD t undef = .pointer (some ⟨b, off, none⟩)) (hc : w.cell? ⟨b, off, none⟩ = some v) (hk : K (a.put o.dst v) w) : Oper.wp Tryz.prog o a w K Q := by
  have he := slot_of ht
  unfold Oper.wp
  simp [execOp, ho, he, go_sem, hc]
  exact hk
set_option maxRecDepth 100000 in
theorem step_indexE {t u kb ko n cap j : Nat} (ho : o.op = .indexAddr 25 (.tmp t) (.tmp u)) (ht : a.tmps.getD t undef = .slice (some ⟨kb, ko, none⟩) n cap) (hu : a.tmps.getD u undef = .int .i64 (j : Int)) (hj : j < n) (hk : K (a.put o.dst (.pointer (some ⟨kb, ko + j * 4, none⟩))) w) : Oper.wp Tryz.prog o a w K Q := by
  have he := slot_of ht
  have he2 := slot_of hu
  have h1 : (j : Int) < (n : Int) := by omega
  have h0 : (0 : Int) ≤ (j : Int) := by omega
  unfold Oper.wp
  simp [execOp, ho, he, he2, go_sem, h1, h0]
  exact hk
theorem step_loadE {t b off : Nat} {v0 v1 v2 v3 : Value} (ho : o.op = .load 27 (.tmp t)) (ht : a.tmps.getD t undef = .pointer (some ⟨b, off, none⟩)) (h0 : w.cell? ⟨b, off, none⟩ = some v0) (h1 : w.cell? ⟨b, off + 1, none⟩ = some v1) (h2 : w.cell? ⟨b, off + 2, none⟩ = some v2) (h3 : w.cell? ⟨b, off + 3, none⟩ = some v3) (hk : K (a.put o.dst (.agg #[v0, v1, v2, v3])) w) : Oper.wp Tryz.prog o a w K Q := by
  have he := slot_of ht
  unfold Oper.wp
  simp [execOp, ho, he, go_sem, h0, h1, h2, h3]
  exact hk
/-- A box of a value, all zero, from N on. -/
def isB41 (N : Nat) (w : World) (v : Value) : Prop := ∃ g, v = .pointer (some ⟨g, 0, none⟩) ∧ N ≤ g ∧ w.heap[g]? = some (.cells #[.int .i64 0, .int .i64 0, .string ⟨#[]⟩] 41 (0, 0))
theorem isB41.keep {N : Nat} {w w' : World} {v : Value} (h : isB41 N w v) (hk : Keeps (fun _ => False) w w') : isB41 N w' v := by
  obtain ⟨g, e, hN, hg⟩ := h
  exact ⟨g, e, hN, (hk.block _ (lt_of_block hg) id).trans hg⟩
theorem step_alloc41 {N : Nat} (ho : o.op = .alloc 41) (hN : N ≤ w.heap.size) (hk : ∀ v' w', isB41 N w' v' → Keeps (fun _ => False) w w' → K (a.put o.dst v') w') : Oper.wp Tryz.prog o a w K Q := by
  unfold Oper.wp
  simp [execOp, ho, go_sem]
  exact hk _ _ ⟨w.heap.size, rfl, hN, heap_alloc_new w _⟩ (kAlloc w _)
/-- A value stored into a box of zeros. -/
theorem step_store41 {N t s : Nat} {x : ValA} {vb : Value} {X : World} (ho : o.op = .store 41 (.tmp t) (.tmp s)) (hd : o.dst = none) (hb : a.tmps.getD t undef = vb) (hv : a.tmps.getD s undef = x.v) (hB : isB41 N w vb) (hX : X.heap.size = N) (hk0 : Keeps (fun _ => False) X w)
    (hk : ∀ g w', vb = .pointer (some ⟨g, 0, none⟩) → N ≤ g → w'.heap[g]? = some (.cells #[.int .i64 x.kind, .int .i64 x.n, str x.s] 41 (0, 0)) → Keeps (fun _ => False) X w' → K a w') : Oper.wp Tryz.prog o a w K Q := by
  obtain ⟨g, rfl, hN, hg⟩ := hB
  refine wp_store_row 41 (.tmp t) (.tmp s) ho g #[.int .i64 x.kind, .int .i64 x.n, str x.s] hb hv 41 _ hg (by kernel_rfl) rfl (by simp [Value.oneCell']) ?_
  rw [hd]
  exact hk g _ rfl hN (setRow_heap w g _ _ 41 (0, 0) hg) (hk0.narrow (keeps_row w g _) (fun q e => by omega))
end

end Go.Proofs.YtiinohibmcefkaaGreatDoor
