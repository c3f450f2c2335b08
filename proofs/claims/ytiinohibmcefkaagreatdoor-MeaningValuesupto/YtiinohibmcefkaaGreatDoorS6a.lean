import Derived.Test.YtiinohibmcefkaaGreatDoorS5
import Derived.Test.YtiinohibmcefkaaGreatDoorJba
namespace Go.Proofs.YtiinohibmcefkaaGreatDoor
open Go.RowKit Go.Maps

section
variable {Q : Exit → Act → World → Prop} {K : Act → World → Prop} {o : Oper} {a : Act} {w : World}
theorem step_nil {t b off : Nat} (ho : o.op = .nilCheck (.tmp t)) (ht : a.tmps.getD t undef = .pointer (some ⟨b, off, none⟩)) (hk : K (a.put o.dst (.pointer (some ⟨b, off, none⟩))) w) : Oper.wp Tryz.prog o a w K Q := by
  have he := slot_of ht
  unfold Oper.wp
  simp [execOp, ho, he, go_sem]
  exact hk
theorem step_fieldG0 {t b off : Nat} (ho : o.op = .fieldAddr 63 (.tmp t) 0) (ht : a.tmps.getD t undef = .pointer (some ⟨b, off, none⟩)) (hk : K (a.put o.dst (.pointer (some ⟨b, off, none⟩))) w) : Oper.wp Tryz.prog o a w K Q := by
  have he := slot_of ht
  unfold Oper.wp
  simp [execOp, ho, he, go_sem]
  exact hk
theorem step_fieldG1 {t b off : Nat} (ho : o.op = .fieldAddr 63 (.tmp t) 1) (ht : a.tmps.getD t undef = .pointer (some ⟨b, off, none⟩)) (hk : K (a.put o.dst (.pointer (some ⟨b, off + 1, none⟩))) w) : Oper.wp Tryz.prog o a w K Q := by
  have he := slot_of ht
  unfold Oper.wp
  simp [execOp, ho, he, go_sem]
  exact hk
theorem step_fieldG3 {t b off : Nat} (ho : o.op = .fieldAddr 63 (.tmp t) 3) (ht : a.tmps.getD t undef = .pointer (some ⟨b, off, none⟩)) (hk : K (a.put o.dst (.pointer (some ⟨b, off + 3, none⟩))) w) : Oper.wp Tryz.prog o a w K Q := by
  have he := slot_of ht
  unfold Oper.wp
  simp [execOp, ho, he, go_sem]
  exact hk
theorem step_load24c {t b off : Nat} {v : Value} (ho : o.op = .load 24 (.tmp t)) (ht : a.tmps.getD t undef = .pointer (some ⟨b, off, none⟩)) (hc : w.cell? ⟨b, off, none⟩ = some v) (hk : K (a.put o.dst (.agg #[v])) w) : Oper.wp Tryz.prog o a w K Q := by
  have he := slot_of ht
  unfold Oper.wp
  simp [execOp, ho, he, go_sem, hc]
  exact hk
theorem step_load31c {t b off : Nat} {v v2 : Value} (ho : o.op = .load 31 (.tmp t)) (ht : a.tmps.getD t undef = .pointer (some ⟨b, off, none⟩)) (hc : w.cell? ⟨b, off, none⟩ = some v) (hc2 : w.cell? ⟨b, off + 1, none⟩ = some v2) (hk : K (a.put o.dst (.agg #[v, v2])) w) : Oper.wp Tryz.prog o a w K Q := by
  have he := slot_of ht
  unfold Oper.wp
  simp [execOp, ho, he, go_sem, hc, hc2]
  exact hk
set_option maxRecDepth 100000 in
theorem step_indexE0 {t kb ko n cap : Nat} (ho : o.op = .indexAddr 25 (.tmp t) (.const (.int .i64 0))) (ht : a.tmps.getD t undef = .slice (some ⟨kb, ko, none⟩) n cap) (hj : 0 < n) (hk : K (a.put o.dst (.pointer (some ⟨kb, ko, none⟩))) w) : Oper.wp Tryz.prog o a w K Q := by
  have he := slot_of ht
  unfold Oper.wp
  simp [execOp, ho, he, go_sem, hj]
  exact hk
set_option maxRecDepth 100000 in
theorem step_c13 {t u q : Nat} {v v2 v3 r : Value} (ho : o.op = .call { callee := .value (.func 13), args := #[.tmp t, .tmp u, .tmp q], argTypes := #[24, 27, 31] }) (ht : a.tmps.getD t undef = v) (hu : a.tmps.getD u undef = v2) (hq : a.tmps.getD q undef = v3) (hc : Calls Tryz.prog 13 #[v, v2, v3] w fun e w' => e = .returned r ∧ Keeps (fun _ => False) w w')
    (hk : ∀ w', Keeps (fun _ => False) w w' → K (a.put o.dst r) w') : Oper.wp Tryz.prog o a w K Q := by
  have e1 := slot_of ht
  have e2 := slot_of hu
  have e3 := slot_of hq
  unfold Oper.wp
  simp [execOp, ho, e1, e2, e3, go_sem]
  refine hc.mono ?_
  rintro e w' ⟨rfl, h⟩
  exact hk _ h
theorem step_ext0 {t : Nat} {v v2 : Value} (ho : o.op = .extract (.tmp t) 0) (ht : a.tmps.getD t undef = .tuple #[v, v2]) (hk : K (a.put o.dst v) w) : Oper.wp Tryz.prog o a w K Q := by
  have he := slot_of ht
  unfold Oper.wp
  simp [execOp, ho, he, go_sem]
  exact hk
theorem step_ext1 {t : Nat} {v v2 : Value} (ho : o.op = .extract (.tmp t) 1) (ht : a.tmps.getD t undef = .tuple #[v, v2]) (hk : K (a.put o.dst v2) w) : Oper.wp Tryz.prog o a w K Q := by
  have he := slot_of ht
  unfold Oper.wp
  simp [execOp, ho, he, go_sem]
  exact hk
end

end Go.Proofs.YtiinohibmcefkaaGreatDoor
