import Derived.Test.YtiinohibmcefkaaGreatDoorS3
import Derived.Test.YtiinohibmcefkaaGreatDoorJzag
import Derived.Deep.DeepCutAuto
namespace Go.Proofs.YtiinohibmcefkaaGreatDoor
open Go.RowKit Go.Maps

/-- What 'given' laid: twins of a schema, of expressions and of a row. -/
structure GivE (w : World) (p : Nat) (S : List FieldA) (l : EL) (h : Bool) (vals : List ValA) (gs ks ge ke gr kr : Nat) : Prop where
  blk : w.heap[p]? = some (.cells #[.slice (some ⟨gs, 0, none⟩) S.length ks, .slice (some ⟨ge, 0, none⟩) l.len ke, .slice none 0 0, .bool h, .slice (some ⟨gr, 0, none⟩) vals.length kr] 63 (0, 0))
  s : Wide w (.slice (some ⟨gs, 0, none⟩) S.length ks) 3 S.length (fcs S) markF
  e : WdSl (fun _ => True) w (.slice (some ⟨ge, 0, none⟩) l.len ke) l
  r : Wide w (.slice (some ⟨gr, 0, none⟩) vals.length kr) 3 vals.length (vcs vals) markV
theorem GivE.keepF {w w' : World} {p : Nat} {S : List FieldA} {l : EL} {h : Bool} {vals : List ValA} {gs ks ge ke gr kr : Nat} (H : GivE w p S l h vals gs ks ge ke gr kr) (hk : Keeps (fun _ => False) w w') : GivE w' p S l h vals gs ks ge ke gr kr :=
  ⟨(hk.block _ (lt_of_block H.blk) id).trans H.blk, H.s.keepF hk, H.e.keepF hk, H.r.keepF hk⟩
section
variable {Q : Exit → Act → World → Prop} {K : Act → World → Prop} {o : Oper} {a : Act} {w : World}
set_option maxRecDepth 100000 in
theorem step_c49 {t : Nat} {v : Value} {S : List FieldA} (ho : o.op = .call { callee := .value (.func 49), args := #[.tmp t], argTypes := #[24] }) (ht : a.tmps.getD t undef = v) (hc : Calls Tryz.prog 49 #[v] w fun e w' => ∃ g cap, e = .returned (.agg #[.slice (some ⟨g, 0, none⟩) S.length cap]) ∧ w.heap.size ≤ g ∧ Wide w' (.slice (some ⟨g, 0, none⟩) S.length cap) 3 S.length (fcs S) markF ∧ Keeps (fun _ => False) w w')
    (hk : ∀ g cap w', Wide w' (.slice (some ⟨g, 0, none⟩) S.length cap) 3 S.length (fcs S) markF → Keeps (fun _ => False) w w' → K (a.put o.dst (.agg #[.slice (some ⟨g, 0, none⟩) S.length cap])) w') : Oper.wp Tryz.prog o a w K Q := by
  have he := slot_of ht
  unfold Oper.wp
  simp [execOp, ho, he, go_sem]
  refine hc.mono ?_
  rintro e w' ⟨g, cap, rfl, _, h1, h2⟩
  exact hk _ _ _ h1 h2
set_option maxRecDepth 100000 in
theorem step_c51 {t : Nat} {v : Value} {h : Bool} {l : List ValA} (ho : o.op = .call { callee := .value (.func 51), args := #[.tmp t], argTypes := #[31] }) (ht : a.tmps.getD t undef = v) (hc : Calls Tryz.prog 51 #[v] w fun e w' => ∃ g cap, e = .returned (.agg #[.bool h, .slice (some ⟨g, 0, none⟩) l.length cap]) ∧ w.heap.size ≤ g ∧ Wide w' (.slice (some ⟨g, 0, none⟩) l.length cap) 3 l.length (vcs l) markV ∧ Keeps (fun _ => False) w w')
    (hk : ∀ g cap w', Wide w' (.slice (some ⟨g, 0, none⟩) l.length cap) 3 l.length (vcs l) markV → Keeps (fun _ => False) w w' → K (a.put o.dst (.agg #[.bool h, .slice (some ⟨g, 0, none⟩) l.length cap])) w') : Oper.wp Tryz.prog o a w K Q := by
  have he := slot_of ht
  unfold Oper.wp
  simp [execOp, ho, he, go_sem]
  refine hc.mono ?_
  rintro e w' ⟨g, cap, rfl, _, h1, h2⟩
  exact hk _ _ _ h1 h2
set_option maxRecDepth 100000 in
theorem step_build63 {t0 t1 t2 t3 : Nat} {v0 v1 v3 : Value} {S : List FieldA} {l : EL} {h : Bool} {vals : List ValA} (ho : o.op = .build 63 #[(0, .tmp t0), (1, .tmp t1), (2, .tmp t2), (3, .tmp t3)]) (h0 : a.tmps.getD t0 undef = v0) (h1 : a.tmps.getD t1 undef = v1) (h2 : a.tmps.getD t2 undef = .slice none 0 0) (h3 : a.tmps.getD t3 undef = v3)
    (k0 : ∃ gs ks, v0 = .agg #[.slice (some ⟨gs, 0, none⟩) S.length ks] ∧ Wide w (.slice (some ⟨gs, 0, none⟩) S.length ks) 3 S.length (fcs S) markF) (k1 : WdSl (fun _ => True) w v1 l) (k3 : ∃ gr kr, v3 = .agg #[.bool h, .slice (some ⟨gr, 0, none⟩) vals.length kr] ∧ Wide w (.slice (some ⟨gr, 0, none⟩) vals.length kr) 3 vals.length (vcs vals) markV)
    (hk : ∀ v', (∃ gs ks ge ke gr kr, v' = .agg #[.slice (some ⟨gs, 0, none⟩) S.length ks, .slice (some ⟨ge, 0, none⟩) l.len ke, .slice none 0 0, .bool h, .slice (some ⟨gr, 0, none⟩) vals.length kr] ∧ Wide w (.slice (some ⟨gs, 0, none⟩) S.length ks) 3 S.length (fcs S) markF ∧ WdSl (fun _ => True) w (.slice (some ⟨ge, 0, none⟩) l.len ke) l ∧ Wide w (.slice (some ⟨gr, 0, none⟩) vals.length kr) 3 vals.length (vcs vals) markV) → K (a.put o.dst v') w) : Oper.wp Tryz.prog o a w K Q := by
  obtain ⟨gs, ks, rfl, q0⟩ := k0
  obtain ⟨gr, kr, rfl, q3⟩ := k3
  have k1' := k1
  obtain ⟨ge, ke, rfl, _⟩ := k1
  have e0 := slot_of h0
  have e1 := slot_of h1
  have e2 := slot_of h2
  have e3 := slot_of h3
  unfold Oper.wp
  simp [execOp, ho, e0, e1, e2, e3, go_sem]
  exact hk _ ⟨gs, ks, ge, ke, gr, kr, rfl, q0, k1', q3⟩
set_option maxRecDepth 100000 in
theorem step_box63 {t : Nat} {v : Value} {S : List FieldA} {l : EL} {h : Bool} {vals : List ValA} (ho : o.op = .box 63 (.tmp t)) (ht : a.tmps.getD t undef = v) (kv : ∃ gs ks ge ke gr kr, v = .agg #[.slice (some ⟨gs, 0, none⟩) S.length ks, .slice (some ⟨ge, 0, none⟩) l.len ke, .slice none 0 0, .bool h, .slice (some ⟨gr, 0, none⟩) vals.length kr] ∧ Wide w (.slice (some ⟨gs, 0, none⟩) S.length ks) 3 S.length (fcs S) markF ∧ WdSl (fun _ => True) w (.slice (some ⟨ge, 0, none⟩) l.len ke) l ∧ Wide w (.slice (some ⟨gr, 0, none⟩) vals.length kr) 3 vals.length (vcs vals) markV)
    (hk : ∀ v' w', (∃ p, v' = .pointer (some ⟨p, 0, none⟩) ∧ ∃ gs ks ge ke gr kr, GivE w' p S l h vals gs ks ge ke gr kr) → Keeps (fun _ => False) w w' → K (a.put o.dst v') w') : Oper.wp Tryz.prog o a w K Q := by
  obtain ⟨gs, ks, ge, ke, gr, kr, rfl, q0, q1, q3⟩ := kv
  have he := slot_of ht
  have hA := kAlloc w (.cells #[.slice (some ⟨gs, 0, none⟩) S.length ks, .slice (some ⟨ge, 0, none⟩) l.len ke, .slice none 0 0, .bool h, .slice (some ⟨gr, 0, none⟩) vals.length kr] 63)
  unfold Oper.wp
  simp [execOp, ho, he, go_sem]
  exact hk _ _ ⟨w.heap.size, rfl, gs, ks, ge, ke, gr, kr, heap_alloc_new w _, q0.keepF hA, q1.keepF hA, q3.keepF hA⟩ hA
end
set_option maxRecDepth 100000 in
set_option maxHeartbeats 8000000 in
theorem given0_v (Z : Zone) (S : List FieldA) (l : EL) (h : Bool) (vals : List ValA) (sv lv u : Value) (w : World) (up : Nat) (hf : FldsAt w sv S) (hx : SlE Z w up lv l) (hu : ValsAt w u vals) (lS : S.length ≤ 1048576) (hls : l.size ≤ 4294967294) (lr : vals.length ≤ 1048576) :
    Calls Tryz.prog 23 #[.agg #[sv], lv, .slice none 0 0, .agg #[.bool h, u]] w fun e w' => ∃ p gs ks ge ke gr kr, e = .returned (.pointer (some ⟨p, 0, none⟩)) ∧ GivE w' p S l h vals gs ks ge ke gr kr ∧ Keeps (fun _ => False) w w' := by
  obtain ⟨so, sc, rfl⟩ := RowAt.form hf
  obtain ⟨uo, uc, rfl⟩ := RowAt.form hu
  obtain ⟨lo, lc, rfl, _⟩ := hx.head
  obtain ⟨W, hW, hkW, g0, g1⟩ := boxA2 w #[(.slice so S.length sc)] #[.bool h, (.slice uo vals.length uc)] 24 31
  have HKW := hide hkW
  have H0 := hide (fun (W' : World) (hk : Keeps (fun _ => False) W W') => (hk.block _ (lt_of_block g0) id).trans g0)
  have H1 := hide (fun (W' : World) (hk : Keeps (fun _ => False) W W') => (hk.block _ (lt_of_block g1) id).trans g1)
  have HFL := hide hf
  have HVA := hide hu
  have HX := hide hx
  have HLS := hide hls
  have HKX := hide (Keeps.refl (fun _ => False) W)
  clear hf hu hx g0 g1 hkW hls
  go_enter Tryz.func23, Tryz.ntmps23
  go_wp2_with fail
  go_loopw [9, 10] (fun o i wr => o = .slice none 0 0 ∧ i = .int .i64 0 ∧ W = wr) (fun _ _ _ => 0)
  case atStart => exact ⟨rfl, rfl, rfl⟩
  case round =>
    obtain ⟨rfl, rfl, rfl⟩ := hrel
    go_upto_region 6 with fail
    rename_i Q0 K0 hc0
    refine wp_region_table (X := W) (by kernel_rfl) [25, 26, 27, 28, 29, 30, 31, 32, 33, 8] (by decide) rfl (by first | rfl | kernel_rfl | simp [opsB]) (unhide HKX) (fun i v W1 => match i with | 0 => v = .agg #[(.slice so S.length sc)] | 1 => ∃ gs ks, v = .agg #[.slice (some ⟨gs, 0, none⟩) S.length ks] ∧ Wide W1 (.slice (some ⟨gs, 0, none⟩) S.length ks) 3 S.length (fcs S) markF | 2 => v = (.slice lo l.len lc) | 3 => WdSl (fun _ => True) W1 v l | 4 => v = .slice none 0 0 | 5 => v = .agg #[.bool h, (.slice uo vals.length uc)] | 6 => ∃ gr kr, v = .agg #[.bool h, .slice (some ⟨gr, 0, none⟩) vals.length kr] ∧ Wide W1 (.slice (some ⟨gr, 0, none⟩) vals.length kr) 3 vals.length (vcs vals) markV | 7 => ∃ gs ks ge ke gr kr, v = .agg #[.slice (some ⟨gs, 0, none⟩) S.length ks, .slice (some ⟨ge, 0, none⟩) l.len ke, .slice none 0 0, .bool h, .slice (some ⟨gr, 0, none⟩) vals.length kr] ∧ Wide W1 (.slice (some ⟨gs, 0, none⟩) S.length ks) 3 S.length (fcs S) markF ∧ WdSl (fun _ => True) W1 (.slice (some ⟨ge, 0, none⟩) l.len ke) l ∧ Wide W1 (.slice (some ⟨gr, 0, none⟩) vals.length kr) 3 vals.length (vcs vals) markV | 8 => ∃ p, v = .pointer (some ⟨p, 0, none⟩) ∧ ∃ gs ks ge ke gr kr, GivE W1 p S l h vals gs ks ge ke gr kr | 9 => ∃ p, v = .pointer (some ⟨p, 0, none⟩) ∧ ∃ gs ks ge ke gr kr, GivE W1 p S l h vals gs ks ge ke gr kr | _ => True) ?_ ?_ ?_
    · intro i v w1 w2 hq hk
      rcases i with _ | _ | _ | _ | _ | _ | _ | _ | _ | _ | i
      all_goals first | exact hq | exact WdSl.keepF hq hk | (obtain ⟨q1, q2, q3, q4⟩ := hq; exact ⟨q1, q2, q3, q4.keepF hk⟩) | (obtain ⟨a1, a2, a3, a4, a5, a6, q1, q2, q3, q4⟩ := hq; exact ⟨a1, a2, a3, a4, a5, a6, q1, q2.keepF hk, q3.keepF hk, q4.keepF hk⟩) | (obtain ⟨p, q1, a1, a2, a3, a4, a5, a6, q2⟩ := hq; exact ⟨p, q1, a1, a2, a3, a4, a5, a6, q2.keepF hk⟩)
    · intro i o A W1 ho hs hk hd K' hK
      rcases i with _ | _ | _ | _ | _ | _ | _ | _ | _ | _ | i
      · obtain rfl := Option.some.inj ho
        exact step_load24 rfl ((hs.at rfl 4 (by decide)).trans rfl) (unhide H0 W1 hk) (hK _ _ rfl (Keeps.refl _ _))
      · obtain rfl := Option.some.inj ho
        exact step_c49 rfl (hd ⟨0, .data⟩ (by simp) rfl) (wideSchema_v W1 (.slice so S.length sc) S ((unhide HFL).keepF ((unhide HKW).trans hk)) lS) (fun gs ks w' q1 q2 => hK _ w' ⟨gs, ks, rfl, q1⟩ q2)
      · obtain rfl := Option.some.inj ho
        exact step_move rfl ((hs.at rfl 1 (by decide)).trans rfl) (hK _ _ rfl (Keeps.refl _ _))
      · obtain rfl := Option.some.inj ho
        exact step_c50 rfl (hd ⟨2, .data⟩ (by simp) rfl) (wideExprs_v Z (l.size + 1) l (by omega) (unhide HLS) W1 up (.slice lo l.len lc) ((unhide HX).keepF ((unhide HKW).trans hk))) (fun v' w' q1 q2 => hK v' w' (q1.mono (fun _ _ _ => trivial)) q2)
      · obtain rfl := Option.some.inj ho
        exact step_move rfl ((hs.at rfl 9 (by decide)).trans rfl) (hK _ _ rfl (Keeps.refl _ _))
      · obtain rfl := Option.some.inj ho
        exact step_load31 rfl ((hs.at rfl 7 (by decide)).trans rfl) (unhide H1 W1 hk) (hK _ _ rfl (Keeps.refl _ _))
      · obtain rfl := Option.some.inj ho
        exact step_c51 rfl (hd ⟨5, .data⟩ (by simp) rfl) (wideRow_v W1 h (.slice uo vals.length uc) vals ((unhide HVA).keepF ((unhide HKW).trans hk)) lr) (fun gr kr w' q1 q2 => hK _ w' ⟨gr, kr, rfl, q1⟩ q2)
      · obtain rfl := Option.some.inj ho
        exact step_build63 rfl rfl rfl (hd ⟨4, .data⟩ (by simp) rfl) rfl (hd ⟨1, .data⟩ (by simp) rfl) (hd ⟨3, .data⟩ (by simp) rfl) (hd ⟨6, .data⟩ (by simp) rfl) (fun v' q => hK v' _ q (Keeps.refl _ _))
      · obtain rfl := Option.some.inj ho
        exact step_box63 rfl rfl (hd ⟨7, .data⟩ (by simp) rfl) (fun v' w' q1 q2 => hK v' w' q1 q2)
      · obtain rfl := Option.some.inj ho
        exact step_assign rfl rfl (hK _ _ (hd ⟨8, .data⟩ (by simp) rfl) (Keeps.refl _ _))
      · simp at ho
    · intro A V hs hk hall
      obtain ⟨p, e8, gs, ks, ge, ke, gr, kr, hG⟩ : ∃ p, A.tmps.getD 8 undef = .pointer (some ⟨p, 0, none⟩) ∧ ∃ gs ks ge ke gr kr, GivE V p S l h vals gs ks ge ke gr kr := hall 9 (by decide)
      refine hc0 _ _ ?_
      have hA := same_fold hs rfl
      simp only [List.foldl_cons, List.foldl_nil, e8] at hA
      simp only [Act.put, List.setIfInBounds_toArray, List.set_cons_zero, List.set_cons_succ] at hA
      have HG := hide hG
      have HK := hide ((unhide HKW).trans hk)
      rw [hA]
      clear hs hk hall hA hG e8
      go_wp2_with fail
      go_ret
      exact ⟨p, gs, ks, ge, ke, gr, kr, rfl, unhide HG, unhide HK⟩

end Go.Proofs.YtiinohibmcefkaaGreatDoor
