import Derived.Test.YtgdabnkjipcbhaaGreatDoorQ5
import Derived.Test.YtgdabnkjipcbhaaGreatDoorQ1
import Derived.Test.YtgdabnkjipcbhaaGreatDoorWx
import Derived.Test.YtgdabnkjipcbhaaGreatDoorJzaa
import Derived.Laws.AppendOwnNone
import Derived.Lib.ConvBytes
namespace Go.Proofs.YtgdabnkjipcbhaaGreatDoor
open Go.RowKit Go.Maps

section
variable {P : Program} {ops : Array Oper} {Q : Exit → Act → World → Prop}
/-- A region that draws its order and whose last operation writes no slot and waits for all others. -/
theorem wp_region_last {id : Nat} {a0 : Act} {w0 X : World} (hm : P.follows .mixedOrders = true) (m : Nat) (hsz : ops.size = m + 1) (os : Oper) (hos : ops[m]? = some os) (hog : os.guard = none) (hoa : ∀ e ∈ os.after, e.on < m) (hcov : coverB ops m (waitsL os) = true)
    (dl : List Nat) (hn : dl.Nodup) (hlen : dl.length = m) (hB : opsB dl a0.tmps.size 0 (ops.toList.take m) = true)
    (hX : Keeps (fun _ => False) X w0)
    (F : Nat → Value → World → Prop) (hF : ∀ i v w w', F i v w → Keeps (fun _ => False) w w' → F i v w')
    (hs : ∀ (i : Nat) (o : Oper) (a : Act) (w : World), i < m → ops[i]? = some o → Same a0 m (fun i => dl.getD i 0) a → Keeps (fun _ => False) X w → (∀ e ∈ o.after, Region.binds .any e = true → F e.on (a.tmps.getD (dl.getD e.on 0) undef) w) →
      ∀ K' : Act → World → Prop, (∀ v w', F i v w' → Keeps (fun _ => False) w w' → K' (a.put o.dst v) w') → Oper.wp P o a w K' Q)
    (he : ∀ (a : Act) (w : World), Same a0 m (fun i => dl.getD i 0) a → Keeps (fun _ => False) X w → (∀ i, i < m → F i (a.tmps.getD (dl.getD i 0) undef) w) →
      ∀ K' : Act → World → Prop, (∀ a' w', Q .normal a' w' → K' a' w') → Oper.wp P os a w K' Q) : (Code.region id ops true).wp P Q a0 w0 := by
  have hat : ∀ (i : Nat) (o : Oper), i < m → ops[i]? = some o → o.dst = some (dl.getD i 0) ∧ o.guard = none ∧ dl.getD i 0 < a0.tmps.size ∧ ∀ e ∈ o.after, e.on < i := fun i o hi ho => by
    have := opsB_at hB i o (by rw [List.getElem?_take_of_lt hi]; simpa using ho)
    rwa [Nat.zero_add] at this
  have hinj : ∀ i j, i < m → j < m → dl.getD i 0 = dl.getD j 0 → i = j := fun i j hi hj e => by
    have hi' : i < dl.length := by omega
    have hj' : j < dl.length := by omega
    have e' : dl[i] = dl[j] := by
      have := e
      simp only [List.getD_eq_getElem?_getD, List.getElem?_eq_getElem hi', List.getElem?_eq_getElem hj'] at this
      exact this
    exact (List.getElem?_inj hi' hn).1 (by rw [List.getElem?_eq_getElem hi', List.getElem?_eq_getElem hj', e'])
  have hlt : ∀ (i : Nat) (o : Oper), ops[i]? = some o → i < m ∨ i = m := fun i o ho => by
    have := (Array.getElem?_eq_some_iff.1 ho).1
    omega
  have hac : ∀ (i : Nat) (o : Oper), ops[i]? = some o → ∀ e ∈ o.after, e.on < i := fun i o ho => by
    rcases hlt i o ho with hi | rfl
    · exact (hat i o hi ho).2.2.2
    · rw [hos] at ho
      obtain rfl := Option.some.inj ho
      exact hoa
  refine wp_region_inv hm hac (fun d a w => (∀ (i : Nat) (o : Oper), ops[i]? = some o → d i = true → ∀ e ∈ o.after, Region.binds .any e = true → d e.on = true) ∧ ((d m = false ∧ Same a0 m (fun i => dl.getD i 0) a ∧ Keeps (fun _ => False) X w ∧ ∀ i, i < m → d i = true → F i (a.tmps.getD (dl.getD i 0) undef) w) ∨ (d m = true ∧ Q .normal a w))) ?_ ?_ ?_
  · exact ⟨(fun i o _ h => by cases h), Or.inl ⟨rfl, ⟨rfl, rfl, fun _ _ => rfl⟩, hX.drew, (fun i _ h => by cases h)⟩⟩
  · rintro d a w i o ⟨hcl, hI⟩ hd ho hall
    have hcl' : ∀ (j : Nat) (o' : Oper), ops[j]? = some o' → mark d i j = true → ∀ e ∈ o'.after, Region.binds .any e = true → mark d i e.on = true := fun j o' ho' hj e he' hb => by
      unfold mark at hj ⊢
      by_cases hei : e.on = i
      · rw [if_pos hei]
      · rw [if_neg hei]
        by_cases hji : j = i
        · subst hji
          rw [ho] at ho'
          obtain rfl := Option.some.inj ho'
          exact hall e he' hb
        · rw [if_neg hji] at hj
          exact hcl j o' ho' hj e he' hb
    refine wpOp_step ho (fun K' hK => ?_)
    rcases hI with ⟨hdm, h1, h2, h3⟩ | ⟨hdm, _⟩
    · rcases hlt i o ho with hi | rfl
      · obtain ⟨q1, q2, q3, q4⟩ := hat i o hi ho
        have hw : Region.wanted o (yielded ops a.tmps) = true := by simp [Region.wanted, q2]
        rw [if_pos hw]
        refine hs i o a w hi ho h1 h2 (fun e he' hb => h3 e.on (Nat.lt_trans (q4 e he') hi) (hall e he' hb)) K' fun v w' hv hk => hK _ _ ⟨hcl', Or.inl ⟨?_, ?_, h2.trans hk, fun j hj hmk => ?_⟩⟩
        · unfold mark
          rw [if_neg (by omega)]
          exact hdm
        · rw [q1]
          exact h1.put hi v
        · by_cases hij : j = i
          · subst hij
            rw [q1, put_get a _ v (by rw [h1.size]; exact q3)]
            exact hv
          · rw [q1, put_get_ne a v (fun e => hij (hinj j i hj hi e.symm))]
            refine hF _ _ _ _ (h3 j hj ?_) hk
            unfold mark at hmk
            rwa [if_neg hij] at hmk
      · rw [hos] at ho
        obtain rfl := Option.some.inj ho
        have hw : Region.wanted os (yielded ops a.tmps) = true := by simp [Region.wanted, hog]
        rw [if_pos hw]
        have hdone := coverB_all hcl i (waitsL os) hcov (fun j hj => by
          obtain ⟨e, he', hb, rfl⟩ := waitsL_mem hj
          exact hall e he' hb)
        refine he a w h1 h2 (fun j hj => h3 j hj (hdone j hj)) K' fun a' w' hq => hK _ _ ⟨hcl', Or.inr ⟨?_, hq⟩⟩
        unfold mark
        rw [if_pos rfl]
    · exfalso
      rcases hlt i o ho with hi | rfl
      · have hdone := coverB_all hcl m (waitsL os) hcov (fun j hj => by
          obtain ⟨e, he', hb, rfl⟩ := waitsL_mem hj
          exact hcl m os hos hdm e he' hb) i hi
        rw [hd] at hdone
        cases hdone
      · rw [hd] at hdm
        cases hdm
  · rintro d a w ⟨_, hI⟩ hd
    rcases hI with ⟨hdm, _⟩ | ⟨_, hq⟩
    · have := hd m (by omega)
      rw [hdm] at this
      cases this
    · exact hq
end
end Go.Proofs.YtgdabnkjipcbhaaGreatDoor
namespace Go.Proofs.YtgdabnkjipcbhaaGreatDoor
open Go.RowKit Go.Maps

section
variable {Q : Exit → Act → World → Prop} {K : Act → World → Prop} {o : Oper} {a : Act} {w : World}
set_option maxRecDepth 100000 in
theorem step_fieldQ {t i b : Nat} (hi : i < 6) (ho : o.op = .fieldAddr 24 (.tmp t) i) (ht : a.tmps.getD t undef = .pointer (some ⟨b, 0, none⟩)) (hk : K (a.put o.dst (.pointer (some ⟨b, i, none⟩))) w) : Oper.wp Tryz.prog o a w K Q := by
  have he := slot_of ht
  unfold Oper.wp
  rcases i with _ | _ | _ | _ | _ | _ | i
  all_goals first
    | omega
    | (simp [execOp, ho, he, go_sem]; exact hk)
theorem step_load4 {t b off : Nat} {v : Value} (ho : o.op = .load 4 (.tmp t)) (ht : a.tmps.getD t undef = .pointer (some ⟨b, off, none⟩)) (hc : w.cell? ⟨b, off, none⟩ = some v) (hk : K (a.put o.dst v) w) : Oper.wp Tryz.prog o a w K Q := by
  have he := slot_of ht
  unfold Oper.wp
  simp [execOp, ho, he, go_sem, hc]
  exact hk
set_option maxRecDepth 100000 in
theorem step_build24 {t0 t1 t2 t3 t4 t5 : Nat} {k l : Int} {d : Bool} {va vb vc : Value} {A : Nat → Prop} {W O B : EL} (ho : o.op = .build 24 #[(0, .tmp t0), (1, .tmp t1), (2, .tmp t2), (3, .tmp t3), (4, .tmp t4), (5, .tmp t5)]) (h0 : a.tmps.getD t0 undef = va) (h1 : a.tmps.getD t1 undef = .int .i64 k) (h2 : a.tmps.getD t2 undef = vb) (h3 : a.tmps.getD t3 undef = vc) (h4 : a.tmps.getD t4 undef = .bool d) (h5 : a.tmps.getD t5 undef = .int .i64 l) (hW : WdSl A w va W) (hO : WdSl A w vb O) (hB : WdSl A w vc B)
    (hk : K (a.put o.dst (qV va k vb vc d l)) w) : Oper.wp Tryz.prog o a w K Q := by
  obtain ⟨g0, c0, rfl, _⟩ := hW
  obtain ⟨g1, c1, rfl, _⟩ := hO
  obtain ⟨g2, c2, rfl, _⟩ := hB
  have e0 := slot_of h0
  have e1 := slot_of h1
  have e2 := slot_of h2
  have e3 := slot_of h3
  have e4 := slot_of h4
  have e5 := slot_of h5
  unfold Oper.wp
  simp [execOp, ho, e0, e1, e2, e3, e4, e5, go_sem]
  exact hk
end
end Go.Proofs.YtgdabnkjipcbhaaGreatDoor
namespace Go.Proofs.YtgdabnkjipcbhaaGreatDoor
open Go.RowKit Go.Maps

set_option maxRecDepth 100000 in
set_option maxHeartbeats 8000000 in
theorem wideQ_v (k l : Int) (d : Bool) (W O B : EL) (wv ov bv : Value) {Z : Zone} (w : World) (hW : SlE Z w 0 wv W) (hO : SlE Z w 0 ov O) (hB : SlE Z w 0 bv B) (kW : W.size ≤ 2147483647) (kO : O.size ≤ 2147483647) (kB : B.size ≤ 2147483647) :
    Calls Tryz.prog 5 #[qV wv k ov bv d l] w fun e w' => ∃ va vb vc, e = .returned (qV va k vb vc d l) ∧ WdSl (fun q => w.heap.size ≤ q) w' va W ∧ WdSl (fun q => w.heap.size ≤ q) w' vb O ∧ WdSl (fun q => w.heap.size ≤ q) w' vc B ∧ Keeps (fun _ => False) w w' := by
  have HC := fun (q : EL) (v : Value) (hv : SlE Z w 0 v q) (hs : q.size ≤ 2147483647) (W' : World) (hk : Keeps (fun _ => False) w W') => wideExprs_v Z (q.size + 1) q (by omega) (by omega) W' 0 v (hv.keepF hk)
  have H1 := hide (HC W wv hW kW)
  have H2 := hide (HC O ov hO kO)
  have H3 := hide (HC B bv hB kB)
  obtain ⟨wa, wc, rfl, _⟩ := hW.head
  obtain ⟨oa, oc, rfl, _⟩ := hO.head
  obtain ⟨ba, bc, rfl, _⟩ := hB.head
  clear HC hW hO hB
  go_enter Tryz.func5, Tryz.ntmps5
  go_upto_region 1 with fail
  rename_i Q0 K0 hc0
  obtain ⟨X, hX⟩ : ∃ X, (w.alloc (.cells #[.slice wa W.len wc, .int .i64 k, .slice oa O.len oc, .slice ba B.len bc, .bool d, .int .i64 l] 24)).alloc (.cells #[.slice none 0 0, .int .i64 0, .slice none 0 0, .slice none 0 0, .bool false, .int .i64 0] 24) = X := ⟨_, rfl⟩
  have hka : Keeps (fun _ => False) w (w.alloc (.cells #[.slice wa W.len wc, .int .i64 k, .slice oa O.len oc, .slice ba B.len bc, .bool d, .int .i64 l] 24)) := (Keeps.refl _ w).alloc _
  have hkb : Keeps (fun _ => False) (w.alloc (.cells #[.slice wa W.len wc, .int .i64 k, .slice oa O.len oc, .slice ba B.len bc, .bool d, .int .i64 l] 24)) X := by rw [← hX]; exact (Keeps.refl _ _).alloc _
  have hq : X.heap[w.heap.size]? = some (.cells #[.slice wa W.len wc, .int .i64 k, .slice oa O.len oc, .slice ba B.len bc, .bool d, .int .i64 l] 24 (0, 0)) := (hkb.block _ (by simp) id).trans (heap_alloc_new w _)
  have hz : X.heap[w.heap.size + 1]? = some (.cells #[.slice none 0 0, .int .i64 0, .slice none 0 0, .slice none 0 0, .bool false, .int .i64 0] 24 (0, 0)) := by
    have := heap_alloc_new (w.alloc (.cells #[.slice wa W.len wc, .int .i64 k, .slice oa O.len oc, .slice ba B.len bc, .bool d, .int .i64 l] 24)) (.cells #[.slice none 0 0, .int .i64 0, .slice none 0 0, .slice none 0 0, .bool false, .int .i64 0] 24)
    rw [hX] at this
    simpa using this
  have hkx := hka.trans hkb
  have hxs : w.heap.size + 2 ≤ X.heap.size := by have := lt_of_block hz; omega
  rw [hX]
  clear hka hkb hX
  refine wp_region_last (X := X) (by kernel_rfl) 16 rfl _ rfl rfl (by decide) (by kernel_rfl) [3, 4, 5, 6, 7, 8, 9, 10, 11, 12, 13, 14, 15, 16, 17, 18] (by decide) rfl (by first | rfl | kernel_rfl | simp [opsB]) (Keeps.refl _ _) (fun i v W1 => match i with | 0 => v = .pointer (some ⟨w.heap.size, 0, none⟩) | 1 => v = .slice wa W.len wc | 2 => WdSl (fun q => X.heap.size ≤ q) W1 v W | 3 => v = .pointer (some ⟨w.heap.size, 1, none⟩) | 4 => v = .int .i64 k | 5 => v = .pointer (some ⟨w.heap.size, 2, none⟩) | 6 => v = .slice oa O.len oc | 7 => WdSl (fun q => X.heap.size ≤ q) W1 v O | 8 => v = .pointer (some ⟨w.heap.size, 3, none⟩) | 9 => v = .slice ba B.len bc | 10 => WdSl (fun q => X.heap.size ≤ q) W1 v B | 11 => v = .pointer (some ⟨w.heap.size, 4, none⟩) | 12 => v = .bool d | 13 => v = .pointer (some ⟨w.heap.size, 5, none⟩) | 14 => v = .int .i64 l | _ => ∃ va vb vc, v = qV va k vb vc d l ∧ WdSl (fun q => X.heap.size ≤ q) W1 va W ∧ WdSl (fun q => X.heap.size ≤ q) W1 vb O ∧ WdSl (fun q => X.heap.size ≤ q) W1 vc B) ?_ ?_ ?_
  · intro i v w1 w2 hp hk
    rcases i with _ | _ | _ | _ | _ | _ | _ | _ | _ | _ | _ | _ | _ | _ | _ | i
    all_goals first | exact hp | exact WdSl.keepF hp hk | (obtain ⟨va, vb, vc, q1, q2, q3, q4⟩ := hp; exact ⟨va, vb, vc, q1, q2.keepF hk, q3.keepF hk, q4.keepF hk⟩)
  · intro i o A W1 him ho hs hk hd K' hK
    have cq := fun j => (cell_of_blk ((hk.block _ (lt_of_block hq) id).trans hq) j)
    rcases i with _ | _ | _ | _ | _ | _ | _ | _ | _ | _ | _ | _ | _ | _ | _ | _ | i
    · obtain rfl := Option.some.inj ho
      exact step_fieldQ (by decide) rfl ((hs.at rfl 1 (by decide)).trans rfl) (hK _ _ rfl (Keeps.refl _ _))
    · obtain rfl := Option.some.inj ho
      exact step_load25 rfl (hd ⟨0, .data⟩ (by simp) rfl) ((cq 0).trans rfl) (hK _ _ rfl (Keeps.refl _ _))
    · obtain rfl := Option.some.inj ho
      exact step_c50 rfl (hd ⟨1, .data⟩ (by simp) rfl) (unhide H1 W1 (hkx.trans hk)) (fun v' w' q1 q2 => hK v' w' (q1.mono (fun q _ (z : W1.heap.size ≤ q) => Nat.le_trans hk.size z)) q2)
    · obtain rfl := Option.some.inj ho
      exact step_fieldQ (by decide) rfl ((hs.at rfl 1 (by decide)).trans rfl) (hK _ _ rfl (Keeps.refl _ _))
    · obtain rfl := Option.some.inj ho
      exact step_load3 rfl (hd ⟨3, .data⟩ (by simp) rfl) ((cq 1).trans rfl) (hK _ _ rfl (Keeps.refl _ _))
    · obtain rfl := Option.some.inj ho
      exact step_fieldQ (by decide) rfl ((hs.at rfl 1 (by decide)).trans rfl) (hK _ _ rfl (Keeps.refl _ _))
    · obtain rfl := Option.some.inj ho
      exact step_load25 rfl (hd ⟨5, .data⟩ (by simp) rfl) ((cq 2).trans rfl) (hK _ _ rfl (Keeps.refl _ _))
    · obtain rfl := Option.some.inj ho
      exact step_c50 rfl (hd ⟨6, .data⟩ (by simp) rfl) (unhide H2 W1 (hkx.trans hk)) (fun v' w' q1 q2 => hK v' w' (q1.mono (fun q _ (z : W1.heap.size ≤ q) => Nat.le_trans hk.size z)) q2)
    · obtain rfl := Option.some.inj ho
      exact step_fieldQ (by decide) rfl ((hs.at rfl 1 (by decide)).trans rfl) (hK _ _ rfl (Keeps.refl _ _))
    · obtain rfl := Option.some.inj ho
      exact step_load25 rfl (hd ⟨8, .data⟩ (by simp) rfl) ((cq 3).trans rfl) (hK _ _ rfl (Keeps.refl _ _))
    · obtain rfl := Option.some.inj ho
      exact step_c50 rfl (hd ⟨9, .data⟩ (by simp) rfl) (unhide H3 W1 (hkx.trans hk)) (fun v' w' q1 q2 => hK v' w' (q1.mono (fun q _ (z : W1.heap.size ≤ q) => Nat.le_trans hk.size z)) q2)
    · obtain rfl := Option.some.inj ho
      exact step_fieldQ (by decide) rfl ((hs.at rfl 1 (by decide)).trans rfl) (hK _ _ rfl (Keeps.refl _ _))
    · obtain rfl := Option.some.inj ho
      exact step_load4 rfl (hd ⟨11, .data⟩ (by simp) rfl) ((cq 4).trans rfl) (hK _ _ rfl (Keeps.refl _ _))
    · obtain rfl := Option.some.inj ho
      exact step_fieldQ (by decide) rfl ((hs.at rfl 1 (by decide)).trans rfl) (hK _ _ rfl (Keeps.refl _ _))
    · obtain rfl := Option.some.inj ho
      exact step_load3 rfl (hd ⟨13, .data⟩ (by simp) rfl) ((cq 5).trans rfl) (hK _ _ rfl (Keeps.refl _ _))
    · obtain rfl := Option.some.inj ho
      exact step_build24 rfl rfl (hd ⟨4, .data⟩ (by simp) rfl) rfl rfl (hd ⟨12, .data⟩ (by simp) rfl) (hd ⟨14, .data⟩ (by simp) rfl) (hd ⟨2, .data⟩ (by simp) rfl) (hd ⟨7, .data⟩ (by simp) rfl) (hd ⟨10, .data⟩ (by simp) rfl) (hK _ _ ⟨_, _, _, rfl, hd ⟨2, .data⟩ (by simp) rfl, hd ⟨7, .data⟩ (by simp) rfl, hd ⟨10, .data⟩ (by simp) rfl⟩ (Keeps.refl _ _))
    · omega
  · intro A2 V hs hk hall K' hK
    obtain ⟨va, vb, vc, e18, r1, r2, r3⟩ : ∃ va vb vc, A2.tmps.getD 18 undef = qV va k vb vc d l ∧ WdSl (fun q => X.heap.size ≤ q) V va W ∧ WdSl (fun q => X.heap.size ≤ q) V vb O ∧ WdSl (fun q => X.heap.size ≤ q) V vc B := hall 15 (by decide)
    have hzV := (hk.block _ (lt_of_block hz) id).trans hz
    have h2 : A2.tmps.getD 2 undef = .pointer (some ⟨w.heap.size + 1, 0, none⟩) := (hs.at rfl 2 (by decide)).trans rfl
    have hdf := hs.defers
    have s1 := r1.keep (keeps_row V (w.heap.size + 1) #[va, .int .i64 k, vb, vc, .bool d, .int .i64 l]) (fun q _ (hq : X.heap.size ≤ q) e => by omega)
    have s2 := r2.keep (keeps_row V (w.heap.size + 1) #[va, .int .i64 k, vb, vc, .bool d, .int .i64 l]) (fun q _ (hq : X.heap.size ≤ q) e => by omega)
    have s3 := r3.keep (keeps_row V (w.heap.size + 1) #[va, .int .i64 k, vb, vc, .bool d, .int .i64 l]) (fun q _ (hq : X.heap.size ≤ q) e => by omega)
    have hsr := setRow_heap V (w.heap.size + 1) _ #[va, .int .i64 k, vb, vc, .bool d, .int .i64 l] 24 (0, 0) hzV
    have hkv := (hkx.trans hk).narrow (keeps_row V (w.heap.size + 1) #[va, .int .i64 k, vb, vc, .bool d, .int .i64 l]) (fun q e => by omega)
    obtain ⟨g0, p0, rfl, _⟩ := r1
    obtain ⟨g1, p1, rfl, _⟩ := r2
    obtain ⟨g2, p2, rfl, _⟩ := r3
    refine wp_store_row 24 (.tmp 2) (.tmp 18) rfl (w.heap.size + 1) _ h2 e18 24 _ hzV (by kernel_rfl) rfl (by simp [Value.oneCell']) ?_
    refine hK A2 _ (hc0 _ _ ?_)
    have hm : ∀ {v : Value} {q : EL} {W1 : World}, WdSl (fun q => X.heap.size ≤ q) W1 v q → WdSl (fun q => w.heap.size ≤ q) W1 v q := fun h => h.mono (fun q _ z => by omega)
    go_wp2_with fail
    exact bodyPost_ret (results_cell_row rfl _ _ (w.heap.size + 1) 24 _ (0, 0) _ h2 hsr Tryz.underlying24 rfl (by kernel_rfl)) (hdf.trans rfl) ⟨_, _, _, rfl, hm s1, hm s2, hm s3, hkv⟩
end Go.Proofs.YtgdabnkjipcbhaaGreatDoor
namespace Go.Proofs.YtgdabnkjipcbhaaGreatDoor
open Go.RowKit Go.Maps

set_option maxRecDepth 100000 in
set_option maxHeartbeats 4000000 in
theorem spareQ_v (k l : Int) (d : Bool) (W O B : EL) (wv ov bv : Value) (A : Nat → Prop) (w : World) (hW : WdSl A w wv W) (hO : WdSl A w ov O) (hB : WdSl A w bv B) (kW : W.size ≤ 2147483647) (kO : O.size ≤ 2147483647) (kB : B.size ≤ 2147483647) :
    Calls Tryz.prog 9 #[qV wv k ov bv d l] w fun e w' => e = .returned (.bool true) ∧ Keeps (fun _ => False) w w' := by
  obtain ⟨w1, hw1, hk1, hs1, c0, c1, c2, c3, c4, c5⟩ := box6 w wv ov bv k l d
  have HC := fun (q : EL) (v : Value) (hq : WdSl A w v q) (hs : q.size ≤ 2147483647) (W' : World) (hk : Keeps (fun _ => False) w W') => hide (spareExprs_v A (q.size + 1) q (by omega) (by omega) W' v (hq.keepF hk))
  have H1 := hide (HC W wv hW kW)
  have H2 := hide (HC O ov hO kO)
  have H3 := hide (HC B bv hB kB)
  obtain ⟨gw, cw, rfl, _⟩ := hW
  obtain ⟨go, co, rfl, _⟩ := hO
  obtain ⟨gb, cb, rfl, _⟩ := hB
  subst hw1
  have HK1 := hide hk1
  clear HC hk1 c1 c4 c5
  go_enter Tryz.func9, Tryz.ntmps9
  go_wp2_with fail
  refine (unhide (unhide H1 _ (unhide HK1))).mono ?_
  rintro e w2 ⟨rfl, hk2⟩
  have HK2 := hide ((unhide HK1).trans hk2)
  have d2 := (hk2.cell (o := 2) hs1 id).trans c2
  have d3 := (hk2.cell (o := 3) hs1 id).trans c3
  have hs2 := Nat.lt_of_lt_of_le hs1 hk2.size
  clear hk2 c0 c2 c3 hs1 H1
  go_wp2_with fail
  refine (unhide (unhide H2 _ (unhide HK2))).mono ?_
  rintro e w3 ⟨rfl, hk3⟩
  have HK3 := hide ((unhide HK2).trans hk3)
  have e3 := (hk3.cell (o := 3) hs2 id).trans d3
  clear hk3 d2 d3 H2
  go_wp2_with fail
  refine (unhide (unhide H3 _ (unhide HK3))).mono ?_
  rintro e w4 ⟨rfl, hk4⟩
  have HK4 := hide ((unhide HK3).trans hk4)
  clear hk4 H3
  go_wp2_with fail
  go_ret
  exact ⟨rfl, unhide HK4⟩

set_option maxRecDepth 100000 in
set_option maxHeartbeats 4000000 in
theorem eqQ_v (k l : Int) (d : Bool) (W O B : EL) (wv ov bv wu ou bu : Value) (Y Z : Zone) (w : World) (hW : SlE Y w 0 wv W) (hO : SlE Y w 0 ov O) (hB : SlE Y w 0 bv B) (iW : SlE Z w 0 wu W) (iO : SlE Z w 0 ou O) (iB : SlE Z w 0 bu B) (kW : W.size ≤ 2147483647) (kO : O.size ≤ 2147483647) (kB : B.size ≤ 2147483647) :
    Calls Tryz.prog 8 #[qV wv k ov bv d l, qV wu k ou bu d l] w fun e w' => e = .returned (.bool true) ∧ Keeps (fun _ => False) w w' := by
  obtain ⟨w1, hw1, hk1, hs1, c0, c1, c2, c3, c4, c5⟩ := box6 w wv ov bv k l d
  obtain ⟨w2, hw2, hk2, hs2, a0, a1, a2, a3, a4, a5⟩ := box6 w1 wu ou bu k l d
  have ez : w1.heap.size = w.heap.size + 1 := by rw [hw1]; simp
  rw [ez] at a0 a1 a2 a3 a4 a5 hs2
  have hs1' : w.heap.size < w2.heap.size := by omega
  have C := fun o => (hk2.cell (o := o) hs1 id)
  have c0 := (C 0).trans c0
  have c1 := (C 1).trans c1
  have c2 := (C 2).trans c2
  have c3 := (C 3).trans c3
  have c4 := (C 4).trans c4
  have c5 := (C 5).trans c5
  have HC := fun (q : EL) (v u : Value) (hv : SlE Y w 0 v q) (hu : SlE Z w 0 u q) (hs : q.size ≤ 2147483647) (W' : World) (hk : Keeps (fun _ => False) w W') => hide (eqExprs_same Y Z (q.size + 1) q (by omega) (by omega) W' 0 0 v u (hv.keepF hk) (hu.keepF hk))
  have H1 := hide (HC W wv wu hW iW kW)
  have H2 := hide (HC O ov ou hO iO kO)
  have H3 := hide (HC B bv bu hB iB kB)
  have HK := hide (hk1.trans hk2)
  obtain ⟨wa, wc, rfl, _⟩ := hW.head
  obtain ⟨oa, oc, rfl, _⟩ := hO.head
  obtain ⟨ba, bc, rfl, _⟩ := hB.head
  obtain ⟨wa', wc', rfl, _⟩ := iW.head
  obtain ⟨oa', oc', rfl, _⟩ := iO.head
  obtain ⟨ba', bc', rfl, _⟩ := iB.head
  subst hw1
  subst hw2
  clear HC hk1 hk2 hW hO hB iW iO iB C hs1
  go_enter Tryz.func8, Tryz.ntmps8
  go_wp2_with fail
  refine (unhide (unhide H1 _ (unhide HK))).mono ?_
  rintro e w3 ⟨rfl, hk3⟩
  have HK3 := hide ((unhide HK).trans hk3)
  have D := fun o => (hk3.cell (o := o) hs1' id)
  have E := fun o => (hk3.cell (o := o) hs2 id)
  have c1 := (D 1).trans c1
  have c2 := (D 2).trans c2
  have c3 := (D 3).trans c3
  have c4 := (D 4).trans c4
  have c5 := (D 5).trans c5
  have a1 := (E 1).trans a1
  have a2 := (E 2).trans a2
  have a3 := (E 3).trans a3
  have a4 := (E 4).trans a4
  have a5 := (E 5).trans a5
  have hs3 := Nat.lt_of_lt_of_le hs1' hk3.size
  have hs4 := Nat.lt_of_lt_of_le hs2 hk3.size
  clear D E hk3 H1
  go_wp2_with fail
  refine (unhide (unhide H2 _ (unhide HK3))).mono ?_
  rintro e w4 ⟨rfl, hk4⟩
  have HK4 := hide ((unhide HK3).trans hk4)
  have D := fun o => (hk4.cell (o := o) hs3 id)
  have E := fun o => (hk4.cell (o := o) hs4 id)
  have c1 := (D 1).trans c1
  have c3 := (D 3).trans c3
  have c4 := (D 4).trans c4
  have c5 := (D 5).trans c5
  have a1 := (E 1).trans a1
  have a3 := (E 3).trans a3
  have a4 := (E 4).trans a4
  have a5 := (E 5).trans a5
  have hs5 := Nat.lt_of_lt_of_le hs3 hk4.size
  have hs6 := Nat.lt_of_lt_of_le hs4 hk4.size
  clear D E hk4 H2
  go_wp2_with fail
  refine (unhide (unhide H3 _ (unhide HK4))).mono ?_
  rintro e w5 ⟨rfl, hk5⟩
  have HK5 := hide ((unhide HK4).trans hk5)
  have D := fun o => (hk5.cell (o := o) hs5 id)
  have E := fun o => (hk5.cell (o := o) hs6 id)
  have c1 := (D 1).trans c1
  have c4 := (D 4).trans c4
  have c5 := (D 5).trans c5
  have a1 := (E 1).trans a1
  have a4 := (E 4).trans a4
  have a5 := (E 5).trans a5
  clear D E hk5 H3
  go_wp2_with fail
  all_goals
    go_ret
    exact ⟨ret_bool (by simp), unhide HK5⟩
end Go.Proofs.YtgdabnkjipcbhaaGreatDoor
namespace Go.Proofs.YtgdabnkjipcbhaaGreatDoor
open Go.RowKit Go.Maps

theorem Tryz.info9 : (Tryz.prog.info? 9).map (fun i => (i.zero, i.size, i.bytes)) = some (some (.string ⟨#[]⟩), 1, 16) := by kernel_rfl
/-- A writer: its pieces, and the first error. -/
structure Wtr (w : World) (N b : Nat) (ps : List Txt) (r : Int) : Prop where
  lo : N ≤ b
  blk : ∃ v, w.heap[b]? = some (.cells #[v, .int .i64 r] 46 (0, 0)) ∧ w.ownsRow N 9 1 v ps.length (ps.map str) ∧ v.ownBlock ≠ some b
theorem Wtr.cells {w : World} {N b : Nat} {ps : List Txt} {r : Int} (h : Wtr w N b ps r) : ∃ v, w.cell? ⟨b, 0, none⟩ = some v ∧ w.cell? ⟨b, 1, none⟩ = some (.int .i64 r) ∧ w.frozen? ⟨b, 1, none⟩ = false ∧ b < w.heap.size ∧ w.ownsRow N 9 1 v ps.length (ps.map str) := by
  obtain ⟨_, v, hb, ho, _⟩ := h
  exact ⟨v, by rw [Lib.cell_of_heap hb]; rfl, by rw [Lib.cell_of_heap hb]; rfl, Lib.frozen_of_heap hb 1, lt_of_block hb, ho⟩
theorem Wtr.keepF {w w' : World} {N b : Nat} {ps : List Txt} {r : Int} (h : Wtr w N b ps r) (hk : Keeps (fun _ => False) w w') : Wtr w' N b ps r := by
  obtain ⟨hlo, v, hb, ho, hn⟩ := h
  refine ⟨hlo, v, (hk.block b (lt_of_block hb) id).trans hb, ⟨ho.1, ho.2.imp id fun ⟨g, cap, cur, e1, e2, e3, e4⟩ => ⟨g, cap, cur, e1, e2, (hk.block g (lt_of_block e3) id).trans e3, e4⟩⟩, hn⟩
theorem keepsW (w : World) (a p : Nat) (u : Value) : Keeps (fun k => k = a) w (w.setCell ⟨a, p, none⟩ u) := (Keeps.refl (fun k => k = a) w).setCell (fun _ => rfl) u
theorem below_set {w : World} {N b o : Nat} (h : N ≤ b) (hN : N ≤ w.heap.size) (x : Value) : Below N w (w.setCell ⟨b, o, none⟩ x) := (keepsW w b o x).below hN (fun _ e => by omega)
theorem below_grown {w w' : World} {N : Nat} {q : Option Nat} (h : w.grownBy w' q) (hq : ∀ k, q = some k → N ≤ k) (hN : N ≤ w.heap.size) : Below N w w' :=
  Keeps.below (F := fun k => q = some k) ((Keeps.refl _ w).grown h (fun _ e _ => e)) hN hq
theorem own_ge {w : World} {B e size n : Nat} {v : Value} {xs : List Value} (h : w.ownsRow B e size v n xs) {k : Nat} (hk : v.ownBlock = some k) : B ≤ k := by
  rcases h.2 with ⟨hv, _⟩ | ⟨g, cap, cur, hv, hb, hg, rest⟩
  · rw [hv] at hk; cases hk
  · rw [hv] at hk
    simp [Value.ownBlock] at hk
    subst hk
    exact hb

set_option maxRecDepth 100000 in
set_option maxHeartbeats 2000000 in
theorem words_v (N b : Nat) (ps A : List Txt) (r : Int) (w : World) (g o c : Nat) (hW : Wtr w N b ps r) (hA : ∀ i x, A[i]? = some x → w.cell? ⟨g, o + i, none⟩ = some (str x)) (h0 : 0 < A.length) (hl : ps.length + A.length ≤ 1000) (hN : N ≤ w.heap.size) :
    Calls Tryz.prog 14 #[.pointer (some ⟨b, 0, none⟩), .slice (some ⟨g, o, none⟩) A.length c] w fun e w' => e = .returned (.tuple #[]) ∧ Wtr w' N b (ps ++ A) r ∧ Below N w w' := by
  obtain ⟨hlo, v, hbk, hown, hne⟩ := hW
  obtain ⟨i0, hi, hz0, hz1, hz2⟩ := info_parts Tryz.info9
  have c0 : w.cell? ⟨b, 0, none⟩ = some v := by rw [Lib.cell_of_heap hbk]; rfl
  have hlt := lt_of_block hbk
  have HA := hide hA
  have HO := hide hown
  have HNE := hide hne
  have HB := hide hbk
  clear hA hown hne hbk
  go_enter Tryz.func14, Tryz.ntmps14
  go_wp2_with (at_builtin; refine wpList_append_own _ rfl _ _ 44 rfl N 9 i0 (.string ⟨#[]⟩) 1 16 Tryz.underlying44 hi hz0 hz1 hz2 rfl (by decide) _ _ _ rfl (unhide HO) ⟨g, o, none⟩ A.length c (A.map str) rfl (by simp) ?c1 ?c2 ?c3 ?c4 ?c5 ?_)
  case c1 =>
    intro j u hj
    rw [List.getElem?_map] at hj
    obtain ⟨x, hx, rfl⟩ := Option.map_eq_some_iff.1 hj
    rw [Addr.add_lit]
    exact unhide HA j x hx
  case c2 => intro u hu; obtain ⟨x, _, rfl⟩ := List.mem_map.1 hu; rfl
  case c3 => unfold maxLen; omega
  case c4 => omega
  case c5 => exact hN
  intro v' w2 hown' hgrow _
  have hb2 : w2.heap[b]? = some (.cells #[v, .int .i64 r] 46 (0, 0)) := by
    rw [hgrow.block b hlt (fun e => unhide HNE e.symm)]
    exact unhide HB
  have d0 : w2.cell? ⟨b, 0, none⟩ = some v := by rw [Lib.cell_of_heap hb2]; rfl
  have f0 : w2.frozen? ⟨b, 0, none⟩ = false := Lib.frozen_of_heap hb2 0
  obtain ⟨g', cap, cur, rfl, hg', hgb⟩ : ∃ g cap cur, v' = .slice (some ⟨g, 0, none⟩) (ps.length + A.length) cap ∧ N ≤ g ∧ w2.heap[g]? = some (.cells cur 9 (0, 0)) := by
    rcases hown'.2 with ⟨_, h0⟩ | ⟨g, cap, cur, hv, h1, h2, _⟩
    · omega
    · exact ⟨g, cap, cur, hv, h1, h2⟩
  have HL := hide ((below_grown hgrow (fun _ e => own_ge (unhide HO) e) hN).trans (below_set (o := 0) hlo (Nat.le_trans hN hgrow.size) (.slice (some ⟨g', 0, none⟩) (ps.length + A.length) cap)))
  have hgb' : g' ≠ b := by
    rintro rfl
    rw [hgb] at hb2
    simp at hb2
  have HW : Hid (Wtr (w2.setCell ⟨b, 0, none⟩ (.slice (some ⟨g', 0, none⟩) (ps.length + A.length) cap)) N b (ps ++ A) r) := by
    have hs := heap_setCell_at (o := 0) hb2 (.slice (some ⟨g', 0, none⟩) (ps.length + A.length) cap)
    refine ⟨hlo, _, hs, ?_, by simpa [Value.ownBlock] using hgb'⟩
    rw [List.length_append, List.map_append]
    have hk := keepsW w2 b 0 (.slice (some ⟨g', 0, none⟩) (ps.length + A.length) cap)
    refine ⟨hown'.1, hown'.2.imp id fun ⟨q, cp, cu, e1, e2, e3, e4⟩ => ⟨q, cp, cu, e1, e2, (hk.block q (lt_of_block e3) (fun e => ?_)).trans e3, e4⟩⟩
    subst e
    simp at e1
  clear hown' hgrow hb2 hgb
  go_wp2
  go_end0
  exact ⟨rfl, unhide HW, unhide HL⟩

set_option maxRecDepth 100000 in
set_option maxHeartbeats 2000000 in
theorem words_nil (N b : Nat) (ps : List Txt) (r : Int) (w : World) (hW : Wtr w N b ps r) (hN : N ≤ w.heap.size) :
    Calls Tryz.prog 14 #[.pointer (some ⟨b, 0, none⟩), .slice none 0 0] w fun e w' => e = .returned (.tuple #[]) ∧ Wtr w' N b ps r ∧ Below N w w' := by
  obtain ⟨hlo, v, hbk, hown, hne⟩ := hW
  obtain ⟨i0, hi, hz0, hz1, hz2⟩ := info_parts Tryz.info9
  have c0 : w.cell? ⟨b, 0, none⟩ = some v := by rw [Lib.cell_of_heap hbk]; rfl
  have f0 : w.frozen? ⟨b, 0, none⟩ = false := Lib.frozen_of_heap hbk 0
  obtain ⟨ao, cap, rfl⟩ : ∃ ao cap, v = .slice ao ps.length cap := by
    rcases hown.2 with ⟨hv, h0⟩ | ⟨g, cap, cur, hv, h1, h2, _⟩
    · rw [hv, h0]; exact ⟨none, 0, rfl⟩
    · exact ⟨_, cap, hv⟩
  have HL := hide (below_set (w := w) (o := 0) hlo hN (.slice ao ps.length cap))
  have HW : Hid (Wtr (w.setCell ⟨b, 0, none⟩ (.slice ao ps.length cap)) N b ps r) := by
    have hs := heap_setCell_at (o := 0) hbk (.slice ao ps.length cap)
    refine ⟨hlo, _, hs, ?_, hne⟩
    have hk := keepsW w b 0 (.slice ao ps.length cap)
    refine ⟨hown.1, hown.2.imp id fun ⟨q, cp, cu, e1, e2, e3, e4⟩ => ⟨q, cp, cu, e1, e2, (hk.block q (lt_of_block e3) (fun e => ?_)).trans e3, e4⟩⟩
    subst e
    rw [e1] at hne
    simp [Value.ownBlock] at hne
  have HO := hide hown
  clear hown hne hbk
  go_enter Tryz.func14, Tryz.ntmps14
  go_wp2_with (at_builtin; refine wpList_append_own_none rfl _ _ 44 rfl N 9 i0 1 Tryz.underlying44 hi _ _ _ rfl (unhide HO) rfl ?_)
  go_end0
  exact ⟨rfl, unhide HW, unhide HL⟩
end Go.Proofs.YtgdabnkjipcbhaaGreatDoor
