import Derived.Test.YtiinohibmcefkaaGreatDoorZzbu
import Derived.Test.YtiinohibmcefkaaGreatDoorZzbh
import Derived.Test.YtiinohibmcefkaaGreatDoorZzbj
import Derived.Test.YtiinohibmcefkaaGreatDoorZzbl
import Derived.Deep.DeepCutAuto
namespace Go.Proofs.YtiinohibmcefkaaGreatDoor
open Go.RowKit Go.Maps

set_option maxRecDepth 100000 in
set_option maxHeartbeats 2000000 in
/-- Does the list have that name? -/
theorem hasName_v (l : List Txt) (hl : l.length ≤ 1000) (nm : Txt) (lv : Value) (w : World) (h : RowAt w lv l.length (nmC l)) :
    Calls Tryz.prog 21 #[lv, str nm] w fun e w' => e = .returned (.bool (decide (nm ∈ l))) ∧ Keeps (fun _ => False) w w' := by
  obtain ⟨ao, cap, rfl⟩ := RowAt.form h
  have HA := hide h
  clear h
  obtain ⟨R, hR⟩ : ∃ R, decide (nm ∈ l) = R := ⟨_, rfl⟩
  rw [hR]
  have HRR := hide hR
  clear hR
  go_enter Tryz.func21, Tryz.ntmps21
  go_wp2_with fail
  go_loopw [5] (fun i wr => ∃ k : Nat, k ≤ l.length ∧ i = .int .i64 k ∧ Hid (decide (nm ∈ l.drop k) = R) ∧ Keeps (fun _ => False) w wr) (fun i _ => l.length - (intOf i).toNat)
  case atStart => exact ⟨0, Nat.zero_le _, rfl, HRR, Keeps.refl _ _⟩
  case round =>
    obtain ⟨k, hk, rfl, HT, hkp⟩ := hrel
    have HK := hide hkp
    by_cases hlt : k < l.length
    · obtain ⟨b, off, c1, e1, hbl, hc⟩ := (unhide HA).cells (by omega)
      simp at e1
      obtain ⟨rfl, rfl⟩ := e1
      obtain ⟨x, hx⟩ : ∃ x, l[k]? = some x := ⟨_, List.getElem?_eq_getElem hlt⟩
      have c0 := (hkp.cell hbl id).trans (hc k (str x) (by unfold nmC; rw [List.getElem?_map, hx]; rfl))
      have i1 : (k : Int) < (l.length : Int) := by omega
      have i0 : (0 : Int) ≤ (k : Int) := by omega
      have hdrop : l.drop k = x :: l.drop (k + 1) := by
        have := List.drop_eq_getElem_cons hlt
        rw [List.getElem?_eq_getElem hlt] at hx
        simp at hx
        rw [this, hx]
      have HD := hide hdrop
      clear hc hx hkp hdrop
      by_cases hq : x = nm
      · subst hq
        go_wp2_with fail
        go_ret
        refine ⟨?_, unhide HK⟩
        rw [← unhide HT, unhide HD]
        simp
      · have hne : (x == nm) = false := by simpa using hq
        go_wp2_with fail
        go_roundw
        case rel =>
          refine ⟨k + 1, by omega, by go_num, ?_, unhide HK⟩
          refine hide ?_
          rw [← unhide HT, unhide HD]
          simp [Ne.symm hq]
        case measure => simp [intOf]; omega
    · have i1 : ¬ (k : Int) < (l.length : Int) := by omega
      have hk2 : k = l.length := by omega
      clear hkp
      go_wp2_with fail
      go_ret
      refine ⟨?_, unhide HK⟩
      rw [← unhide HT, hk2]
      simp
/-- What Fields leaves. -/
def FdPost (S : List FieldA) (l : SL) (w : World) (e : Ending) (w' : World) : Prop :=
  ∃ rv wv, e = .returned (.tuple #[rv, wv, .int .i64 (fieldsP S l).2.2]) ∧ NmAt w' w.heap.size rv (fieldsP S l).1 ∧ NmAt w' w.heap.size wv (fieldsP S l).2.1 ∧ Keeps (fun _ => False) w w'
theorem tfields_v (Z : Zone) (S : List FieldA) (l : SL) (hsz : l.size ≤ 4294967294) (sv pv : Value) (w : World) (up : Nat) (hT : Types w) (hF : Forms w) (hf : FldsAt w sv S) (hp : SlS Z w up pv l) :
    Calls Tryz.prog 20 #[.agg #[sv], pv] w (FdPost S l w) := by
  by_cases hE : (checkP S l).1 = 0
  · refine (tfields_fit Z S l hsz sv pv w up hT hF hf hp hE).mono ?_
    rintro e w' ⟨rv, wv, he, h1, h2, h3⟩
    unfold FdPost fieldsP
    rw [if_neg (by simpa using hE)]
    exact ⟨rv, wv, he, h1, h2, h3⟩
  · refine (tfields_bad Z S l hsz sv pv w up hT hF hf hp hE).mono ?_
    rintro e w' ⟨he, h3⟩
    unfold FdPost fieldsP
    rw [if_pos hE]
    exact ⟨_, _, he, World.ownsRow_nil _ _ 9 1, World.ownsRow_nil _ _ 9 1, h3⟩

/-- As opsB, with guards. -/
def opsG (dl : List Nat) (sz : Nat) : Nat → List Oper → Bool
  | _, [] => true
  | i, o :: r => decide (o.dst = some (dl.getD i 0)) && decide (dl.getD i 0 < sz) && o.after.toList.all (fun e => !Region.binds .any e || decide (e.on < i)) && opsG dl sz (i + 1) r
theorem opsG_at {dl : List Nat} {sz : Nat} : ∀ {l : List Oper} {k : Nat}, opsG dl sz k l = true → ∀ (j : Nat) (o : Oper), l[j]? = some o → o.dst = some (dl.getD (k + j) 0) ∧ dl.getD (k + j) 0 < sz ∧ ∀ e ∈ o.after, Region.binds .any e = true → e.on < k + j
  | [], _, _, j, o, h => by simp at h
  | x :: r, k, hB, 0, o, h => by
    simp at h
    subst h
    simp only [opsG, Bool.and_eq_true, decide_eq_true_eq] at hB
    obtain ⟨⟨⟨h1, h3⟩, h4⟩, _⟩ := hB
    refine ⟨h1, h3, fun e he hb => ?_⟩
    have := List.all_eq_true.1 h4 e (by simpa using he)
    simpa [hb] using this
  | x :: r, k, hB, j + 1, o, h => by
    simp only [opsG, Bool.and_eq_true] at hB
    have := opsG_at hB.2 j o (by simpa using h)
    rw [show k + 1 + j = k + (j + 1) by omega] at this
    exact this
section
variable {P : Program} {ops : Array Oper} {Q : Exit → Act → World → Prop}
/-- A region that draws its order, some of whose operations are guarded, by what each of its slots holds. -/
theorem wp_region_gtable {id : Nat} {a0 : Act} {w0 X : World} (hm : P.follows .mixedOrders = true) (dl : List Nat) (hn : dl.Nodup) (hlen : dl.length = ops.size) (hB : opsG dl a0.tmps.size 0 ops.toList = true)
    (hX : Keeps (fun _ => False) X w0)
    (F : Nat → Value → World → Prop) (hF : ∀ i v w w', F i v w → Keeps (fun _ => False) w w' → F i v w')
    (hs : ∀ (i : Nat) (o : Oper) (a : Act) (w : World), ops[i]? = some o → Same a0 ops.size (fun i => dl.getD i 0) a → Keeps (fun _ => False) X w → (∀ e ∈ o.after, Region.binds .any e = true → F e.on (a.tmps.getD (dl.getD e.on 0) undef) w) →
      ∀ K' : Act → World → Prop, (∀ v w', F i v w' → Keeps (fun _ => False) w w' → K' (a.put o.dst v) w') → if Region.wanted o (yielded ops a.tmps) = true then Oper.wp P o a w K' Q else K' (a.put o.dst undef) w)
    (he : ∀ (a : Act) (w : World), Same a0 ops.size (fun i => dl.getD i 0) a → Keeps (fun _ => False) X w → (∀ i, i < ops.size → F i (a.tmps.getD (dl.getD i 0) undef) w) → Q .normal a w) : (Code.region id ops true).wp P Q a0 w0 := by
  have hat : ∀ (i : Nat) (o : Oper), ops[i]? = some o → o.dst = some (dl.getD i 0) ∧ dl.getD i 0 < a0.tmps.size ∧ ∀ e ∈ o.after, Region.binds .any e = true → e.on < i := fun i o ho => by
    have := opsG_at hB i o (by simpa using ho)
    rwa [Nat.zero_add] at this
  have hinj : ∀ i j, i < ops.size → j < ops.size → dl.getD i 0 = dl.getD j 0 → i = j := fun i j hi hj e => by
    have hi' : i < dl.length := by omega
    have hj' : j < dl.length := by omega
    have e' : dl[i] = dl[j] := by
      have := e
      simp only [List.getD_eq_getElem?_getD, List.getElem?_eq_getElem hi', List.getElem?_eq_getElem hj'] at this
      exact this
    exact (List.getElem?_inj hi' hn).1 (by rw [List.getElem?_eq_getElem hi', List.getElem?_eq_getElem hj', e'])
  refine wp_region_invB hm (fun i o ho => (hat i o ho).2.2) (fun d a w => Same a0 ops.size (fun i => dl.getD i 0) a ∧ Keeps (fun _ => False) X w ∧ ∀ i, i < ops.size → d i = true → F i (a.tmps.getD (dl.getD i 0) undef) w) ?_ ?_ ?_
  · exact ⟨⟨rfl, rfl, fun _ _ => rfl⟩, hX.drew, fun i _ h => by cases h⟩
  · rintro d a w i o ⟨h1, h2, h3⟩ hd ho hall
    have hi : i < ops.size := (Array.getElem?_eq_some_iff.1 ho).1
    obtain ⟨q1, q3, q4⟩ := hat i o ho
    refine wpOp_step ho (fun K' hK => ?_)
    refine hs i o a w ho h1 h2 (fun e he hb => h3 e.on (Nat.lt_trans (q4 e he hb) hi) (hall e he hb)) K' fun v w' hv hk => ?_
    rw [q1]
    refine hK _ _ ⟨h1.put hi v, h2.trans hk, fun j hj hm => ?_⟩
    by_cases hij : j = i
    · subst hij
      rw [put_get a (dl.getD j 0) v (by rw [h1.size]; exact q3)]
      exact hv
    · rw [put_get_ne a v (fun e => hij (hinj j i hj hi e.symm))]
      refine hF _ _ _ _ (h3 j hj ?_) hk
      unfold mark at hm
      rwa [if_neg hij] at hm
  · rintro d a w ⟨h1, h2, h3⟩ hd
    exact he a w h1 h2 (fun i hi => h3 i hi (hd i hi))
theorem g_plain {o : Oper} {a : Act} {w : World} {K : Act → World → Prop} (hg : o.guard = none) (h : Oper.wp P o a w K Q) : if Region.wanted o (yielded ops a.tmps) = true then Oper.wp P o a w K Q else K (a.put o.dst undef) w := by
  rw [if_pos (by simp [Region.wanted, hg])]
  exact h
theorem yields {a : Act} {j d : Nat} {b : Bool} (h1 : (ops[j]?).bind (·.dst) = some d) (h2 : a.tmps.getD d undef = .bool b) : yielded ops a.tmps j = some b := by
  unfold yielded
  rw [h1]
  rw [Array.getD_eq_getD_getElem?] at h2
  cases hd : a.tmps[d]? with
  | none => rw [hd] at h2; cases h2
  | some x =>
    rw [hd] at h2
    have h2' : x = .bool b := h2
    subst h2'
    simp [hd]
theorem g_yes {o : Oper} {a : Act} {w : World} {K : Act → World → Prop} {j : Nat} {b : Bool} (hg : o.guard = some (j, b)) (hy : yielded ops a.tmps j = some b) (h : Oper.wp P o a w K Q) : if Region.wanted o (yielded ops a.tmps) = true then Oper.wp P o a w K Q else K (a.put o.dst undef) w := by
  rw [if_pos (by simp [Region.wanted, hg, hy])]
  exact h
theorem g_no {o : Oper} {a : Act} {w : World} {K : Act → World → Prop} {j : Nat} {b c : Bool} (hg : o.guard = some (j, b)) (hy : yielded ops a.tmps j = some c) (hbc : c ≠ b) (h : K (a.put o.dst undef) w) : if Region.wanted o (yielded ops a.tmps) = true then Oper.wp P o a w K Q else K (a.put o.dst undef) w := by
  rw [if_neg (by simp [Region.wanted, hg, hy, hbc])]
  exact h
end
/-- A value that is a statement with one expression and no others in it. -/
def isS1 (w : World) (v : Value) (k : Int) (nm : Txt) (e : XE) : Prop := ∃ xv tv ev, v = .agg #[.int .i64 k, str nm, xv, tv, ev] ∧ isL w xv (e.el .nil) ∧ isP w tv .nil ∧ isP w ev .nil
theorem isS1.keep {w w' : World} {v : Value} {k : Int} {nm : Txt} {e : XE} (h : isS1 w v k nm e) (hk : Keeps (fun _ => False) w w') : isS1 w' v k nm e := by
  obtain ⟨xv, tv, ev, e1, h1, h2, h3⟩ := h
  exact ⟨xv, tv, ev, e1, h1.keep hk, h2.keep hk, h3.keep hk⟩
theorem isP_new {w : World} {l : SL} {xs : List Value} (h : SsIn (argZ w.heap.size) w l xs) : isP (w.alloc (.cells xs.toArray 39)) (.slice (some ⟨w.heap.size, 0, none⟩) l.len l.len) l := by
  obtain ⟨HB, hxb, hxc⟩ := boxed w xs.toArray 39
  refine ⟨_, _, rfl, Nat.le_refl _, fun _ => ⟨w.heap.size, 0, rfl, trivial, (h.argKeep (unhide HB) (fun _ q => q.elim)).stIn hxb (Nat.le_refl _) (fun j x hx => ?_)⟩⟩
  rw [Nat.zero_add]
  exact hxc j x (by simpa using hx)
section
variable {Q : Exit → Act → World → Prop} {K : Act → World → Prop} {o : Oper} {a : Act} {w : World}
theorem step_fieldF0 {t b : Nat} (ho : o.op = .fieldAddr 47 (.tmp t) 0) (ht : a.tmps.getD t undef = .pointer (some ⟨b, 0, none⟩)) (hk : K (a.put o.dst (.pointer (some ⟨b, 0, none⟩))) w) : Oper.wp Tryz.prog o a w K Q := by
  have he := slot_of ht
  unfold Oper.wp
  simp [execOp, ho, he, go_sem]
  exact hk
theorem step_load47 {t g : Nat} {x y z : Value} (ho : o.op = .load 47 (.tmp t)) (ht : a.tmps.getD t undef = .pointer (some ⟨g, 0, none⟩)) (hg : w.heap[g]? = some (.cells #[x, y, z] 47 (0, 0))) (hk : K (a.put o.dst (.agg #[x, y, z])) w) : Oper.wp Tryz.prog o a w K Q :=
  wp_load_row 47 (.tmp t) ho g ht 47 #[x, y, z] (0, 0) _ hg Tryz.underlying47 rfl (by kernel_rfl) hk
theorem step_load39b {t g : Nat} {k : Int} {nm : Txt} (ho : o.op = .load 39 (.tmp t)) (ht : a.tmps.getD t undef = .pointer (some ⟨g, 0, none⟩)) (hg : w.heap[g]? = some (.cells #[.int .i64 k, str nm, .slice none 0 0, .slice none 0 0, .slice none 0 0] 39 (0, 0))) (hk : K (a.put o.dst (stB k nm)) w) : Oper.wp Tryz.prog o a w K Q :=
  wp_load_row 39 (.tmp t) ho g ht 39 _ (0, 0) _ hg Tryz.underlying39 rfl (by kernel_rfl) hk
set_option maxRecDepth 100000 in
theorem step_c15 {t : Nat} {k : Int} {nm : Txt} (ho : o.op = .call { callee := .value (.func 15), args := #[.const (.int .i64 k), .tmp t], argTypes := #[3, 9] }) (ht : a.tmps.getD t undef = str nm)
    (hk : ∀ w', Keeps (fun _ => False) w w' → K (a.put o.dst (stB k nm)) w') : Oper.wp Tryz.prog o a w K Q := by
  have he := slot_of ht
  unfold Oper.wp
  simp [execOp, ho, he, go_sem]
  refine (stmt_v k nm w).mono ?_
  rintro e w' ⟨rfl, h2⟩
  exact hk _ h2
set_option maxRecDepth 100000 in
theorem step_c16 {t u : Nat} {k : Int} {nm : Txt} {x : XE} (ho : o.op = .call { callee := .value (.func 16), args := #[.tmp t, .tmp u], argTypes := #[39, 27] }) (ht : a.tmps.getD t undef = stB k nm) (hu : isE w (a.tmps.getD u undef) x)
    (hk : ∀ v' w', isS1 w' v' k nm x → Keeps (fun _ => False) w w' → K (a.put o.dst v') w') : Oper.wp Tryz.prog o a w K Q := by
  obtain ⟨kv, e2, hx⟩ := hu
  have h1 := slot_of ht
  have h2 := slot_of e2
  unfold Oper.wp
  simp [execOp, ho, h1, h2, go_sem]
  refine (with_v k nm x kv w hx).mono ?_
  rintro e w' ⟨v, rfl, ⟨xv, rfl, h3⟩, h4⟩
  exact hk _ _ ⟨xv, _, _, rfl, h3, isP_nil _, isP_nil _⟩ h4
set_option maxRecDepth 100000 in
set_option maxHeartbeats 2000000 in
theorem step_c19 {t u : Nat} {f : FieldA} {x : XE} (ho : o.op = .call { callee := .value (.func 19), args := #[.tmp t, .tmp u], argTypes := #[47, 27] }) (ht : a.tmps.getD t undef = .agg #[str f.name, .int .i64 f.type, .bool f.opt]) (hu : isE w (a.tmps.getD u undef) x)
    (hk : ∀ v' w', isE w' v' (plainOrX f x) → Keeps (fun _ => False) w w' → K (a.put o.dst v') w') : Oper.wp Tryz.prog o a w K Q := by
  obtain ⟨kv, e2, hx⟩ := hu
  have h1 := slot_of ht
  have h2 := slot_of e2
  unfold Oper.wp
  simp [execOp, ho, h1, h2, go_sem]
  refine (plainOr_v f x kv w hx).mono ?_
  rintro e w' ⟨v, rfl, h3, h4⟩
  exact hk _ _ h3 h4
set_option maxRecDepth 100000 in
theorem step_c17 {t1 t2 t3 t4 : Nat} {S : List FieldA} {h : Bool} {vals : List ValA} {p q : SL} {sv u : Value} (ho : o.op = .call { callee := .value (.func 17), args := #[.tmp t1, .tmp t2, .tmp t3, .tmp t4], argTypes := #[24, 31, 28, 28] }) (h1 : a.tmps.getD t1 undef = .agg #[sv]) (h2 : a.tmps.getD t2 undef = .agg #[.bool h, u]) (hp : isP w (a.tmps.getD t3 undef) p) (hq : isP w (a.tmps.getD t4 undef) q)
    (z1 : p.size ≤ 4294967294) (z2 : q.size ≤ 4294967294) (hT : Types w) (hF : Forms w) (hf : FldsAt w sv S) (hu : ValsAt w u vals) (hlaw : AlikeP S h vals p q)
    (hk : ∀ w', Keeps (fun _ => False) w w' → K (a.put o.dst (.bool true)) w') : Oper.wp Tryz.prog o a w K Q := by
  have HC := alike_v S h vals p q z1 z2 _ _ _ _ w hT hF hf hu hp hq
  obtain ⟨po, pc, e3, _⟩ := SlS.head hp
  obtain ⟨qo, qc, e4, _⟩ := SlS.head hq
  rw [e3, e4] at HC
  have j1 := slot_of h1
  have j2 := slot_of h2
  have j3 := slot_of e3
  have j4 := slot_of e4
  unfold Oper.wp
  simp [execOp, ho, j1, j2, j3, j4, go_sem]
  refine HC.mono ?_
  rintro e w' ⟨r, rfl, h5, h6⟩
  obtain rfl := h5 hlaw
  exact hk _ h6
set_option maxRecDepth 100000 in
theorem step_c17n {t1 t2 t4 : Nat} {S : List FieldA} {h : Bool} {vals : List ValA} {q : SL} {sv u : Value} (ho : o.op = .call { callee := .value (.func 17), args := #[.tmp t1, .tmp t2, .const (.slice none 0 0), .tmp t4], argTypes := #[24, 31, 28, 28] }) (h1 : a.tmps.getD t1 undef = .agg #[sv]) (h2 : a.tmps.getD t2 undef = .agg #[.bool h, u]) (hq : isP w (a.tmps.getD t4 undef) q)
    (z2 : q.size ≤ 4294967294) (hT : Types w) (hF : Forms w) (hf : FldsAt w sv S) (hu : ValsAt w u vals) (hlaw : AlikeP S h vals .nil q)
    (hk : ∀ w', Keeps (fun _ => False) w w' → K (a.put o.dst (.bool true)) w') : Oper.wp Tryz.prog o a w K Q := by
  have HC := alike_v S h vals .nil q (by simp [SL.size]) z2 _ _ (.slice none 0 0) _ w hT hF hf hu (isP_nil w) hq
  obtain ⟨qo, qc, e4, _⟩ := SlS.head hq
  rw [e4] at HC
  have j1 := slot_of h1
  have j2 := slot_of h2
  have j4 := slot_of e4
  unfold Oper.wp
  simp [execOp, ho, j1, j2, j4, go_sem]
  refine HC.mono ?_
  rintro e w' ⟨r, rfl, h5, h6⟩
  obtain rfl := h5 hlaw
  exact hk _ h6
set_option maxRecDepth 100000 in
theorem step_p1 {t : Nat} {k : Int} {nm : Txt} {x : XE} (ho : o.op = .buildSlice 28 1 #[(0, .tmp t)]) (ht : isS1 w (a.tmps.getD t undef) k nm x)
    (hk : ∀ v' w', isP w' v' (st1 k nm x .nil) → Keeps (fun _ => False) w w' → K (a.put o.dst v') w') : Oper.wp Tryz.prog o a w K Q := by
  obtain ⟨xv, tv, ev, e1, h1, h2, h3⟩ := ht
  obtain ⟨xo, xc, rfl, _⟩ := SlE.head h1
  obtain ⟨ta, tc, rfl, _⟩ := SlS.head h2
  obtain ⟨eo, ec, rfl, _⟩ := SlS.head h3
  have he := slot_of e1
  have hl := isP_new (w := w) (l := st1 k nm x .nil) (xs := [.int .i64 k, str nm, .slice xo (x.el .nil).len xc, .slice ta SL.nil.len tc, .slice eo SL.nil.len ec]) ⟨_, _, _, _, rfl, h1, h2, h3, rfl⟩
  unfold Oper.wp
  simp [execOp, ho, he, go_sem]
  exact hk _ _ hl (kAlloc w _)
set_option maxRecDepth 100000 in
theorem step_p2 {t t2 : Nat} {k k2 : Int} {nm nm2 : Txt} {x x2 : XE} (ho : o.op = .buildSlice 28 2 #[(0, .tmp t), (1, .tmp t2)]) (ht : isS1 w (a.tmps.getD t undef) k nm x) (ht2 : isS1 w (a.tmps.getD t2 undef) k2 nm2 x2)
    (hk : ∀ v' w', isP w' v' (st1 k nm x (st1 k2 nm2 x2 .nil)) → Keeps (fun _ => False) w w' → K (a.put o.dst v') w') : Oper.wp Tryz.prog o a w K Q := by
  obtain ⟨xv, tv, ev, e1, h1, h2, h3⟩ := ht
  obtain ⟨xo, xc, rfl, _⟩ := SlE.head h1
  obtain ⟨ta, tc, rfl, _⟩ := SlS.head h2
  obtain ⟨eo, ec, rfl, _⟩ := SlS.head h3
  obtain ⟨yv, uv, fv, e2, j1, j2, j3⟩ := ht2
  obtain ⟨yo, yc, rfl, _⟩ := SlE.head j1
  obtain ⟨uo, uc, rfl, _⟩ := SlS.head j2
  obtain ⟨fo, fc, rfl, _⟩ := SlS.head j3
  have he := slot_of e1
  have he2 := slot_of e2
  have hl := isP_new (w := w) (l := st1 k nm x (st1 k2 nm2 x2 .nil)) (xs := [.int .i64 k, str nm, .slice xo (x.el .nil).len xc, .slice ta SL.nil.len tc, .slice eo SL.nil.len ec, .int .i64 k2, str nm2, .slice yo (x2.el .nil).len yc, .slice uo SL.nil.len uc, .slice fo SL.nil.len fc]) ⟨_, _, _, _, rfl, h1, h2, h3, ⟨_, _, _, _, rfl, j1, j2, j3, rfl⟩⟩
  unfold Oper.wp
  simp [execOp, ho, he, he2, go_sem]
  exact hk _ _ hl (kAlloc w _)
theorem step_bField {t : Nat} {nm : Txt} (ho : o.op = .build 27 #[(0, .const (.int .i64 4)), (2, .tmp t)]) (ht : a.tmps.getD t undef = str nm) (hk : ∀ v', isE w v' (fldX nm) → K (a.put o.dst v') w) : Oper.wp Tryz.prog o a w K Q := by
  have he := slot_of ht
  unfold Oper.wp
  simp [execOp, ho, he, go_sem]
  exact hk _ ⟨_, rfl, slE_nil _ _ _⟩
theorem step_bHere (ho : o.op = .build 27 #[(0, .const (.int .i64 6))]) (hk : ∀ v', isE w v' hereX → K (a.put o.dst v') w) : Oper.wp Tryz.prog o a w K Q := by
  unfold Oper.wp
  simp [execOp, ho, go_sem]
  exact hk _ ⟨_, rfl, slE_nil _ _ _⟩
theorem step_bIf {t : Nat} {x : XE} (ho : o.op = .build 39 #[(0, .const (.int .i64 8)), (2, .tmp t)]) (ht : isL w (a.tmps.getD t undef) (x.el .nil)) (hk : ∀ v', isS1 w v' 8 [] x → K (a.put o.dst v') w) : Oper.wp Tryz.prog o a w K Q := by
  have ht' := ht
  obtain ⟨xo, xc, e, _⟩ := SlE.head ht
  have he := slot_of e
  rw [e] at ht'
  unfold Oper.wp
  simp [execOp, ho, he, go_sem]
  exact hk _ ⟨_, _, _, rfl, ht', isP_nil _, isP_nil _⟩
theorem step_index28 {t kb ko n cap : Nat} (ho : o.op = .indexAddr 28 (.tmp t) (.const (.int .i64 0))) (ht : a.tmps.getD t undef = .slice (some ⟨kb, ko, none⟩) n cap) (hj : 0 < n) (hk : K (a.put o.dst (.pointer (some ⟨kb, ko, none⟩))) w) : Oper.wp Tryz.prog o a w K Q := by
  have he := slot_of ht
  unfold Oper.wp
  simp [execOp, ho, he, go_sem, hj]
  exact hk
/-- What Fields answers, as a value. -/
def isFd (w : World) (v : Value) (S : List FieldA) (l : SL) : Prop := ∃ rv wv, v = .tuple #[rv, wv, .int .i64 (fieldsP S l).2.2] ∧ RowAt w rv (fieldsP S l).1.length (nmC (fieldsP S l).1)
theorem isFd.keep {w w' : World} {v : Value} {S : List FieldA} {l : SL} (h : isFd w v S l) (hk : Keeps (fun _ => False) w w') : isFd w' v S l := by
  obtain ⟨rv, wv, e, h1⟩ := h
  exact ⟨rv, wv, e, h1.keepF hk⟩
set_option maxRecDepth 100000 in
theorem step_c20 {t u : Nat} {S : List FieldA} {l : SL} {sv : Value} (ho : o.op = .call { callee := .value (.func 20), args := #[.tmp t, .tmp u], argTypes := #[24, 28] }) (ht : a.tmps.getD t undef = .agg #[sv]) (hu : isP w (a.tmps.getD u undef) l) (hz : l.size ≤ 4294967294) (hT : Types w) (hF : Forms w) (hf : FldsAt w sv S)
    (hk : ∀ v' w', isFd w' v' S l → Keeps (fun _ => False) w w' → K (a.put o.dst v') w') : Oper.wp Tryz.prog o a w K Q := by
  obtain ⟨po, pc, e2, _⟩ := SlS.head hu
  have h1 := slot_of ht
  have h2 := slot_of e2
  have HC := tfields_v _ S l hz sv _ w 0 hT hF hf hu
  rw [e2] at HC
  unfold Oper.wp
  simp [execOp, ho, h1, h2, go_sem]
  refine HC.mono ?_
  rintro e w' ⟨rv, wv, rfl, h3, _, h4⟩
  exact hk _ _ ⟨rv, wv, rfl, rowAt_own h3⟩ h4
theorem step_ex0F {t : Nat} {S : List FieldA} {l : SL} (ho : o.op = .extract (.tmp t) 0) (ht : isFd w (a.tmps.getD t undef) S l) (hk : ∀ v', RowAt w v' (fieldsP S l).1.length (nmC (fieldsP S l).1) → K (a.put o.dst v') w) : Oper.wp Tryz.prog o a w K Q := by
  obtain ⟨rv, wv, e, h1⟩ := ht
  have he := slot_of e
  unfold Oper.wp
  simp [execOp, ho, he, go_sem]
  exact hk _ h1
theorem step_ex1F {t : Nat} {S : List FieldA} {l : SL} (ho : o.op = .extract (.tmp t) 1) (ht : isFd w (a.tmps.getD t undef) S l) (hk : ∀ v', K (a.put o.dst v') w) : Oper.wp Tryz.prog o a w K Q := by
  obtain ⟨rv, wv, e, h1⟩ := ht
  have he := slot_of e
  unfold Oper.wp
  simp [execOp, ho, he, go_sem]
  exact hk _
theorem step_ex2F {t : Nat} {S : List FieldA} {l : SL} (ho : o.op = .extract (.tmp t) 2) (ht : isFd w (a.tmps.getD t undef) S l) (hk : K (a.put o.dst (.int .i64 (fieldsP S l).2.2)) w) : Oper.wp Tryz.prog o a w K Q := by
  obtain ⟨rv, wv, e, h1⟩ := ht
  have he := slot_of e
  unfold Oper.wp
  simp [execOp, ho, he, go_sem]
  exact hk
set_option maxRecDepth 100000 in
theorem step_c21 {t u : Nat} {l : List Txt} {nm : Txt} {v : Value} (ho : o.op = .call { callee := .value (.func 21), args := #[.tmp t, .tmp u], argTypes := #[53, 9] }) (ht : a.tmps.getD t undef = v) (hv : RowAt w v l.length (nmC l)) (hl : l.length ≤ 1000) (hu : a.tmps.getD u undef = str nm)
    (hk : ∀ w', Keeps (fun _ => False) w w' → K (a.put o.dst (.bool (decide (nm ∈ l)))) w') : Oper.wp Tryz.prog o a w K Q := by
  have HC := hasName_v l hl nm v w hv
  obtain ⟨ao, cap, rfl⟩ := RowAt.form hv
  have h1 := slot_of ht
  have h2 := slot_of hu
  unfold Oper.wp
  simp [execOp, ho, h1, h2, go_sem]
  refine HC.mono ?_
  rintro e w' ⟨rfl, h4⟩
  exact hk _ h4
theorem step_neq35 {t : Nat} {n : Int} {b : Bool} (ho : o.op = .binOp .neq 35 (.tmp t) (.const (.int .i64 0)) 35) (ht : a.tmps.getD t undef = .int .i64 n) (hb : (n != 0) = b) (hk : K (a.put o.dst (.bool b)) w) : Oper.wp Tryz.prog o a w K Q := by
  have he := slot_of ht
  unfold Oper.wp
  simp [execOp, ho, he, go_sem, hb]
  exact hk
theorem step_pickT {t u : Nat} (ho : o.op = .pick (.tmp t) (.const (.bool true)) (.tmp u)) (ht : a.tmps.getD t undef = .bool true) (hk : K (a.put o.dst (.bool true)) w) : Oper.wp Tryz.prog o a w K Q := by
  have he := slot_of ht
  unfold Oper.wp
  simp [execOp, ho, he, go_sem]
  exact hk
theorem step_pickF {t u : Nat} {v : Value} (ho : o.op = .pick (.tmp t) (.const (.bool true)) (.tmp u)) (ht : a.tmps.getD t undef = .bool false) (hu : a.tmps.getD u undef = v) (hk : K (a.put o.dst v) w) : Oper.wp Tryz.prog o a w K Q := by
  have he := slot_of ht
  have he2 := slot_of hu
  unfold Oper.wp
  simp [execOp, ho, he, he2, go_sem]
  exact hk
end
end Go.Proofs.YtiinohibmcefkaaGreatDoor
