import Derived.Test.YtiinohibmcefkaaGreatDoorJzag
import Derived.Test.YtiinohibmcefkaaGreatDoorJzaq
import Derived.Deep.AppendLies
import Derived.Deep.DeepCutAuto
namespace Go.Proofs.YtiinohibmcefkaaGreatDoor
open Go.RowKit Go.Maps
section
variable {P : Program} {ops : Array Oper} {Q : Exit → Act → World → Prop}
theorem wp_region_last2 {id : Nat} {a0 : Act} {w0 X : World} (hm : P.follows .mixedOrders = true) (m : Nat) (hsz : ops.size = m + 2) (os oz : Oper) (hos : ops[m]? = some os) (hoz : ops[m + 1]? = some oz) (hog : os.guard = none) (hzg : oz.guard = none) (hoa : ∀ e ∈ os.after, e.on < m) (hza : ∀ e ∈ oz.after, e.on < m + 1) (hcov : coverB ops m (waitsL os) = true) (hcov2 : coverB ops (m + 1) (waitsL oz) = true)
  (dl : List Nat) (hn : dl.Nodup) (hlen : dl.length = m) (hB : opsB dl a0.tmps.size 0 (ops.toList.take m) = true)
  (hX : Keeps (fun _ => False) X w0)
  (F : Nat → Value → World → Prop) (hF : ∀ i v w w', F i v w → Keeps (fun _ => False) w w' → F i v w')
  (hs : ∀ (i : Nat) (o : Oper) (a : Act) (w : World), i < m → ops[i]? = some o → Same a0 m (fun i => dl.getD i 0) a → Keeps (fun _ => False) X w → (∀ e ∈ o.after, Region.binds .any e = true → F e.on (a.tmps.getD (dl.getD e.on 0) undef) w) →
    ∀ K' : Act → World → Prop, (∀ v w', F i v w' → Keeps (fun _ => False) w w' → K' (a.put o.dst v) w') → Oper.wp P o a w K' Q)
  (Mid : Act → World → Prop)
  (he : ∀ (a : Act) (w : World), Same a0 m (fun i => dl.getD i 0) a → Keeps (fun _ => False) X w → (∀ i, i < m → F i (a.tmps.getD (dl.getD i 0) undef) w) →
    ∀ K' : Act → World → Prop, (∀ a' w', Mid a' w' → K' a' w') → Oper.wp P os a w K' Q)
  (he2 : ∀ (a : Act) (w : World), Mid a w → ∀ K' : Act → World → Prop, (∀ a' w', Q .normal a' w' → K' a' w') → Oper.wp P oz a w K' Q) : (Code.region id ops true).wp P Q a0 w0 := by
 have hat : ∀ (i : Nat) (o : Oper), i < m → ops[i]? = some o → o.dst = some (dl.getD i 0) ∧ o.guard = none ∧ dl.getD i 0 < a0.tmps.size ∧ ∀ e ∈ o.after, e.on < i := fun i o hi ho => by
  have := opsB_at hB i o (by rw [List.getElem?_take_of_lt hi]; simpa using ho)
  rwa [Nat.zero_add] at this
 have hinj : ∀ i j, i < m → j < m → dl.getD i 0 = dl.getD j 0 → i = j := fun i j hi hj e => by
  have hi' : i < dl.length := by omega
  have hj' : j < dl.length := by omega
  have e' : dl[i] = dl[j] := by
   have := e
   simp only [List.getD_eq_getElem?_getD, List.getElem?_eq_getElem hi', List.getElem?_eq_getElem hj'] at this
   exact this
  exact (List.getElem?_inj hi' hn).1 (by rw [List.getElem?_eq_getElem hi', List.getElem?_eq_getElem hj', e'])
 have hlt : ∀ (i : Nat) (o : Oper), ops[i]? = some o → i < m ∨ i = m ∨ i = m + 1 := fun i o ho => by
  have := (Array.getElem?_eq_some_iff.1 ho).1
  omega
 have hac : ∀ (i : Nat) (o : Oper), ops[i]? = some o → ∀ e ∈ o.after, e.on < i := fun i o ho => by
  rcases hlt i o ho with hi | rfl | rfl
  ·exact (hat i o hi ho).2.2.2
  ·rw [hos] at ho
   obtain rfl := Option.some.inj ho
   exact hoa
  ·rw [hoz] at ho
   obtain rfl := Option.some.inj ho
   exact hza
 refine wp_region_inv hm hac (fun d a w => (∀ (i : Nat) (o : Oper), ops[i]? = some o → d i = true → ∀ e ∈ o.after, Region.binds .any e = true → d e.on = true) ∧ ((d m = false ∧ d (m + 1) = false ∧ Same a0 m (fun i => dl.getD i 0) a ∧ Keeps (fun _ => False) X w ∧ ∀ i, i < m → d i = true → F i (a.tmps.getD (dl.getD i 0) undef) w) ∨ (d m = true ∧ d (m + 1) = false ∧ Mid a w) ∨ (d (m + 1) = true ∧ Q .normal a w))) ?_ ?_ ?_
 ·exact ⟨(fun i o _ h => by cases h), Or.inl ⟨rfl, rfl, ⟨rfl, rfl, fun _ _ => rfl⟩, hX.drew, (fun i _ h => by cases h)⟩⟩
 ·rintro d a w i o ⟨hcl, hI⟩ hd ho hall
  have hcl' : ∀ (j : Nat) (o' : Oper), ops[j]? = some o' → mark d i j = true → ∀ e ∈ o'.after, Region.binds .any e = true → mark d i e.on = true := fun j o' ho' hj e he' hb => by
   unfold mark at hj ⊢
   by_cases hei : e.on = i
   ·rw [if_pos hei]
   ·rw [if_neg hei]
    by_cases hji : j = i
    ·subst hji
     rw [ho] at ho'
     obtain rfl := Option.some.inj ho'
     exact hall e he' hb
    ·rw [if_neg hji] at hj
     exact hcl j o' ho' hj e he' hb
  have alld : ∀ (q : Nat) (oq : Oper), ops[q]? = some oq → coverB ops q (waitsL oq) = true → (∀ e ∈ oq.after, Region.binds .any e = true → d e.on = true) → ∀ j, j < q → d j = true := fun q oq _ hc hw => coverB_all hcl q (waitsL oq) hc (fun j hj => by
   obtain ⟨e, he', hb, rfl⟩ := waitsL_mem hj
   exact hw e he' hb)
  refine wpOp_step ho (fun K' hK => ?_)
  rcases hI with ⟨hdm, hdz, h1, h2, h3⟩ | ⟨hdm, hdz, hmid⟩ | ⟨hdz, _⟩
  ·rcases hlt i o ho with hi | rfl | rfl
   ·obtain ⟨q1, q2, q3, q4⟩ := hat i o hi ho
    have hw : Region.wanted o (yielded ops a.tmps) = true := by simp [Region.wanted, q2]
    rw [if_pos hw]
    refine hs i o a w hi ho h1 h2 (fun e he' hb => h3 e.on (Nat.lt_trans (q4 e he') hi) (hall e he' hb)) K' fun v w' hv hk => hK _ _ ⟨hcl', Or.inl ⟨?_, ?_, ?_, h2.trans hk, fun j hj hmk => ?_⟩⟩
    ·unfold mark
     rw [if_neg (by omega)]
     exact hdm
    ·unfold mark
     rw [if_neg (by omega)]
     exact hdz
    ·rw [q1]
     exact h1.put hi v
    ·by_cases hij : j = i
     ·subst hij
      rw [q1, put_get a _ v (by rw [h1.size]; exact q3)]
      exact hv
     ·rw [q1, put_get_ne a v (fun e => hij (hinj j i hj hi e.symm))]
      refine hF _ _ _ _ (h3 j hj ?_) hk
      unfold mark at hmk
      rwa [if_neg hij] at hmk
   ·rw [hos] at ho
    obtain rfl := Option.some.inj ho
    have hw : Region.wanted os (yielded ops a.tmps) = true := by simp [Region.wanted, hog]
    rw [if_pos hw]
    have hdone := alld i os hos hcov hall
    refine he a w h1 h2 (fun j hj => h3 j hj (hdone j hj)) K' fun a' w' hq => hK _ _ ⟨hcl', Or.inr (Or.inl ⟨?_, ?_, hq⟩)⟩
    ·unfold mark
     rw [if_pos rfl]
    ·unfold mark
     rw [if_neg (by omega)]
     exact hdz
   ·rw [hoz] at ho
    obtain rfl := Option.some.inj ho
    have hdone := alld (m + 1) oz hoz hcov2 hall m (by omega)
    rw [hdm] at hdone
    cases hdone
  ·rcases hlt i o ho with hi | rfl | rfl
   ·have hdone := alld m os hos hcov (hcl m os hos hdm) i hi
    rw [hd] at hdone
    cases hdone
   ·rw [hd] at hdm
    cases hdm
   ·rw [hoz] at ho
    obtain rfl := Option.some.inj ho
    have hw : Region.wanted oz (yielded ops a.tmps) = true := by simp [Region.wanted, hzg]
    rw [if_pos hw]
    refine he2 a w hmid K' fun a' w' hq => hK _ _ ⟨hcl', Or.inr (Or.inr ⟨?_, hq⟩)⟩
    unfold mark
    rw [if_pos rfl]
  ·exfalso
   rcases hlt i o ho with hi | rfl | rfl
   ·have hdone := alld (m + 1) oz hoz hcov2 (hcl (m + 1) oz hoz hdz) i (by omega)
    rw [hd] at hdone
    cases hdone
   ·have hdone := alld (i + 1) oz hoz hcov2 (hcl (i + 1) oz hoz hdz) i (by omega)
    rw [hd] at hdone
    cases hdone
   ·rw [hd] at hdz
    cases hdz
 ·rintro d a w ⟨_, hI⟩ hd
  rcases hI with ⟨hdm, _⟩ | ⟨_, hdz, _⟩ | ⟨_, hq⟩
  ·have := hd m (by omega)
   rw [hdm] at this
   cases this
  ·have := hd (m + 1) (by omega)
   rw [hdz] at this
   cases this
  ·exact hq
theorem wp_region_two {id : Nat} {a0 : Act} {w0 X : World} (hm : P.follows .mixedOrders = true) (m : Nat) (hsz : ops.size = m + 2) (os oz : Oper) (hos : ops[m]? = some os) (hoz : ops[m + 1]? = some oz) (hog : os.guard = none) (hzg : oz.guard = none) (hoa : ∀ e ∈ os.after, e.on < m) (hza : ∀ e ∈ oz.after, e.on < m + 1) (hcov : coverB ops m (waitsL os) = true) (hcov2 : coverB ops (m + 1) (waitsL oz) = true)
  (dl : List Nat) (hn : dl.Nodup) (hlen : dl.length = m) (hB : opsB dl a0.tmps.size 0 (ops.toList.take m) = true)
  (hX : Keeps (fun _ => False) X w0)
  (F : Nat → Value → World → Prop) (hF : ∀ i v w w', F i v w → Keeps (fun _ => False) w w' → F i v w')
  (hs : ∀ (i : Nat) (o : Oper) (a : Act) (w : World), i < m → ops[i]? = some o → Same a0 m (fun i => dl.getD i 0) a → Keeps (fun _ => False) X w → (∀ e ∈ o.after, Region.binds .any e = true → F e.on (a.tmps.getD (dl.getD e.on 0) undef) w) →
    ∀ K' : Act → World → Prop, (∀ v w', F i v w' → Keeps (fun _ => False) w w' → K' (a.put o.dst v) w') → Oper.wp P o a w K' Q)
  (he : ∀ (a : Act) (w : World), Same a0 m (fun i => dl.getD i 0) a → Keeps (fun _ => False) X w → (∀ i, i < m → F i (a.tmps.getD (dl.getD i 0) undef) w) →
    ∀ K' : Act → World → Prop, (∀ a' w', (∀ K2 : Act → World → Prop, (∀ a2 w2, Q .normal a2 w2 → K2 a2 w2) → Oper.wp P oz a' w' K2 Q) → K' a' w') → Oper.wp P os a w K' Q) : (Code.region id ops true).wp P Q a0 w0 :=
 wp_region_last2 hm m hsz os oz hos hoz hog hzg hoa hza hcov hcov2 dl hn hlen hB hX F hF hs (fun a' w' => ∀ K2 : Act → World → Prop, (∀ a2 w2, Q .normal a2 w2 → K2 a2 w2) → Oper.wp P oz a' w' K2 Q) he (fun _ _ h => h)
end
end Go.Proofs.YtiinohibmcefkaaGreatDoor
namespace Go.Proofs.YtiinohibmcefkaaGreatDoor
open Go.RowKit Go.Maps
set_option maxRecDepth 100000
set_option maxHeartbeats 8000000
section
variable {Q : Exit → Act → World → Prop} {K : Act → World → Prop} {o : Oper} {a : Act} {w : World}
theorem step_c50 {t : Nat} {v : Value} {l : EL} (ho : o.op = .call { callee := .value (.func 50), args := #[.tmp t], argTypes := #[25] }) (ht : a.tmps.getD t undef = v) (hc : Calls Tryz.prog 50 #[v] w fun e w' => ∃ v', e = .returned v' ∧ WdSl (fun q => w.heap.size ≤ q) w' v' l ∧ Keeps (fun _ => False) w w')
  (hk : ∀ v' w', WdSl (fun q => w.heap.size ≤ q) w' v' l → Keeps (fun _ => False) w w' → K (a.put o.dst v') w') : Oper.wp Tryz.prog o a w K Q := by
 have he := slot_of ht
 unfold Oper.wp
 simp [execOp, ho, he, go_sem]
 refine hc.mono ?_
 rintro e w' ⟨v', rfl, h1, h2⟩
 exact hk _ _ h1 h2
theorem step_build27 {t0 t1 t2 t3 : Nat} {op n : Int} {s : Txt} {v3 : Value} {A : Nat → Prop} {l : EL} (ho : o.op = .build 27 #[(0, .tmp t0), (1, .tmp t1), (2, .tmp t2), (3, .tmp t3)]) (h0 : a.tmps.getD t0 undef = .int .i64 op) (h1 : a.tmps.getD t1 undef = .int .i64 n) (h2 : a.tmps.getD t2 undef = str s) (h3 : a.tmps.getD t3 undef = v3) (hw : WdSl A w v3 l)
  (hk : K (a.put o.dst (.agg #[.int .i64 op, .int .i64 n, str s, v3])) w) : Oper.wp Tryz.prog o a w K Q := by
 obtain ⟨g, cap, rfl, _⟩ := hw
 have e0 := slot_of h0
 have e1 := slot_of h1
 have e2 := slot_of h2
 have e3 := slot_of h3
 unfold Oper.wp
 simp [execOp, ho, e0, e1, e2, e3, go_sem]
 exact hk
theorem step_one27 {t : Nat} {v x0 x1 x2 : Value} {B : Nat} {l : EL} (ho : o.op = .buildSlice 25 1 #[(0, .tmp t)]) (ht : a.tmps.getD t undef = v) (hv : ∃ kv, v = .agg #[x0, x1, x2, kv] ∧ WdSl (fun q => B ≤ q) w kv l) (hB : B ≤ w.heap.size)
  (hk : ∀ v' w', (∃ kv g, v' = .slice (some ⟨g, 0, none⟩) 1 1 ∧ B ≤ g ∧ w'.heap[g]? = some (.cells #[x0, x1, x2, kv] 27 (0, 0)) ∧ WdSl (fun q => B ≤ q ∧ q < g) w' kv l) → Keeps (fun _ => False) w w' → K (a.put o.dst v') w') : Oper.wp Tryz.prog o a w K Q := by
 obtain ⟨kv, rfl, hw⟩ := hv
 have he := slot_of ht
 unfold Oper.wp
 simp [execOp, ho, he, go_sem]
 exact hk _ _ ⟨kv, w.heap.size, rfl, hB, heap_alloc_new w _, (hw.mono (fun q hq z => ⟨z, hq⟩)).keepF (kAlloc w _)⟩ (kAlloc w _)
end
def WPost (l : EL) (w : World) (e : Ending) (w' : World) : Prop := ∃ v', e = .returned v' ∧ WdSl (fun q => w.heap.size ≤ q) w' v' l ∧ Keeps (fun _ => False) w w'
theorem wideExprs_v (Z : Zone) (N : Nat) : ∀ (l : EL), l.size < N → l.size ≤ 4294967294 → ∀ (w : World) (up : Nat) (v : Value), SlE Z w up v l → Calls Tryz.prog 50 #[v] w (WPost l w) := by
 induction N with
 | zero => intro l h; omega
 | succ N ih =>
  intro l hsz hlen' w up v hS
  have hlen : l.len ≤ 4294967294 := by have := EL.len_le l; omega
  obtain ⟨ao, cap, b, off, rfl, hcap, ha, hx⟩ := hS.open
  obtain ⟨i0, hi, hz0, hz1, hz2⟩ := info_parts Tryz.info27
  have IH := hide ih
  have HX := hide hx
  have HA := hide ha
  clear hS ih hx ha
  go_enter Tryz.func50, Tryz.ntmps50
  go_wp2_with fail
  go_loopw [3, 4] (fun o i wr => ∃ (pre rest : EL) (k : Nat) (xs : List Value) (A : Nat → Prop), i = .int .i64 k ∧ l = pre.app rest ∧ k = pre.len ∧ wr.ownsRow w.heap.size 27 4 o k xs ∧ WsIn A wr pre xs ∧ (∀ q, A q → w.heap.size ≤ q ∧ q < wr.heap.size ∧ o.ownBlock ≠ some q) ∧ Keeps (fun _ => False) w wr ∧ ExIn Z w rest b (off + k * 4)) (fun _ i _ => l.len - (intOf i).toNat)
  case atStart => exact ⟨.nil, l, 0, [], fun _ => False, rfl, rfl, rfl, World.ownsRow_nil w w.heap.size 27 4, rfl, fun q h => h.elim, Keeps.refl _ _, by simpa using uh HX⟩
  case round =>
   obtain ⟨pre, rest, k, xs, A, rfl, happ, hkp, hown, hcs, hAq, hkeep, hr⟩ := hrel
   obtain ⟨oo, oc, rfl⟩ := (rowAt_own hown).form
   have hll := congrArg EL.len happ
   have hls := congrArg EL.size happ
   rw [EL.len_app] at hll
   rw [EL.size_app] at hls
   have HO := hide hown
   have HCS := hide hcs
   have HAQ := hide hAq
   have HK := hide hkeep
   have HAPP := hide happ
   cases rest with
   | nil =>
    rw [EL.app_nil] at happ
    subst happ
    simp only [EL.len, EL.size, Nat.add_zero] at hll hls
    have i1 : ¬ (k : Int) < (l.len : Int) := by omega
    subst hkp
    clear hown hcs hAq hkeep hr hll hls HAPP
    have HLN := hide (uh HCS).length
    go_wp2_with fail
    rename World => wo
    go_loopw [3, 5] (fun o i w2 => ∃ j : Nat, j ≤ 16 ∧ i = .int .i64 (j : Int) ∧ Hid (w2.ownsRow w.heap.size 27 4 o (l.len + j) (xs ++ marksW markE j)) ∧ Hid (WsIn A w2 l xs) ∧ Hid (∀ q, A q → w.heap.size ≤ q ∧ q < w2.heap.size ∧ o.ownBlock ≠ some q) ∧ Hid (Keeps (fun _ => False) w w2)) (fun _ i _ => 16 - (intOf i).toNat)
    case atStart => exact ⟨0, by omega, rfl, by simpa [Hid, marksW] using uh HO, HCS, HAQ, HK⟩
    case round =>
     obtain ⟨j, hj, rfl, HO, HCS, HAQ, HK⟩ := hrel
     obtain ⟨oo, oc, rfl⟩ := (rowAt_own (uh HO)).form
     by_cases hlt : j < 16
     ·have i2 : (j : Int) < 16 := by omega
      have i0' : (0 : Int) ≤ (j : Int) := by omega
      go_wp2_with (at_builtin; refine wpList_append_lies _ rfl _ _ _ rfl w.heap.size 27 i0 _ 4 56 Tryz.underlying25 hi hz0 hz1 hz2 rfl (by omega) (.slice oo (l.len + j) oc) (l.len + j) (xs ++ marksW markE j) rfl ((uh HO).alloc _) ⟨wr.heap.size, 0, none⟩ 1 1 (markE j) rfl rfl (World.news_of_block (cs := #[.int .i64 (-77 - (j : Int)), .int .i64 0, .string ⟨#[115, 112, 97, 114, 101]⟩, .slice none 0 0]) (t := 27) (fr := (0, 0)) (heap_alloc_new wr _)) (by simp [Value.oneCell', markE]) (by omega) (by unfold maxLen; omega) (by omega) (by have := (uh HK).size; simp; omega) (wr.heap.size + 1) (by simp) ?_; intro g6 c6 w6 hown6 hgr6 hat6 hlt6; have HO6 := hide hown6; have HG6 := hide hgr6; have HA6 := hide hat6; clear hown6 hgr6 hat6)
      go_roundw
      case rel =>
       have hk3 : Keeps (fun q => (Value.slice oo (l.len + j) oc).ownBlock = some q) wr w6 := ((Keeps.refl _ wr).alloc _).grown (uh HG6) (fun q e _ => e)
       have hol : ∀ q, (Value.slice oo (l.len + j) oc).ownBlock = some q → w.heap.size ≤ q ∧ q < wr.heap.size := fun q e => ((uh HO).lt q e)
       have hs6 : wr.heap.size + 1 ≤ w6.heap.size := by have := (uh HG6).size; simp at this; omega
       refine ⟨j + 1, by omega, by go_num, ?_, hide ((uh HCS).keep hk3 (fun q _ h e => ((uh HAQ) q h).2.2 e)), hide (fun q hq => ?_), hide ((uh HK).narrow hk3 (fun q e => (hol q e).1))⟩
       ·have := uh HO6
        rw [marks_snoc, ← List.append_assoc, ← Nat.add_assoc]
        exact this
       ·obtain ⟨a1, a2, a3⟩ := (uh HAQ) q hq
        refine ⟨a1, by omega, fun e => ?_⟩
        have e' : g6 = q := by simpa [Value.ownBlock] using e
        rcases uh HA6 with h | h
        ·exact a3 (by rw [h, e'])
        ·omega
      case measure => simp [intOf]; omega
     ·obtain rfl : j = 16 := by omega
      obtain ⟨g, cp, cur, e, hgl, hgb, hc⟩ : ∃ g cp cur, (Value.slice oo (l.len + 16) oc) = .slice (some ⟨g, 0, none⟩) (l.len + 16) cp ∧ w.heap.size ≤ g ∧ wr.heap[g]? = some (.cells cur 27 (0, 0)) ∧ l.len + 16 ≤ cp := by
       rcases (uh HO).2 with ⟨_, h0⟩ | ⟨g, cp, cur, a1, a2, a3, a4, _⟩
       ·omega
       ·exact ⟨g, cp, cur, a1, a2, a3, a4⟩
      simp only [Value.slice.injEq] at e
      obtain ⟨rfl, _, rfl⟩ := e
      have HWD : Hid (WdSl (fun q => w.heap.size ≤ q) wr (.slice (some ⟨g, 0, none⟩) l.len oc) l) := by
       obtain ⟨b2, off2, cap2, e2, hb2, hcc⟩ := (rowAt_own (uh HO)).cells (by omega)
       simp at e2
       obtain ⟨⟨rfl, rfl⟩, _⟩ := e2
       have hxs : xs.length = l.len * 4 := uh HLN
       refine ⟨g, oc, rfl, hc, hb2, hgl, fun j x hx => ?_, WsIn.wdIn hb2 hgl (fun q _ h => ((uh HAQ) q h).1) (uh HCS) (fun j x hx => ?_)⟩
       ·have := hcc (l.len * 4 + j) x (by rw [List.getElem?_append_right (by omega), hxs]; simpa using hx)
        simpa using this
       ·have := hcc j x (by rw [List.getElem?_append_left (by have := (List.getElem?_eq_some_iff.1 hx).1; omega)]; exact hx)
        simpa using this
      have i2 : ¬ ((16 : Nat) : Int) < 16 := by omega
      have c1 : (l.len : Int) ≤ (oc : Int) := by omega
      have c2 : l.len ≤ oc := by omega
      go_wp2_with fail
      all_goals (go_ret; exact ⟨_, rfl, uh HWD, uh HK⟩)
   | cons op n s kids rest =>
    obtain ⟨h1, h2, h3, h4, h5, ⟨kao, kcap, h6, h7, h8⟩, h9⟩ := hr
    simp only [EL.len, EL.size] at hll hls
    have hkl : k + (rest.len + 1) = l.len := by omega
    have HKP := hide hkp
    obtain ⟨rfl, hp⟩ := (uh HA) (by omega)
    have HKID : Hid (SlE Z w b (.slice kao kids.len kcap) kids) := ⟨kao, kcap, rfl, h7, h8⟩
    have HR := hide h9
    have i1 : (k : Int) < (l.len : Int) := by omega
    have HLT : Hid (k < l.len) := hide (by omega)
    have HC := hide (fun (W' : World) (hk : Keeps (fun _ => False) wr W') => (⟨(((hkeep.trans hk).cell h1 id).trans h3), (((hkeep.trans hk).cell h1 id).trans h4), (((hkeep.trans hk).cell h1 id).trans h5), (((hkeep.trans hk).cell h1 id).trans h6)⟩ : W'.cell? ⟨b, off + k * 4, none⟩ = some (.int .i64 op) ∧ W'.cell? ⟨b, off + k * 4 + 1, none⟩ = some (.int .i64 n) ∧ W'.cell? ⟨b, off + k * 4 + 2, none⟩ = some (str s) ∧ W'.cell? ⟨b, off + k * 4 + 3, none⟩ = some (.slice kao kids.len kcap)))
    have HIH := hide (fun (W' : World) (hk : Keeps (fun _ => False) wr W') => uh IH kids (by omega) (by omega) W' b _ ((uh HKID).keepF ((uh HK).trans hk)))
    have HB0 : Hid (w.heap.size ≤ wr.heap.size) := hkeep.size
    have HKX := hide (Keeps.refl (fun _ => False) wr)
    have hkb : k + 1 ≤ 4294967294 := by omega
    clear hown hcs hAq hkeep h1 h2 h3 h4 h5 h6 h8 h9 happ hll hls hkp hp
    go_upto_region 5 with fail
    rename_i Q0 K0 hc0
    refine wp_region_two (X := wr) (by kernel_rfl) 24 rfl _ _ rfl rfl rfl rfl (by decide) (by decide) (by kernel_rfl) (by kernel_rfl) [12, 13, 14, 15, 16, 17, 18, 19, 20, 21, 22, 23, 24, 25, 26, 27, 28, 29, 30, 31, 32, 33, 34, 35] (by decide) rfl (by first | rfl | kernel_rfl | simp [opsB]) (uh HKX) (fun i v W1 => match i with | 0 => v = .slice oo k oc | 1 => v = .slice (some ⟨b, off, none⟩) l.len cap | 2 => v = .int .i64 (k : Int) | 3 => v = .pointer (some ⟨b, off + k * 4, none⟩) | 4 => v = .pointer (some ⟨b, off + k * 4, none⟩) | 5 => v = .int .i64 op | 6 => v = .slice (some ⟨b, off, none⟩) l.len cap | 7 => v = .int .i64 (k : Int) | 8 => v = .pointer (some ⟨b, off + k * 4, none⟩) | 9 => v = .pointer (some ⟨b, off + k * 4 + 1, none⟩) | 10 => v = .int .i64 n | 11 => v = .slice (some ⟨b, off, none⟩) l.len cap | 12 => v = .int .i64 (k : Int) | 13 => v = .pointer (some ⟨b, off + k * 4, none⟩) | 14 => v = .pointer (some ⟨b, off + k * 4 + 2, none⟩) | 15 => v = str s | 16 => v = .slice (some ⟨b, off, none⟩) l.len cap | 17 => v = .int .i64 (k : Int) | 18 => v = .pointer (some ⟨b, off + k * 4, none⟩) | 19 => v = .pointer (some ⟨b, off + k * 4 + 3, none⟩) | 20 => v = .slice kao kids.len kcap | 21 => WdSl (fun q => wr.heap.size ≤ q) W1 v kids | 22 => ∃ kv, v = .agg #[.int .i64 op, .int .i64 n, str s, kv] ∧ WdSl (fun q => wr.heap.size ≤ q) W1 kv kids | 23 => ∃ kv g, v = .slice (some ⟨g, 0, none⟩) 1 1 ∧ wr.heap.size ≤ g ∧ W1.heap[g]? = some (.cells #[.int .i64 op, .int .i64 n, str s, kv] 27 (0, 0)) ∧ WdSl (fun q => wr.heap.size ≤ q ∧ q < g) W1 kv kids | _ => True) ?_ ?_ ?_
    ·intro i v w1 w2 hq hk
     rcases i with _ | _ | _ | _ | _ | _ | _ | _ | _ | _ | _ | _ | _ | _ | _ | _ | _ | _ | _ | _ | _ | _ | _ | _ | i
     all_goals first | exact hq | exact WdSl.keepF hq hk | (obtain ⟨kv, q1, q2⟩ := hq; exact ⟨kv, q1, q2.keepF hk⟩) | (obtain ⟨kv, g, q1, q2, q3, q4⟩ := hq; exact ⟨kv, g, q1, q2, (hk.block _ (lt_of_block q3) id).trans q3, q4.keepF hk⟩)
    ·intro i o A W1 him ho hs hk hd K' hK
     rcases i with _ | _ | _ | _ | _ | _ | _ | _ | _ | _ | _ | _ | _ | _ | _ | _ | _ | _ | _ | _ | _ | _ | _ | _ | i
     ·obtain rfl := Option.some.inj ho
      exact step_move rfl ((hs.at rfl 3 (by decide)).trans rfl) (hK _ _ rfl (Keeps.refl _ _))
     ·obtain rfl := Option.some.inj ho
      exact step_move rfl ((hs.at rfl 0 (by decide)).trans rfl) (hK _ _ rfl (Keeps.refl _ _))
     ·obtain rfl := Option.some.inj ho
      exact step_move rfl ((hs.at rfl 4 (by decide)).trans rfl) (hK _ _ rfl (Keeps.refl _ _))
     ·obtain rfl := Option.some.inj ho
      exact step_indexE rfl (hd ⟨1, .data⟩ (by simp) rfl) (hd ⟨2, .data⟩ (by simp) rfl) (uh HLT) (hK _ _ rfl (Keeps.refl _ _))
     ·obtain rfl := Option.some.inj ho
      exact step_fieldE0 rfl (hd ⟨3, .data⟩ (by simp) rfl) (hK _ _ rfl (Keeps.refl _ _))
     ·obtain rfl := Option.some.inj ho
      exact step_load3 rfl (hd ⟨4, .data⟩ (by simp) rfl) (uh HC W1 hk).1 (hK _ _ rfl (Keeps.refl _ _))
     ·obtain rfl := Option.some.inj ho
      exact step_move rfl ((hs.at rfl 0 (by decide)).trans rfl) (hK _ _ rfl (Keeps.refl _ _))
     ·obtain rfl := Option.some.inj ho
      exact step_move rfl ((hs.at rfl 4 (by decide)).trans rfl) (hK _ _ rfl (Keeps.refl _ _))
     ·obtain rfl := Option.some.inj ho
      exact step_indexE rfl (hd ⟨6, .data⟩ (by simp) rfl) (hd ⟨7, .data⟩ (by simp) rfl) (uh HLT) (hK _ _ rfl (Keeps.refl _ _))
     ·obtain rfl := Option.some.inj ho
      exact step_fieldE1 rfl (hd ⟨8, .data⟩ (by simp) rfl) (hK _ _ rfl (Keeps.refl _ _))
     ·obtain rfl := Option.some.inj ho
      exact step_load2 rfl (hd ⟨9, .data⟩ (by simp) rfl) (uh HC W1 hk).2.1 (hK _ _ rfl (Keeps.refl _ _))
     ·obtain rfl := Option.some.inj ho
      exact step_move rfl ((hs.at rfl 0 (by decide)).trans rfl) (hK _ _ rfl (Keeps.refl _ _))
     ·obtain rfl := Option.some.inj ho
      exact step_move rfl ((hs.at rfl 4 (by decide)).trans rfl) (hK _ _ rfl (Keeps.refl _ _))
     ·obtain rfl := Option.some.inj ho
      exact step_indexE rfl (hd ⟨11, .data⟩ (by simp) rfl) (hd ⟨12, .data⟩ (by simp) rfl) (uh HLT) (hK _ _ rfl (Keeps.refl _ _))
     ·obtain rfl := Option.some.inj ho
      exact step_fieldE2 rfl (hd ⟨13, .data⟩ (by simp) rfl) (hK _ _ rfl (Keeps.refl _ _))
     ·obtain rfl := Option.some.inj ho
      exact step_load9 rfl (hd ⟨14, .data⟩ (by simp) rfl) (uh HC W1 hk).2.2.1 (hK _ _ rfl (Keeps.refl _ _))
     ·obtain rfl := Option.some.inj ho
      exact step_move rfl ((hs.at rfl 0 (by decide)).trans rfl) (hK _ _ rfl (Keeps.refl _ _))
     ·obtain rfl := Option.some.inj ho
      exact step_move rfl ((hs.at rfl 4 (by decide)).trans rfl) (hK _ _ rfl (Keeps.refl _ _))
     ·obtain rfl := Option.some.inj ho
      exact step_indexE rfl (hd ⟨16, .data⟩ (by simp) rfl) (hd ⟨17, .data⟩ (by simp) rfl) (uh HLT) (hK _ _ rfl (Keeps.refl _ _))
     ·obtain rfl := Option.some.inj ho
      exact step_fieldE3 rfl (hd ⟨18, .data⟩ (by simp) rfl) (hK _ _ rfl (Keeps.refl _ _))
     ·obtain rfl := Option.some.inj ho
      exact step_load25 rfl (hd ⟨19, .data⟩ (by simp) rfl) (uh HC W1 hk).2.2.2 (hK _ _ rfl (Keeps.refl _ _))
     ·obtain rfl := Option.some.inj ho
      exact step_c50 rfl (hd ⟨20, .data⟩ (by simp) rfl) (uh HIH W1 hk) (fun v' w' q1 q2 => hK v' w' (q1.mono (fun q _ (z : W1.heap.size ≤ q) => Nat.le_trans hk.size z)) q2)
     ·obtain rfl := Option.some.inj ho
      exact step_build27 rfl (hd ⟨5, .data⟩ (by simp) rfl) (hd ⟨10, .data⟩ (by simp) rfl) (hd ⟨15, .data⟩ (by simp) rfl) rfl (hd ⟨21, .data⟩ (by simp) rfl) (hK _ _ ⟨_, rfl, (hd ⟨21, .data⟩ (by simp) rfl)⟩ (Keeps.refl _ _))
     ·obtain rfl := Option.some.inj ho
      exact step_one27 rfl rfl (hd ⟨22, .data⟩ (by simp) rfl) hk.size (fun v' w' q1 q2 => hK v' w' q1 q2)
     ·omega
    ·intro A2 V hs hk hall K' hK
     obtain ⟨kv, g, e35, hg, hgb, hkv⟩ : ∃ kv g, A2.tmps.getD 35 undef = .slice (some ⟨g, 0, none⟩) 1 1 ∧ wr.heap.size ≤ g ∧ V.heap[g]? = some (.cells #[.int .i64 op, .int .i64 n, str s, kv] 27 (0, 0)) ∧ WdSl (fun q => wr.heap.size ≤ q ∧ q < g) V kv kids := hall 23 (by decide)
     have w12 : A2.tmps.getD 12 undef = .slice oo k oc := hall 0 (by decide)
     have w13 : A2.tmps.getD 13 undef = .slice (some ⟨b, off, none⟩) l.len cap := hall 1 (by decide)
     have w14 : A2.tmps.getD 14 undef = .int .i64 (k : Int) := hall 2 (by decide)
     have w15 : A2.tmps.getD 15 undef = .pointer (some ⟨b, off + k * 4, none⟩) := hall 3 (by decide)
     have w16 : A2.tmps.getD 16 undef = .pointer (some ⟨b, off + k * 4, none⟩) := hall 4 (by decide)
     have w17 : A2.tmps.getD 17 undef = .int .i64 op := hall 5 (by decide)
     have w18 : A2.tmps.getD 18 undef = .slice (some ⟨b, off, none⟩) l.len cap := hall 6 (by decide)
     have w19 : A2.tmps.getD 19 undef = .int .i64 (k : Int) := hall 7 (by decide)
     have w20 : A2.tmps.getD 20 undef = .pointer (some ⟨b, off + k * 4, none⟩) := hall 8 (by decide)
     have w21 : A2.tmps.getD 21 undef = .pointer (some ⟨b, off + k * 4 + 1, none⟩) := hall 9 (by decide)
     have w22 : A2.tmps.getD 22 undef = .int .i64 n := hall 10 (by decide)
     have w23 : A2.tmps.getD 23 undef = .slice (some ⟨b, off, none⟩) l.len cap := hall 11 (by decide)
     have w24 : A2.tmps.getD 24 undef = .int .i64 (k : Int) := hall 12 (by decide)
     have w25 : A2.tmps.getD 25 undef = .pointer (some ⟨b, off + k * 4, none⟩) := hall 13 (by decide)
     have w26 : A2.tmps.getD 26 undef = .pointer (some ⟨b, off + k * 4 + 2, none⟩) := hall 14 (by decide)
     have w27 : A2.tmps.getD 27 undef = str s := hall 15 (by decide)
     have w28 : A2.tmps.getD 28 undef = .slice (some ⟨b, off, none⟩) l.len cap := hall 16 (by decide)
     have w29 : A2.tmps.getD 29 undef = .int .i64 (k : Int) := hall 17 (by decide)
     have w30 : A2.tmps.getD 30 undef = .pointer (some ⟨b, off + k * 4, none⟩) := hall 18 (by decide)
     have w31 : A2.tmps.getD 31 undef = .pointer (some ⟨b, off + k * 4 + 3, none⟩) := hall 19 (by decide)
     have w32 : A2.tmps.getD 32 undef = .slice kao kids.len kcap := hall 20 (by decide)
     have hA := same_fold hs rfl
     simp only [List.foldl_cons, List.foldl_nil, w12, w13, w14, w15, w16, w17, w18, w19, w20, w21, w22, w23, w24, w25, w26, w27, w28, w29, w30, w31, w32, e35] at hA
     simp only [Act.put, List.setIfInBounds_toArray, List.set_cons_zero, List.set_cons_succ] at hA
     have hOV := ownsRow_kept (uh HO) hk (fun _ _ => id)
     have hsz2 := hs.size
     have v12 : A2.tmps.getD 12 undef = .slice oo k oc := hall 0 (by decide)
     refine wp_append_lies V (.tmp 12) (.tmp 35) 25 rfl w.heap.size 27 i0 _ 4 56 Tryz.underlying25 hi hz0 hz1 hz2 rfl (by omega) (.slice oo k oc) k xs v12 hOV ⟨g, 0, none⟩ 1 1 [.int .i64 op, .int .i64 n, str s, kv] e35 rfl (World.news_of_block (cs := #[.int .i64 op, .int .i64 n, str s, kv]) (t := 27) (fr := (0, 0)) hgb) (by obtain ⟨_, _, rfl, _⟩ := hkv; simp [Value.oneCell']) (by omega) (by unfold maxLen; omega) (by omega) (by have := hk.size; have := uh HB0; omega) V.heap.size rfl ?_
     intro g6 c6 w6 hown6 hgrow hat6 hlt6
     refine hK (A2.put (some 36) (.slice (some ⟨g6, 0, none⟩) (k + 1) c6)) w6 (fun K2 hK2 => ?_)
     refine step_assign rfl (put_get A2 36 _ (by rw [hsz2]; simp)) (hK2 ((A2.put (some 36) (.slice (some ⟨g6, 0, none⟩) (k + 1) c6)).put (some 3) (.slice (some ⟨g6, 0, none⟩) (k + 1) c6)) w6 (hc0 _ _ ?_))
     have HO6 := hide hown6
     have HGR := hide hgrow
     have HAT := hide hat6
     have HKR := hide hk
     have HKV := hide hkv
     have HGB := hide hgb
     have HG := hide hg
     rw [hA]
     generalize A2.tmps.getD 33 undef = u33 at *
     generalize A2.tmps.getD 34 undef = u34 at *
     clear hs hall hK hK2 hA hown6 hgrow hat6 hk hkv hgb hg hOV e35 v12 hsz2 w12 w13 w14 w15 w16 w17 w18 w19 w20 w21 w22 w23 w24 w25 w26 w27 w28 w29 w30 w31 w32
     simp only [Act.put, List.setIfInBounds_toArray, List.set_cons_zero, List.set_cons_succ]
     go_wp2_with fail
     go_roundw
     case rel =>
      have hgr := uh HGR
      have hk3 : Keeps (fun q => (Value.slice oo k oc).ownBlock = some q) V w6 := (Keeps.refl _ V).grown hgr (fun q e _ => e)
      have hk2 : Keeps (fun q => (Value.slice oo k oc).ownBlock = some q) wr w6 := (uh HKR).any.trans hk3
      have hkw : Keeps (fun _ => False) w w6 := (uh HK).narrow hk2 (fun q e => ((uh HO).lt q e).1)
      have hol : ∀ q, (Value.slice oo k oc).ownBlock = some q → q < wr.heap.size := fun q e => ((uh HO).lt q e).2
      have hgV := lt_of_block (uh HGB)
      have hrV := (uh HKR).size
      have c1 := WsIn.mono (B := fun q => A q ∨ (wr.heap.size ≤ q ∧ q < g)) (fun _ _ h => Or.inl h) ((uh HCS).keep hk2 (fun q _ h e => ((uh HAQ) q h).2.2 e))
      have c2 : WdSl (fun q => A q ∨ (wr.heap.size ≤ q ∧ q < g)) w6 kv kids := ((uh HKV).keep hk3 (fun q _ h e => by have := hol q e; omega)).mono (fun _ _ h => Or.inr h)
      have hs6 : V.heap.size ≤ w6.heap.size := hgr.size
      refine ⟨pre.app (.cons op n s kids .nil), rest, k + 1, _, _, by go_num, ?_, ?_, uh HO6, c1.snoc c2, fun q hq => ?_, hkw, ?_⟩
      ·rw [app_one]; exact uh HAPP
      ·rw [EL.len_app, uh HKP]; rfl
      ·have hb0 := uh HB0
       rcases hq with hq | hq
       ·obtain ⟨a1, a2, a3⟩ := (uh HAQ) q hq
        refine ⟨a1, by omega, fun e => ?_⟩
        have e' : g6 = q := by simpa [Value.ownBlock] using e
        rcases uh HAT with h | h
        ·exact a3 (by rw [h, e'])
        ·omega
       ·refine ⟨by omega, by omega, fun e => ?_⟩
        have e' : g6 = q := by simpa [Value.ownBlock] using e
        rcases uh HAT with h | h
        ·have := hol _ h; omega
        ·omega
      ·rw [show off + (k + 1) * 4 = off + k * 4 + 4 by omega]
       exact uh HR
     case measure => simp [intOf]; omega
end Go.Proofs.YtiinohibmcefkaaGreatDoor
namespace Go.Proofs.YtiinohibmcefkaaGreatDoor
open Go.RowKit Go.Maps
set_option maxRecDepth 100000
set_option maxHeartbeats 8000000
theorem MarksE.at {w : World} {g o : Nat} (h : MarksE w g o) {j : Nat} (hj : j < 16) : w.cell? ⟨g, o + j * 4, none⟩ = some (.int .i64 (-77 - (j : Int))) ∧ w.cell? ⟨g, o + j * 4 + 1, none⟩ = some (.int .i64 0) ∧ w.cell? ⟨g, o + j * 4 + 2, none⟩ = some (.string ⟨#[115, 112, 97, 114, 101]⟩) ∧ w.cell? ⟨g, o + j * 4 + 3, none⟩ = some (.slice none 0 0) := by
 have key : ∀ r x, (markE j)[r]? = some x → w.cell? ⟨g, o + j * 4 + r, none⟩ = some x := fun r x hx => by
  have := h (j * 4 + r) x (marks_get (f := markE) (sz := 4) (fun _ => rfl) hj hx)
  rwa [← Nat.add_assoc] at this
 exact ⟨key 0 _ rfl, key 1 _ rfl, key 2 _ rfl, key 3 _ rfl⟩
theorem spareExprs_v (A : Nat → Prop) (N : Nat) : ∀ (l : EL), l.size < N → l.size ≤ 4294967294 → ∀ (w : World) (v : Value), WdSl A w v l → Calls Tryz.prog 60 #[v] w fun e w' => e = .returned (.bool true) ∧ Keeps (fun _ => False) w w' := by
 induction N with
 | zero => intro l h; omega
 | succ N ih =>
  intro l hsz hlen' w v hS
  have hlen : l.len ≤ 4294967294 := by have := EL.len_le l; omega
  obtain ⟨g, cap, rfl, hcap, hg, hA, hm, hin⟩ := hS
  have IH := hide ih
  have HM := hide hm
  have HIN := hide hin
  have HG := hide hg
  have c1 : (l.len : Int) + 16 ≤ (cap : Int) := by omega
  have c2 : l.len + 16 ≤ cap := by omega
  have c0 : (0 : Int) ≤ (l.len : Int) + 16 := by omega
  clear ih hm hin hg hA
  go_enter Tryz.func60, Tryz.ntmps60
  go_wp2_with fail
  go_loopw [4] (fun i wr => ∃ j : Nat, j ≤ 16 ∧ i = .int .i64 (j : Int) ∧ Hid (Keeps (fun _ => False) w wr)) (fun i _ => 16 - (intOf i).toNat)
  case atStart => exact ⟨0, by omega, rfl, hide (Keeps.refl _ _)⟩
  case round =>
   obtain ⟨j, hj, rfl, HK⟩ := hrel
   by_cases hlt : j < 16
   ·have i1 : (j : Int) < 16 := by omega
    have i0 : (0 : Int) ≤ (j : Int) := by omega
    have i2 : (l.len : Int) + (j : Int) < (l.len : Int) + 16 := by omega
    have i3 : (0 : Int) ≤ (l.len : Int) + (j : Int) := by omega
    obtain ⟨m0, m1, m2, m3⟩ := (uh HM).at hlt
    replace m0 := ((uh HK).cell (uh HG) id).trans m0
    replace m1 := ((uh HK).cell (uh HG) id).trans m1
    replace m2 := ((uh HK).cell (uh HG) id).trans m2
    replace m3 := ((uh HK).cell (uh HG) id).trans m3
    rw [show l.len * 4 + j * 4 = (l.len + j) * 4 by omega] at m0 m1 m2 m3
    obtain ⟨b0, b1, b2, b3⟩ := cl4 (heap_alloc_new wr (.cells #[.int .i64 (-77 - (j : Int)), .int .i64 0, .string ⟨#[115, 112, 97, 114, 101]⟩, .slice none 0 0] 27))
    have HKB := hide ((uh HK).alloc (.cells #[.int .i64 (-77 - (j : Int)), .int .i64 0, .string ⟨#[115, 112, 97, 114, 101]⟩, .slice none 0 0] 27))
    go_wp2_with fail
    go_roundw
    case rel => exact ⟨j + 1, by omega, by go_num, HKB⟩
    case measure => simp [intOf]; omega
   ·obtain rfl : j = 16 := by omega
    have i2 : ¬ ((16 : Nat) : Int) < 16 := by omega
    go_wp2_with fail
    rename World => wo
    go_loopw [6] (fun i wr => ∃ (pre rest : EL) (k : Nat), i = .int .i64 (k : Int) ∧ l = pre.app rest ∧ k = pre.len ∧ Hid (Keeps (fun _ => False) w wr) ∧ WdIn A w rest g (k * 4)) (fun i _ => l.len - (intOf i).toNat)
    case atStart => exact ⟨.nil, l, 0, rfl, rfl, rfl, HK, by simpa using uh HIN⟩
    case round =>
     obtain ⟨pre, rest, k, rfl, happ, hkp, HK, hr⟩ := hrel
     have hll := congrArg EL.len happ
     have hls := congrArg EL.size happ
     rw [EL.len_app] at hll
     rw [EL.size_app] at hls
     have HAPP := hide happ
     have HKP := hide hkp
     cases rest with
     | nil =>
      simp only [EL.len] at hll
      have i3 : ¬ (k : Int) < (l.len : Int) := by omega
      clear happ hkp hll hls hr
      go_wp2_with fail
      go_ret
      exact ⟨rfl, uh HK⟩
     | cons op n s kids rest =>
      obtain ⟨h1, h2, h3, h4, h5, ⟨g2, cp2, h6, h7, h8, h9, h10, h11⟩, h12⟩ := hr
      simp only [EL.len, EL.size] at hll hls
      have i3 : (k : Int) < (l.len : Int) := by omega
      have q3 := ((uh HK).cell h1 id).trans h6
      have HS := hide (uh IH kids (by omega) (by omega) wr (.slice (some ⟨g2, 0, none⟩) kids.len cp2) ((show WdSl A w _ kids from ⟨g2, cp2, rfl, h7, h8, h9, h10, h11⟩).keepF (uh HK)))
      have HR := hide h12
      have hkl : k + (rest.len + 1) = l.len := by omega
      clear happ hkp hll hls h1 h2 h3 h4 h5 h6 h7 h8 h9 h10 h11 h12
      go_wp2_with fail
      refine (uh HS).mono ?_
      rintro e w1 ⟨rfl, hk1⟩
      have HK1 := hide ((uh HK).trans hk1)
      clear hk1 q3
      go_wp2_with fail
      go_roundw
      case rel =>
       refine ⟨pre.app (.cons op n s kids .nil), rest, k + 1, by go_num, by rw [app_one]; exact uh HAPP, by rw [EL.len_app, uh HKP]; rfl, HK1, ?_⟩
       rw [show (k + 1) * 4 = k * 4 + 4 by omega]
       exact uh HR
      case measure => simp [intOf]; omega
end Go.Proofs.YtiinohibmcefkaaGreatDoor
namespace Go.Proofs.YtiinohibmcefkaaGreatDoor
open Go.RowKit Go.Maps
set_option maxRecDepth 100000
section
variable {Q : Exit → Act → World → Prop} {K : Act → World → Prop} {o : Oper} {a : Act} {w : World}
theorem step_c49 {t : Nat} {v : Value} {S : List FieldA} (ho : o.op = .call { callee := .value (.func 49), args := #[.tmp t], argTypes := #[24] }) (ht : a.tmps.getD t undef = v) (hc : Calls Tryz.prog 49 #[v] w fun e w' => ∃ g cap, e = .returned (.agg #[.slice (some ⟨g, 0, none⟩) S.length cap]) ∧ w.heap.size ≤ g ∧ Wide w' (.slice (some ⟨g, 0, none⟩) S.length cap) 3 S.length (fcs S) markF ∧ Keeps (fun _ => False) w w')
  (hk : ∀ g cap w', Wide w' (.slice (some ⟨g, 0, none⟩) S.length cap) 3 S.length (fcs S) markF → Keeps (fun _ => False) w w' → K (a.put o.dst (.agg #[.slice (some ⟨g, 0, none⟩) S.length cap])) w') : Oper.wp Tryz.prog o a w K Q := by
 have he := slot_of ht
 unfold Oper.wp
 simp [execOp, ho, he, go_sem]
 refine hc.mono ?_
 rintro e w' ⟨g, cap, rfl, _, h1, h2⟩
 exact hk _ _ _ h1 h2
theorem step_c51 {t : Nat} {v : Value} {h : Bool} {l : List ValA} (ho : o.op = .call { callee := .value (.func 51), args := #[.tmp t], argTypes := #[31] }) (ht : a.tmps.getD t undef = v) (hc : Calls Tryz.prog 51 #[v] w fun e w' => ∃ g cap, e = .returned (.agg #[.bool h, .slice (some ⟨g, 0, none⟩) l.length cap]) ∧ w.heap.size ≤ g ∧ Wide w' (.slice (some ⟨g, 0, none⟩) l.length cap) 3 l.length (vcs l) markV ∧ Keeps (fun _ => False) w w')
  (hk : ∀ g cap w', Wide w' (.slice (some ⟨g, 0, none⟩) l.length cap) 3 l.length (vcs l) markV → Keeps (fun _ => False) w w' → K (a.put o.dst (.agg #[.bool h, .slice (some ⟨g, 0, none⟩) l.length cap])) w') : Oper.wp Tryz.prog o a w K Q := by
 have he := slot_of ht
 unfold Oper.wp
 simp [execOp, ho, he, go_sem]
 refine hc.mono ?_
 rintro e w' ⟨g, cap, rfl, _, h1, h2⟩
 exact hk _ _ _ h1 h2
end
end Go.Proofs.YtiinohibmcefkaaGreatDoor
namespace Go.Proofs.YtiinohibmcefkaaGreatDoor
open Go.RowKit Go.Maps
theorem app_oneT (pre : SL) (op : Int) (f : Txt) (x : EL) (t e rest : SL) : (pre.app (.cons op f x t e .nil)).app rest = pre.app (.cons op f x t e rest) := by rw [SL.app_assoc]; rfl
def markS (i : Nat) : List Value := [.int .i64 (-77 - (i : Int)), str spareT, .slice none 0 0, .slice none 0 0, .slice none 0 0]
def MarksS (w : World) (g o : Nat) : Prop := ∀ j x, (marksW markS 16)[j]? = some x → w.cell? ⟨g, o + j, none⟩ = some x
def WtIn (A : Nat → Prop) (w : World) : SL → Nat → Nat → Prop
 | .nil, _, _ => True
 | .cons op f ex th el rest, b, o =>
  b < w.heap.size ∧ A b ∧ w.cell? ⟨b, o, none⟩ = some (.int .i64 op) ∧ w.cell? ⟨b, o + 1, none⟩ = some (str f) ∧ (∃ v, w.cell? ⟨b, o + 2, none⟩ = some v ∧ WdSl A w v ex) ∧
   (∃ g cap, w.cell? ⟨b, o + 3, none⟩ = some (.slice (some ⟨g, 0, none⟩) th.len cap) ∧ th.len + 16 ≤ cap ∧ g < w.heap.size ∧ A g ∧ MarksS w g (th.len * 5) ∧ WtIn A w th g 0) ∧
   (∃ g cap, w.cell? ⟨b, o + 4, none⟩ = some (.slice (some ⟨g, 0, none⟩) el.len cap) ∧ el.len + 16 ≤ cap ∧ g < w.heap.size ∧ A g ∧ MarksS w g (el.len * 5) ∧ WtIn A w el g 0) ∧ WtIn A w rest b (o + 5)
def WtSl (A : Nat → Prop) (w : World) (v : Value) (l : SL) : Prop := ∃ g cap, v = .slice (some ⟨g, 0, none⟩) l.len cap ∧ l.len + 16 ≤ cap ∧ g < w.heap.size ∧ A g ∧ MarksS w g (l.len * 5) ∧ WtIn A w l g 0
section
variable {A B F : Nat → Prop} {w w' : World}
theorem MarksS.keep {g o : Nat} (h : MarksS w g o) (hk : Keeps F w w') (hg : g < w.heap.size) (hF : ¬ F g) : MarksS w' g o := fun j x hx => (hk.cell hg hF).trans (h j x hx)
theorem WtIn.keep (hk : Keeps F w w') (hF : ∀ k, k < w.heap.size → A k → ¬ F k) : ∀ {l : SL} {b o : Nat}, WtIn A w l b o → WtIn A w' l b o
 | .nil, _, _, _ => trivial
 | .cons _ _ _ _ _ _, _, _, ⟨h1, h2, h3, h4, ⟨v, h5, h5'⟩, ⟨g, cap, h6, h7, h8, h9, h10, h11⟩, ⟨g2, cap2, k6, k7, k8, k9, k10, k11⟩, h12⟩ => by
  have hf := hF _ h1 h2
  exact ⟨Nat.lt_of_lt_of_le h1 hk.size, h2, (hk.cell h1 hf).trans h3, (hk.cell h1 hf).trans h4, ⟨v, (hk.cell h1 hf).trans h5, h5'.keep hk hF⟩, ⟨g, cap, (hk.cell h1 hf).trans h6, h7, Nat.lt_of_lt_of_le h8 hk.size, h9, h10.keep hk h8 (hF _ h8 h9), h11.keep hk hF⟩, ⟨g2, cap2, (hk.cell h1 hf).trans k6, k7, Nat.lt_of_lt_of_le k8 hk.size, k9, k10.keep hk k8 (hF _ k8 k9), k11.keep hk hF⟩, h12.keep hk hF⟩
theorem WtIn.mono (hAB : ∀ k, k < w.heap.size → A k → B k) : ∀ {l : SL} {b o : Nat}, WtIn A w l b o → WtIn B w l b o
 | .nil, _, _, _ => trivial
 | .cons _ _ _ _ _ _, _, _, ⟨h1, h2, h3, h4, ⟨v, h5, h5'⟩, ⟨g, cap, h6, h7, h8, h9, h10, h11⟩, ⟨g2, cap2, k6, k7, k8, k9, k10, k11⟩, h12⟩ => ⟨h1, hAB _ h1 h2, h3, h4, ⟨v, h5, h5'.mono hAB⟩, ⟨g, cap, h6, h7, h8, hAB _ h8 h9, h10, h11.mono hAB⟩, ⟨g2, cap2, k6, k7, k8, hAB _ k8 k9, k10, k11.mono hAB⟩, h12.mono hAB⟩
theorem WtSl.keep {v : Value} {l : SL} (h : WtSl A w v l) (hk : Keeps F w w') (hF : ∀ k, k < w.heap.size → A k → ¬ F k) : WtSl A w' v l := by
 obtain ⟨g, cap, e, h1, h2, h3, h4, h5⟩ := h
 exact ⟨g, cap, e, h1, Nat.lt_of_lt_of_le h2 hk.size, h3, h4.keep hk h2 (hF _ h2 h3), h5.keep hk hF⟩
theorem WtSl.keepF {v : Value} {l : SL} (h : WtSl A w v l) (hk : Keeps (fun _ => False) w w') : WtSl A w' v l := h.keep hk (fun _ _ _ => id)
theorem WtSl.mono {v : Value} {l : SL} (h : WtSl A w v l) (hAB : ∀ k, k < w.heap.size → A k → B k) : WtSl B w v l := by
 obtain ⟨g, cap, e, h1, h2, h3, h4, h5⟩ := h
 exact ⟨g, cap, e, h1, h2, hAB _ h2 h3, h4, h5.mono hAB⟩
theorem WtIn.stIn : ∀ {l : SL} {b o : Nat}, WtIn A w l b o → StIn (inZ A) w l b o
 | .nil, _, _, _ => trivial
 | .cons _ _ _ _ _ _, _, _, ⟨h1, h2, h3, h4, ⟨v, h5, h5'⟩, ⟨g, cap, h6, h7, h8, h9, h10, h11⟩, ⟨g2, cap2, k6, k7, k8, k9, k10, k11⟩, h12⟩ => ⟨h1, h2, h3, h4, ⟨v, h5, h5'.slE _⟩, ⟨some ⟨g, 0, none⟩, cap, h6, by omega, fun _ => ⟨g, 0, rfl, trivial, h11.stIn⟩⟩, ⟨some ⟨g2, 0, none⟩, cap2, k6, by omega, fun _ => ⟨g2, 0, rfl, trivial, k11.stIn⟩⟩, h12.stIn⟩
theorem WtSl.slS {v : Value} {l : SL} (h : WtSl A w v l) (up : Nat) : SlS (inZ A) w up v l := by
 obtain ⟨g, cap, e, h1, _, _, _, h5⟩ := h
 exact ⟨some ⟨g, 0, none⟩, cap, e, by omega, fun _ => ⟨g, 0, rfl, trivial, h5.stIn⟩⟩
end
def WtsIn (A : Nat → Prop) (w : World) : SL → List Value → Prop
 | .nil, xs => xs = []
 | .cons op f ex th el rest, xs => ∃ xv tv ev xs', xs = .int .i64 op :: str f :: xv :: tv :: ev :: xs' ∧ WdSl A w xv ex ∧ WtSl A w tv th ∧ WtSl A w ev el ∧ WtsIn A w rest xs'
theorem WtsIn.keep {A F : Nat → Prop} {w w' : World} (hk : Keeps F w w') (hF : ∀ k, k < w.heap.size → A k → ¬ F k) : ∀ {l : SL} {xs : List Value}, WtsIn A w l xs → WtsIn A w' l xs
 | .nil, _, h => h
 | .cons _ _ _ _ _ _, _, ⟨xv, tv, ev, xs', e, h1, h2, h3, h4⟩ => ⟨xv, tv, ev, xs', e, h1.keep hk hF, h2.keep hk hF, h3.keep hk hF, h4.keep hk hF⟩
theorem WtsIn.mono {A B : Nat → Prop} {w : World} (hAB : ∀ k, k < w.heap.size → A k → B k) : ∀ {l : SL} {xs : List Value}, WtsIn A w l xs → WtsIn B w l xs
 | .nil, _, h => h
 | .cons _ _ _ _ _ _, _, ⟨xv, tv, ev, xs', e, h1, h2, h3, h4⟩ => ⟨xv, tv, ev, xs', e, h1.mono hAB, h2.mono hAB, h3.mono hAB, h4.mono hAB⟩
theorem WtsIn.snoc {A : Nat → Prop} {w : World} {op : Int} {f : Txt} {ex : EL} {th el : SL} {xv tv ev : Value} (hx : WdSl A w xv ex) (ht : WtSl A w tv th) (he : WtSl A w ev el) : ∀ {l : SL} {xs : List Value}, WtsIn A w l xs → WtsIn A w (l.app (.cons op f ex th el .nil)) (xs ++ [.int .i64 op, str f, xv, tv, ev])
 | .nil, _, h => by
  have h' : _ = _ := h
  subst h'
  exact ⟨xv, tv, ev, [], rfl, hx, ht, he, rfl⟩
 | .cons _ _ _ _ _ _, _, ⟨xv', tv', ev', xs', e, h1, h2, h3, h4⟩ => ⟨xv', tv', ev', xs' ++ [.int .i64 op, str f, xv, tv, ev], by rw [e]; rfl, h1, h2, h3, h4.snoc hx ht he⟩
theorem WtsIn.length {A : Nat → Prop} {w : World} : ∀ {l : SL} {xs : List Value}, WtsIn A w l xs → xs.length = l.len * 5
 | .nil, _, h => by have h' : _ = _ := h; subst h'; rfl
 | .cons _ _ _ _ _ _, _, ⟨xv, tv, ev, xs', e, _, _, _, h⟩ => by have := WtsIn.length h; subst e; simp [SL.len, this]; omega
theorem WtsIn.wtIn {A B : Nat → Prop} {w : World} {b : Nat} (hb : b < w.heap.size) (hB : B b) (hAB : ∀ k, k < w.heap.size → A k → B k) : ∀ {l : SL} {xs : List Value} {o : Nat}, WtsIn A w l xs → (∀ j x, xs[j]? = some x → w.cell? ⟨b, o + j, none⟩ = some x) → WtIn B w l b o
 | .nil, _, _, _, _ => trivial
 | .cons _ _ _ _ _ _, _, o, ⟨xv, tv, ev, xs', e, h1, h2, h3, h4⟩, hc => by
  subst e
  obtain ⟨g, cap, et, hcap, hg, hA, hm, hi⟩ := h2.mono hAB
  obtain ⟨g2, cap2, ee, hcap2, hg2, hA2, hm2, hi2⟩ := h3.mono hAB
  refine ⟨hb, hB, hc 0 _ rfl, hc 1 _ rfl, ⟨xv, hc 2 _ rfl, h1.mono hAB⟩, ⟨g, cap, by rw [← et]; exact hc 3 _ rfl, hcap, hg, hA, hm, hi⟩, ⟨g2, cap2, by rw [← ee]; exact hc 4 _ rfl, hcap2, hg2, hA2, hm2, hi2⟩, WtsIn.wtIn hb hB hAB h4 (fun j x hx => ?_)⟩
  rw [show o + 5 + j = o + (j + 5) by omega]
  exact hc (j + 5) x (by simpa using hx)
end Go.Proofs.YtiinohibmcefkaaGreatDoor
namespace Go.Proofs.YtiinohibmcefkaaGreatDoor
open Go.RowKit Go.Maps
set_option maxRecDepth 100000
section
variable {Q : Exit → Act → World → Prop} {K : Act → World → Prop} {o : Oper} {a : Act} {w : World}
theorem info39T : (Tryz.prog.info? 39).map (fun i => (i.zero, i.size, i.bytes)) = some (some (.agg #[.int .i64 0, .string ⟨#[]⟩, .slice none 0 0, .slice none 0 0, .slice none 0 0]), 5, 96) := by kernel_rfl
theorem step_load28 {t b off : Nat} {v : Value} (ho : o.op = .load 28 (.tmp t)) (ht : a.tmps.getD t undef = .pointer (some ⟨b, off, none⟩)) (hc : w.cell? ⟨b, off, none⟩ = some v) (hk : K (a.put o.dst v) w) : Oper.wp Tryz.prog o a w K Q := by
 have he := slot_of ht
 unfold Oper.wp
 simp [execOp, ho, he, go_sem, hc]
 exact hk
theorem step_fieldS0 {t b off : Nat} (ho : o.op = .fieldAddr 39 (.tmp t) 0) (ht : a.tmps.getD t undef = .pointer (some ⟨b, off, none⟩)) (hk : K (a.put o.dst (.pointer (some ⟨b, off, none⟩))) w) : Oper.wp Tryz.prog o a w K Q := by
 have he := slot_of ht
 unfold Oper.wp
 simp [execOp, ho, he, go_sem]
 exact hk
theorem step_fieldS1 {t b off : Nat} (ho : o.op = .fieldAddr 39 (.tmp t) 1) (ht : a.tmps.getD t undef = .pointer (some ⟨b, off, none⟩)) (hk : K (a.put o.dst (.pointer (some ⟨b, off + 1, none⟩))) w) : Oper.wp Tryz.prog o a w K Q := by
 have he := slot_of ht
 unfold Oper.wp
 simp [execOp, ho, he, go_sem]
 exact hk
theorem step_fieldS2 {t b off : Nat} (ho : o.op = .fieldAddr 39 (.tmp t) 2) (ht : a.tmps.getD t undef = .pointer (some ⟨b, off, none⟩)) (hk : K (a.put o.dst (.pointer (some ⟨b, off + 2, none⟩))) w) : Oper.wp Tryz.prog o a w K Q := by
 have he := slot_of ht
 unfold Oper.wp
 simp [execOp, ho, he, go_sem]
 exact hk
theorem step_fieldS3 {t b off : Nat} (ho : o.op = .fieldAddr 39 (.tmp t) 3) (ht : a.tmps.getD t undef = .pointer (some ⟨b, off, none⟩)) (hk : K (a.put o.dst (.pointer (some ⟨b, off + 3, none⟩))) w) : Oper.wp Tryz.prog o a w K Q := by
 have he := slot_of ht
 unfold Oper.wp
 simp [execOp, ho, he, go_sem]
 exact hk
theorem step_fieldS4 {t b off : Nat} (ho : o.op = .fieldAddr 39 (.tmp t) 4) (ht : a.tmps.getD t undef = .pointer (some ⟨b, off, none⟩)) (hk : K (a.put o.dst (.pointer (some ⟨b, off + 4, none⟩))) w) : Oper.wp Tryz.prog o a w K Q := by
 have he := slot_of ht
 unfold Oper.wp
 simp [execOp, ho, he, go_sem]
 exact hk
theorem step_indexS {t u kb ko n cap j : Nat} (ho : o.op = .indexAddr 28 (.tmp t) (.tmp u)) (ht : a.tmps.getD t undef = .slice (some ⟨kb, ko, none⟩) n cap) (hu : a.tmps.getD u undef = .int .i64 (j : Int)) (hj : j < n) (hk : K (a.put o.dst (.pointer (some ⟨kb, ko + j * 5, none⟩))) w) : Oper.wp Tryz.prog o a w K Q := by
 have he := slot_of ht
 have he2 := slot_of hu
 have h1 : (j : Int) < (n : Int) := by omega
 have h0 : (0 : Int) ≤ (j : Int) := by omega
 unfold Oper.wp
 simp [execOp, ho, he, he2, go_sem, h1, h0]
 exact hk
theorem step_c48 {t : Nat} {v : Value} {l : SL} (ho : o.op = .call { callee := .value (.func 48), args := #[.tmp t], argTypes := #[28] }) (ht : a.tmps.getD t undef = v) (hc : Calls Tryz.prog 48 #[v] w fun e w' => ∃ v', e = .returned v' ∧ WtSl (fun q => w.heap.size ≤ q) w' v' l ∧ Keeps (fun _ => False) w w')
  (hk : ∀ v' w', WtSl (fun q => w.heap.size ≤ q) w' v' l → Keeps (fun _ => False) w w' → K (a.put o.dst v') w') : Oper.wp Tryz.prog o a w K Q := by
 have he := slot_of ht
 unfold Oper.wp
 simp [execOp, ho, he, go_sem]
 refine hc.mono ?_
 rintro e w' ⟨v', rfl, h1, h2⟩
 exact hk _ _ h1 h2
theorem step_build39 {t0 t1 t2 t3 t4 : Nat} {op : Int} {f : Txt} {v2 v3 v4 : Value} {A : Nat → Prop} {x : EL} {l m : SL} (ho : o.op = .build 39 #[(0, .tmp t0), (1, .tmp t1), (2, .tmp t2), (3, .tmp t3), (4, .tmp t4)]) (h0 : a.tmps.getD t0 undef = .int .i64 op) (h1 : a.tmps.getD t1 undef = str f) (h2 : a.tmps.getD t2 undef = v2) (h3 : a.tmps.getD t3 undef = v3) (h4 : a.tmps.getD t4 undef = v4) (hx : WdSl A w v2 x) (hl : WtSl A w v3 l) (hm : WtSl A w v4 m)
  (hk : K (a.put o.dst (.agg #[.int .i64 op, str f, v2, v3, v4])) w) : Oper.wp Tryz.prog o a w K Q := by
 obtain ⟨g2, cap2, rfl, _⟩ := hx
 obtain ⟨g3, cap3, rfl, _⟩ := hl
 obtain ⟨g4, cap4, rfl, _⟩ := hm
 have e0 := slot_of h0
 have e1 := slot_of h1
 have e2 := slot_of h2
 have e3 := slot_of h3
 have e4 := slot_of h4
 unfold Oper.wp
 simp [execOp, ho, e0, e1, e2, e3, e4, go_sem]
 exact hk
theorem step_one39 {t : Nat} {v x0 x1 : Value} {B : Nat} {x : EL} {l m : SL} (ho : o.op = .buildSlice 28 1 #[(0, .tmp t)]) (ht : a.tmps.getD t undef = v) (hv : ∃ xv tv ev, v = .agg #[x0, x1, xv, tv, ev] ∧ WdSl (fun q => B ≤ q) w xv x ∧ WtSl (fun q => B ≤ q) w tv l ∧ WtSl (fun q => B ≤ q) w ev m) (hB : B ≤ w.heap.size)
  (hk : ∀ v' w', (∃ xv tv ev g, v' = .slice (some ⟨g, 0, none⟩) 1 1 ∧ B ≤ g ∧ w'.heap[g]? = some (.cells #[x0, x1, xv, tv, ev] 39 (0, 0)) ∧ WdSl (fun q => B ≤ q ∧ q < g) w' xv x ∧ WtSl (fun q => B ≤ q ∧ q < g) w' tv l ∧ WtSl (fun q => B ≤ q ∧ q < g) w' ev m) → Keeps (fun _ => False) w w' → K (a.put o.dst v') w') : Oper.wp Tryz.prog o a w K Q := by
 obtain ⟨xv, tv, ev, rfl, hx, hl, hm⟩ := hv
 have he := slot_of ht
 unfold Oper.wp
 simp [execOp, ho, he, go_sem]
 exact hk _ _ ⟨xv, tv, ev, w.heap.size, rfl, hB, heap_alloc_new w _, (hx.mono (fun q hq z => ⟨z, hq⟩)).keepF (kAlloc w _), (hl.mono (fun q hq z => ⟨z, hq⟩)).keepF (kAlloc w _), (hm.mono (fun q hq z => ⟨z, hq⟩)).keepF (kAlloc w _)⟩ (kAlloc w _)
end
end Go.Proofs.YtiinohibmcefkaaGreatDoor
