import Derived.Test.YtbdlcaamanhapaaGreatDoorJzal
import Derived.Test.YtbdlcaamanhapaaGreatDoorJzai
import Derived.Test.YtbdlcaamanhapaaGreatDoorJzaf
import Derived.Deep.RegionLaw
import Derived.Deep.AppendLies
namespace Go.Proofs.YtbdlcaamanhapaaGreatDoor
open Go.RowKit Go.Maps
set_option maxRecDepth 100000
set_option maxHeartbeats 2000000
theorem vcs_set3 (v : ValA) : ∀ (l : List ValA) (n : Nat), n < l.length → (((vcs l).set (n * 3) (.int .i64 v.kind)).set (n * 3 + 1) (.int .i64 v.n)).set (n * 3 + 2) (str v.s) = vcs (l.set n v)
 | [], _, h => by simp at h
 | x :: r, 0, _ => by simp [vcs, ValA.cs]
 | x :: r, n + 1, h => by
  have ih := vcs_set3 v r n (by simpa using h)
  have e : ∀ y : ValA, ∀ q : List ValA, vcs (y :: q) = y.cs ++ vcs q := fun y q => by simp [vcs]
  rw [List.set_cons_succ, e, e, ← ih, show (n + 1) * 3 = n * 3 + 3 by omega]
  rfl
theorem own_set3 {w : World} {B : Nat} {rv : Value} {l : List ValA} (h : w.ownsRow B 51 3 rv l.length (vcs l)) {g cap : Nat} (hr : rv = .slice (some ⟨g, 0, none⟩) l.length cap) {n : Nat} (hn : n < l.length) (v : ValA) :
  (((w.setCell ⟨g, n * 3, none⟩ (.int .i64 v.kind)).setCell ⟨g, n * 3 + 1, none⟩ (.int .i64 v.n)).setCell ⟨g, n * 3 + 2, none⟩ (str v.s)).ownsRow B 51 3 rv (l.set n v).length (vcs (l.set n v)) := by
 subst hr
 have h1 := (((h.stored (n * 3) (.int .i64 v.kind)).1.stored (n * 3 + 1) (.int .i64 v.n)).1.stored (n * 3 + 2) (str v.s)).1
 rw [vcs_set3 v l n hn] at h1
 simpa using h1
theorem keeps_at3 (w : World) (g a b c : Nat) (x y z : Value) : Wp (fun q => q = g) w (((w.setCell ⟨g, a, none⟩ x).setCell ⟨g, b, none⟩ y).setCell ⟨g, c, none⟩ z) :=
 Wp.setCell (F := fun q => q = g) (p := ⟨g, c, none⟩) (Wp.setCell (F := fun q => q = g) (p := ⟨g, b, none⟩) (Wp.setCell (F := fun q => q = g) (p := ⟨g, a, none⟩) (Wp.refl (fun q => q = g) w) (fun _ => rfl) x) (fun _ => rfl) y) (fun _ => rfl) z
theorem RunAt.other {w : World} {b : Nat} {sv rv : Value} {m : MS} (h : RunAt w b sv rv m) {hh : Bool} (he : m.here = hh) (vals : List ValA) : RunAt w b sv rv ⟨m.st, hh, vals⟩ := ⟨h.blk, h.c0, he ▸ h.c1, h.c2, h.ch, h.stk, h.len⟩
abbrev Own (b : Nat) (rv : Value) : Nat → Prop := fun q => q = b ∨ rv.ownBlock = some q
theorem set_v {w0 w : World} {b : Nat} {sv rv : Value} {m : MS} (h : MR w0 w b sv rv m) (n : Nat) (v : ValA) (hn : m.here = true → n < m.vals.length) :
  Calls Tryz.prog 51 #[.pointer (some ⟨b, 0, none⟩), .int .i64 (n : Int), v.v] w fun e w' => e = .returned (.tuple #[]) ∧ MR w0 w' b sv rv ⟨m.st, (setR m n v).1, (setR m n v).2⟩ ∧ Wp (Own b rv) w w' := by
 have HKA := zB (kA w (.cells #[.int .i64 v.kind, .int .i64 v.n, str v.s] 51))
 have h1 := h.keepF (zA HKA)
 have hX := heap_alloc_new w (.cells #[.int .i64 v.kind, .int .i64 v.n, str v.s] 51)
 have HM := zB h1
 have c1 := h1.run.c1
 have c2 := h1.run.c2
 have hb1 := h1.run.lt
 cases hh : m.here with
 | false =>
  rw [hh] at c1
  have HR : Hid (setR m n v = (m.here, m.vals)) := by show _ = _; unfold setR; rw [hh]; rfl
  clear hX hn h1 h
  unfold ValA.v
  go_enter Tryz.func51, Tryz.ntmps51
  go_wp2_with fail
  go_end0
  refine ⟨rfl, ?_, (zA HKA).any⟩
  rw [zA HR]
  exact zA HM
 | true =>
  rw [hh] at c1
  have hlt := hn hh
  have HR : Hid (setR m n v = (true, m.vals.set n v)) := by show _ = _; unfold setR; rw [hh]; rfl
  have hown := h1.own hh
  obtain ⟨g, cap, cur, e, hg, hgb, rest⟩ : ∃ g cap cur, rv = .slice (some ⟨g, 0, none⟩) m.vals.length cap ∧ w0.heap.size ≤ g ∧ (w.alloc (.cells #[.int .i64 v.kind, .int .i64 v.n, str v.s] 51)).heap[g]? = some (.cells cur 51 (0, 0)) ∧ True := by
   rcases hown.2 with ⟨_, h0⟩ | ⟨g, cap, cur, a1, a2, a3, _⟩
   ·omega
   ·exact ⟨g, cap, cur, a1, a2, a3, trivial⟩
  have HS := zB (own_set3 hown e hlt v)
  obtain ⟨curb, hBb, _⟩ := h1.run.blk
  have hne := ownsRow_ne hown hBb (by decide)
  rw [e] at hne
  have HNE : Hid (b ≠ g) := fun q => hne (by simp [Value.ownBlock, q])
  clear hBb hne
  have HO := zB hown
  have hvals := h1.vals
  subst e
  obtain ⟨g', off', cap', e', hgl, hc⟩ := hvals.cells (by omega)
  simp only [Value.slice.injEq, Option.some.injEq, Addr.mk.injEq, and_true, true_and] at e'
  obtain ⟨⟨rfl, rfl⟩, rfl⟩ := e'
  obtain ⟨x, hx⟩ : ∃ x, m.vals[n]? = some x := ⟨_, List.getElem?_eq_getElem hlt⟩
  have d0 := (hc n x hx).1
  have d1 := (hc n x hx).2.1
  have d2 := (hc n x hx).2.2
  simp only [Nat.zero_add] at d0 d1 d2
  have z0 := zF hgb (n * 3)
  have z1 := zF hgb (n * 3 + 1)
  have z2 := zF hgb (n * 3 + 2)
  have i0 : (0 : Int) ≤ (n : Int) := by omega
  have i1 : (n : Int) < (m.vals.length : Int) := by omega
  have HNW := zB h.new
  have HG := zB hg
  unfold ValA.v
  clear hn h1 h hc hown hvals hx hgb hg rest
  go_enter Tryz.func51, Tryz.ntmps51
  go_wp2_with fail
  generalize w.alloc (.cells #[.int .i64 v.kind, .int .i64 v.n, str v.s] 51) = W at *
  have y5 : W.cell? ⟨w.heap.size, 0, none⟩ = some (.int .i64 v.kind) := (zC hX _).trans rfl
  have y6 : W.cell? ⟨w.heap.size, 1, none⟩ = some (.int .i64 v.n) := (zC hX _).trans rfl
  have y7 : W.cell? ⟨w.heap.size, 2, none⟩ = some (str v.s) := (zC hX _).trans rfl
  clear hX
  go_region
  go_wp2_with fail
  go_end0
  have k3 := keeps_at3 W g (n * 3) (n * 3 + 1) (n * 3 + 2) (.int .i64 v.kind) (.int .i64 v.n) (str v.s)
  have kd := (Wp.refl (fun _ => False) (((W.setCell ⟨g, n * 3, none⟩ (.int .i64 v.kind)).setCell ⟨g, n * 3 + 1, none⟩ (.int .i64 v.n)).setCell ⟨g, n * 3 + 2, none⟩ (str v.s))).drew
  refine ⟨rfl, ?_, ?_⟩
  ·rw [zA HR]
   refine ⟨((((zA HM).run.keep k3 (zA HNE)).keepF kd).other hh _), ((zA HM).kept.then k3 (fun i hi e => by have := zA HG; omega)).trans kd, zA HNW, fun _ => zI (zA HS) kd (fun _ _ => id), fun q => (by cases q), fun q e => ?_⟩
   obtain ⟨h1, cur2, h2⟩ := (zA HM).rty q e
   have hq : q = g := by simp [Value.ownBlock] at e; exact e.symm
   subst hq
   exact ⟨h1, _, zH (zH (zH h2 _) _) _⟩
  ·have kk : Wp (Own b (.slice (some ⟨g, 0, none⟩) m.vals.length cap)) w W := (zA HKA).any
   refine ((kk.trans (k3.mono fun q _ e => ?_))).drew
   exact Or.inr (by rw [e]; rfl)
theorem wrap64_eq (x : Int) : wrap64 x = IntKind.i64.wrap x := (IntWalk.i64_left x).symm
theorem run_field1 (k n : Int) (s : Txt) (W : World) : (Instr.field 51 (.agg #[.int .i64 k, .int .i64 n, str s]) 1).run Tryz.prog W = .ok (.int .i64 n) W := by
 kernel_rfl
theorem add_v {w0 w : World} {b : Nat} {sv rv : Value} {m : MS} (S : List Wq) (h : MR w0 w b sv rv m) (hS : Wt w0 sv S) (n : Nat) (v : ValA) (hn : m.here = true → n < m.vals.length) (hns : n < S.length) :
  Calls Tryz.prog 52 #[.pointer (some ⟨b, 0, none⟩), .int .i64 (n : Int), v.v] w fun e w' => e = .returned (.tuple #[]) ∧ MR w0 w' b sv rv ⟨m.st, (setR m n (numV (wrap64 ((loadV S m n).n + v.n)))).1, (setR m n (numV (wrap64 ((loadV S m n).n + v.n)))).2⟩ ∧ Wp (Own b rv) w w' := by
 have HKA := zB (kA w (.cells #[.int .i64 v.kind, .int .i64 v.n, str v.s] 51))
 have hX := heap_alloc_new w (.cells #[.int .i64 v.kind, .int .i64 v.n, str v.s] 51)
 have HX := zB hX
 have HM := zB (h.keepF (zA HKA))
 have HLOAD := zB (fun (W : World) (q : MR w0 W b sv rv m) => load_v S q hS n hn hns)
 have HSET := zB (fun (W : World) (x : ValA) (q : MR w0 W b sv rv m) => set_v q n x hn)
 have HB := zB h.run.lt
 have HRL := zB (fun q e => (h.rlt q e).2)
 generalize loadV S m n = L at *
 unfold ValA.v
 clear hX h
 go_enter Tryz.func52, Tryz.ntmps52
 go_wp2_with fail
 generalize w.alloc (.cells #[.int .i64 v.kind, .int .i64 v.n, str v.s] 51) = W at *
 have p1 : w.heap.size < W.heap.size := zE (zA HX)
 have y6 : W.cell? ⟨w.heap.size, 1, none⟩ = some (.int .i64 v.n) := (zC (zA HX) _).trans rfl
 have HD := zB (Wp.refl (fun _ => False) W).drew
 have hfl := run_field1 L.kind L.n L.s
 go_region_held3 (fun w' => w'.cell? ⟨w.heap.size, 1, none⟩ = some (.int .i64 v.n))
  (first | with_reducible exact f4 | with_reducible exact f3 | with_reducible exact f2 | (go_keep; done) | assumption)
  (first
    | (go_at_call 51; refine ((zA HSET) _ _ m3).mono ?_; rintro e w4 ⟨rfl, hm4, hk4⟩; have f4 := (hk4.cell (o := 1) q3 (fun q => q.elim (fun q => by have := zA HB; omega) (fun q => by have := (zA HRL) _ q; omega))).trans f3)
    | (go_at_call 74; refine (number_v _ _).mono ?_; rintro e w3 ⟨rfl, hk3⟩; have q3 := Nat.lt_of_lt_of_le q2 hk3.size; have f3 := (hk3.cell (o := 1) q2 id).trans f2; have m3 := m2.keepF hk3)
    | (go_at_call 77; refine ((zA HLOAD) _ ((zA HM).keepF (zA HD))).mono ?_; rintro e w2 ⟨rfl, hk2⟩; have q2 := Nat.lt_of_lt_of_le (Nat.lt_of_lt_of_le p1 (zA HD).size) hk2.size; have f2 := (hk2.cell (o := 1) (Nat.lt_of_lt_of_le p1 (zA HD).size) id).trans (((zA HD).cell (o := 1) p1 id).trans y6); have m2 := ((zA HM).keepF (zA HD)).keepF hk2; unfold ValA.v))
 go_wp2_with fail
 go_end0
 have hm5 := hm4
 rw [← wrap64_eq] at hm5
 exact ⟨rfl, hm5, ((((zA HKA).trans (zA HD)).trans hk2).trans hk3).any.trans hk4⟩
theorem ownsRow_lt {w : World} {B e s n : Nat} {v : Value} {xs : List Value} (h : w.ownsRow B e s v n xs) : ∀ q, v.ownBlock = some q → B ≤ q ∧ ∃ cur, w.heap[q]? = some (.cells cur e (0, 0)) := by
 intro q hq
 rcases h.2 with ⟨hv, _⟩ | ⟨g, cap, cur, hv, hb, hg, _⟩
 ·rw [hv] at hq; simp [Value.ownBlock] at hq
 ·rw [hv] at hq
  simp [Value.ownBlock] at hq
  subst hq
  exact ⟨hb, cur, hg⟩
theorem ownsRow_base {w : World} {B C e s n : Nat} {v : Value} {xs : List Value} (h : w.ownsRow B e s v n xs) (hC : C ≤ B) : w.ownsRow C e s v n xs := by
 refine ⟨h.1, ?_⟩
 rcases h.2 with h0 | ⟨g, cap, cur, hv, hb, rest⟩
 ·exact Or.inl h0
 ·exact Or.inr ⟨g, cap, cur, hv, Nat.le_trans hC hb, rest⟩
theorem create_v {w0 w : World} {b : Nat} {sv rv : Value} {m : MS} (S : List Wq) (h : MR w0 w b sv rv m) (hT : Types w0) (hS : Wt w0 sv S) (hz : errS S = 0) :
  Calls Tryz.prog 53 #[.pointer (some ⟨b, 0, none⟩)] w fun e w' => e = .returned (.tuple #[]) ∧ (∃ rv', MR w0 w' b sv rv' (if m.here then m else ⟨m.st, true, S.map zeroV⟩)) ∧ Wp (Own b rv) w w' := by
 have c0 := h.run.c0
 have c1 := h.run.c1
 have hb := h.run.lt
 have HM := zB h
 cases hh : m.here with
 | true =>
  rw [hh] at c1
  clear h
  go_enter Tryz.func53, Tryz.ntmps53
  go_wp2_with fail
  go_end0
  exact ⟨rfl, ⟨rv, zA HM⟩, Wp.refl _ _⟩
 | false =>
  rw [hh] at c1
  have HZ := zB (fun (W : World) (hk : Wp (fun _ => False) w0 W) => val_zero S sv W (hT.keepF hk) (hS.keepF hk))
  obtain ⟨ao, cap, rfl⟩ := Ws.form hS
  clear h
  go_enter Tryz.func53, Tryz.ntmps53
  go_wp2_with fail
  refine ((zA HZ) _ (zA HM).kept).mono ?_
  rintro e w1 ⟨v', rfl, ho1, hk1⟩
  have hM1 := (zA HM).keepF hk1
  obtain ⟨cur, hB, hs⟩ := hM1.run.blk
  have z1 := zF hB 1
  have z2 := zF hB 2
  have c1' := hM1.run.c1
  have c2' := hM1.run.c2
  rw [hh] at c1'
  have hb1 := hM1.run.lt
  have HM1 := zB hM1
  have HO1 := zB ho1
  have HK1 := zB hk1
  obtain ⟨zo, zc, rfl⟩ := Ws.form (zG ho1)
  clear hM1 ho1 hk1 hB hs
  go_wp2_with fail
  go_end0
  have hSB : schemaB S = true := by unfold errS at hz; by_cases q : schemaB S = true
                                    ·exact q
                                    ·rw [if_neg q] at hz; cases hz
  have hzb : zeroB S = S.map zeroV := by unfold zeroB zeros; rw [if_pos hSB]
  have ko : Wp (fun q => q = b) w1 ((w1.setCell ⟨b, 1, none⟩ (.bool true)).setCell ⟨b, 2, none⟩ (.slice zo (zeroB S).length zc)) := Wp.setCell (F := fun q => q = b) (p := ⟨b, 2, none⟩) (Wp.setCell (F := fun q => q = b) (p := ⟨b, 1, none⟩) (Wp.refl (fun q => q = b) w1) (fun _ => rfl) _) (fun _ => rfl) _
  obtain ⟨cur, hB, hs⟩ := (zA HM1).run.blk
  have hE := zH (o := 2) (zH (o := 1) hB (.bool true)) (.slice zo (zeroB S).length zc)
  have hq : ∀ o, o ≠ 1 → o ≠ 2 → ((w1.setCell ⟨b, 1, none⟩ (.bool true)).setCell ⟨b, 2, none⟩ (.slice zo (zeroB S).length zc)).cell? ⟨b, o, none⟩ = w1.cell? ⟨b, o, none⟩ := fun o h1 h2 => by
   rw [zC hE, zC hB, Array.getElem?_setIfInBounds_ne (Ne.symm h2), Array.getElem?_setIfInBounds_ne (Ne.symm h1)]
  have hr := (zA HM1).run
  have hown := zI (zA HO1) ko (fun q e hq => ownsRow_ne (zA HO1) hB (by decide) (by rw [e, hq]))
  have hlt1 := ownsRow_lt (zA HO1)
  refine ⟨rfl, ⟨.slice zo (zeroB S).length zc, ⟨⟨⟨_, hE, by simpa using hs⟩, (hq 0 (by omega) (by omega)).trans hr.c0, ?_, ?_, (hq 51 (by omega) (by omega)).trans hr.ch, fun i v hv => ⟨(hq _ (by omega) (by omega)).trans (hr.stk i v hv).1, (hq _ (by omega) (by omega)).trans (hr.stk i v hv).2.1, (hq _ (by omega) (by omega)).trans (hr.stk i v hv).2.2⟩, hr.len⟩, ?_, (zA HM1).new, fun _ => ?_, fun q => (by cases q), fun q e => ?_⟩⟩, ?_⟩
  ·rw [zC hE, Array.getElem?_setIfInBounds_ne (by omega)]; simp [hs]
  ·rw [zC hE]; simp [hs]
  ·exact (zA HM1).kept.then ko (fun i hi e => by have := (zA HM1).new; omega)
  ·rw [← hzb]
   exact ownsRow_base hown (Nat.le_trans (zA HM).kept.size (Nat.le_refl _))
  ·obtain ⟨h1, cur2, h2⟩ := hlt1 q e
   have hne : ¬ q = b := fun q' => by subst q'; rw [hB] at h2; simp at h2
   exact ⟨Nat.le_trans (zA HM).kept.size h1, cur2, (ko.block q (zE h2) hne).trans h2⟩
  ·exact (zA HK1).any.trans (ko.mono fun q _ e => Or.inl e)
set_option maxHeartbeats 40000000
def rowE (S : List Wq) (h : Bool) (vals : List ValA) : Int := if h then errR S vals else if vals = [] then 0 else 61
theorem checkRow_v (S : List Wq) (sv u : Value) (hh : Bool) (vals : List ValA) (w : World) (hT : Types w) (hS : Wt w sv S) (hr : Wr w u vals) :
  Calls Tryz.prog 36 #[.agg #[sv], .agg #[.bool hh, u]] w fun e w' => e = .returned (.int .i64 (rowE S hh vals)) ∧ Wp (fun _ => False) w w' := by
 obtain ⟨so, sc, rfl⟩ := Ws.form hS
 obtain ⟨uo, uc, rfl⟩ := Ws.form hr
 have HKA := zB ((kA w (.cells #[.slice so S.length sc] 24)).alloc (.cells #[.bool hh, .slice uo vals.length uc] 27))
 have HQ := zB (val_check S _ vals _ _ (hT.keepF (zA HKA)) (hS.keepF (zA HKA)) (hr.keepF (zA HKA)))
 have HE : Hid (rowE S hh vals = if hh then errR S vals else if vals = [] then 0 else 61) := rfl
 generalize rowE S hh vals = R at *
 clear hT hS hr
 cases hh with
 | true =>
  rw [if_pos rfl] at HE
  go_enter Tryz.func36, Tryz.ntmps36
  go_wp2_with fail
  refine (zA HQ).mono ?_
  rintro e w1 ⟨rfl, hk1⟩
  have HK := zB ((zA HKA).trans hk1)
  clear hk1 HQ HKA
  go_wp2_with fail
  go_ret
  exact ⟨ret_int (zA HE).symm, zA HK⟩
 | false =>
  rw [if_neg (by decide)] at HE
  clear HQ
  cases vals with
  | nil =>
   rw [if_pos rfl] at HE
   go_enter Tryz.func36, Tryz.ntmps36
   go_wp2_with fail
   go_ret
   exact ⟨ret_int (zA HE).symm, zA HKA⟩
  | cons a r =>
   rw [if_neg (by simp)] at HE
   generalize hN : (a :: r).length = N at *
   have hN1 : (0 : Int) < (N : Int) := by rw [← hN]; simp
   go_enter Tryz.func36, Tryz.ntmps36
   go_wp2_with fail
   go_ret
   exact ⟨ret_int (zA HE).symm, zA HKA⟩
theorem rowE_len {S : List Wq} {vals : List ValA} (h : rowE S true vals = 0) : vals.length ≤ 8 := by
 unfold rowE at h
 rw [if_pos rfl] at h
 unfold errR at h
 split at h
 ·rename_i hs
  split at h
  ·rename_i hr
   have := (schemaB_len hs).2
   unfold recB at hr
   simp at hr
   omega
  ·cases h
 ·cases h
theorem rowE_nil {S : List Wq} {vals : List ValA} (h : rowE S false vals = 0) : vals = [] := by
 unfold rowE at h
 rw [if_neg (by decide)] at h
 split at h
 ·assumption
 ·cases h
theorem step_appendV {w : World} {ops : Array Oper} {o : Oper} {a : Act} {K : Act → World → Prop} {Q : Exit → Act → World → Prop} {E : Prop} (hgd : o.guard = none) (s x : Operand)
  (ho : o.op = .call { callee := .builtin .append, args := #[s, x], argTypes := #[25, 25] }) (base : Nat) (v : Value) (n : Nat) (xs : List Value) (hs : a.eval s = v) (hown : w.ownsRow base 51 3 v n xs)
  (u : Value) (G : List ValA) (hx : a.eval x = u) (hu : Wr w u G) (h63 : n + G.length ≤ maxLen) (hbytes : n + G.length ≤ 4398046511104) (hbase : base ≤ w.heap.size)
  (h : ∀ ao c w', w'.ownsRow base 51 3 (.slice ao (n + G.length) c) (n + G.length) (xs ++ vcs G) → w.grownBy w' v.ownBlock → K (a.put o.dst (.slice ao (n + G.length) c)) w') : if Region.wanted o (yielded ops a.tmps) = true then Oper.wp Tryz.prog o a w K Q else E := by
 have hw : Region.wanted o (yielded ops a.tmps) = true := by simp [Region.wanted, hgd]
 rw [if_pos hw]
 obtain ⟨v', w', hr, h2, h3⟩ := run_appendV_any w o.type base v n xs hown u G hu h63 hbytes hbase
 obtain ⟨ao, c, rfl⟩ := Ws.form (zG h2)
 unfold Oper.wp execOp
 simp only [ho, resolve, invoke, builtin, Sem.run_bind, Sem.run_pure, Result.andThen_ok, List.map_toArray, List.map_cons, List.map_nil, hs, hx, hr]
 exact h ao c w' h2 h3
theorem own_none (w : World) (base : Nat) (hb : base ≤ w.heap.size) : (w.alloc (.cells #[] 51)).ownsRow base 51 3 (.slice (some ⟨w.heap.size, 0, none⟩) 0 0) 0 [] :=
 World.ownsRow_lit (base := base) (e := 51) (size := 3) w #[] 0 hb (by unfold maxLen; omega) rfl
theorem blk28a {w2 w5 : World} (hg : (((w2.alloc (.cells #[] 51)).alloc (.cells #[.bool false, .slice none 0 0] 27)).drew).grownBy w5 (Value.slice (some ⟨w2.heap.size, 0, none⟩) 0 0).ownBlock) : w5.heap[w2.heap.size + 1]? = some (.cells #[.bool false, .slice none 0 0] 27 (0, 0)) := by
 rw [hg.block (w2.heap.size + 1) (by simp [World.drew]) (by simp [Value.ownBlock])]
 have := heap_alloc_new (w2.alloc (.cells #[] 51)) (.cells #[.bool false, .slice none 0 0] 27)
 rw [show (w2.alloc (.cells #[] 51)).heap.size = w2.heap.size + 1 by simp] at this
 exact this
theorem own_noneb (w2 : World) (base : Nat) (hb : base ≤ w2.heap.size) : ((w2.alloc (.cells #[.bool false, .slice none 0 0] 27)).alloc (.cells #[] 51)).ownsRow base 51 3 (.slice (some ⟨w2.heap.size + 1, 0, none⟩) 0 0) 0 [] := by
 have := own_none (w2.alloc (.cells #[.bool false, .slice none 0 0] 27)) base (by simp; omega)
 rwa [show (w2.alloc (.cells #[.bool false, .slice none 0 0] 27)).heap.size = w2.heap.size + 1 by simp] at this
theorem blk28b {w2 w5 : World} (hg : (((w2.alloc (.cells #[.bool false, .slice none 0 0] 27)).alloc (.cells #[] 51)).drew).grownBy w5 (Value.slice (some ⟨w2.heap.size + 1, 0, none⟩) 0 0).ownBlock) : w5.heap[w2.heap.size]? = some (.cells #[.bool false, .slice none 0 0] 27 (0, 0)) := by
 rw [hg.block w2.heap.size (by simp [World.drew]; omega) (by simp [Value.ownBlock])]
 exact ((kA (w2.alloc (.cells #[.bool false, .slice none 0 0] 27)) (.cells #[] 51)).block w2.heap.size (by simp) id).trans (heap_alloc_new w2 (.cells #[.bool false, .slice none 0 0] 27))
theorem grown_cell {W w5 : World} {q k o : Nat} {v : Value} (hg : W.grownBy w5 (Value.slice (some ⟨q, 0, none⟩) 0 0).ownBlock) (hk : k < W.heap.size) (hne : q ≠ k) (h : W.cell? ⟨k, o, none⟩ = some v) : w5.cell? ⟨k, o, none⟩ = some v := by
 have := hg.block k hk (by simp [Value.ownBlock]; exact Ne.symm hne)
 simp only [World.cell?] at h ⊢
 rw [this]
 exact h
theorem fin28 {w w5 : World} {hh : Bool} {ao : Option Addr} {n c : Nat} {s : Value} {xs : List Value} (hk : Wp (fun _ => False) w w5) (x1 : w5.cell? ⟨w.heap.size, 0, none⟩ = some s) (ho : w5.ownsRow w.heap.size 51 3 (.slice ao n c) n xs) :
  (w5.alloc (.cells #[.bool hh, .slice ao n c] 27)).cell? ⟨w.heap.size, 0, none⟩ = some s ∧ (w5.alloc (.cells #[.bool hh, .slice ao n c] 27)).cell? ⟨w5.heap.size, 0, none⟩ = some (.bool hh) ∧ (w5.alloc (.cells #[.bool hh, .slice ao n c] 27)).cell? ⟨w5.heap.size, 1, none⟩ = some (.slice ao n c) ∧ (w5.alloc (.cells #[.bool hh, .slice ao n c] 27)).ownsRow w.heap.size 51 3 (.slice ao n c) n xs ∧ Wp (fun _ => False) w (w5.alloc (.cells #[.bool hh, .slice ao n c] 27)) := by
 have hb := heap_alloc_new w5 (.cells #[.bool hh, .slice ao n c] 27)
 have hlt := World.block_lt_of_cell? w5 ⟨w.heap.size, 0, none⟩ x1
 exact ⟨((kA w5 _).cell hlt id).trans x1, (zC hb _).trans rfl, (zC hb _).trans rfl, ho.alloc _, hk.alloc _⟩
theorem fin28s {w w5 : World} {hh : Bool} {ao : Option Addr} {n c B : Nat} {s : Value} {xs : List Value} (hk : Wp (fun _ => False) w w5) (x1 : w5.cell? ⟨w.heap.size, 0, none⟩ = some s) (ho : w5.ownsRow w.heap.size 51 3 (.slice ao n c) n xs) (hB : w5.heap[B]? = some (.cells #[.bool false, .slice none 0 0] 27 (0, 0))) (hlt : w.heap.size < B) :
  ((w5.setCell ⟨B, 0, none⟩ (.bool hh)).setCell ⟨B, 1, none⟩ (.slice ao n c)).cell? ⟨w.heap.size, 0, none⟩ = some s ∧ ((w5.setCell ⟨B, 0, none⟩ (.bool hh)).setCell ⟨B, 1, none⟩ (.slice ao n c)).cell? ⟨B, 0, none⟩ = some (.bool hh) ∧ ((w5.setCell ⟨B, 0, none⟩ (.bool hh)).setCell ⟨B, 1, none⟩ (.slice ao n c)).cell? ⟨B, 1, none⟩ = some (.slice ao n c) ∧ ((w5.setCell ⟨B, 0, none⟩ (.bool hh)).setCell ⟨B, 1, none⟩ (.slice ao n c)).ownsRow w.heap.size 51 3 (.slice ao n c) n xs ∧ Wp (fun _ => False) w ((w5.setCell ⟨B, 0, none⟩ (.bool hh)).setCell ⟨B, 1, none⟩ (.slice ao n c)) := by
 have ko : Wp (fun q => q = B) w5 ((w5.setCell ⟨B, 0, none⟩ (.bool hh)).setCell ⟨B, 1, none⟩ (.slice ao n c)) := Wp.setCell (F := fun q => q = B) (p := ⟨B, 1, none⟩) (Wp.setCell (F := fun q => q = B) (p := ⟨B, 0, none⟩) (Wp.refl (fun q => q = B) w5) (fun _ => rfl) _) (fun _ => rfl) _
 have hE := zH (o := 1) (zH (o := 0) hB (.bool hh)) (.slice ao n c)
 have hl := World.block_lt_of_cell? w5 ⟨w.heap.size, 0, none⟩ x1
 refine ⟨(ko.cell hl (by simp; omega)).trans x1, (zC hE _).trans rfl, (zC hE _).trans rfl, zI ho ko (fun q e hq => ownsRow_ne ho hB (by decide) (by rw [e, hq])), hk.then ko (fun i hi e => by omega)⟩
def OnlyN (R : Act → World → Prop) : Exit → Act → World → Prop
 | .normal, a, w => R a w
 | _, _, _ => False
theorem OnlyN.mk {R : Act → World → Prop} {a : Act} {w : World} (h : R a w) : OnlyN R .normal a w := h
def Begun (w : World) (sv : Value) (V R : Int) (m : MS) (e : Ending) (w' : World) : Prop :=
 (V ≠ 0 ∧ e = .returned (.tuple #[.pointer none, .int .i64 V]) ∧ Wp (fun _ => False) w w') ∨
 (V = 0 ∧ R ≠ 0 ∧ e = .returned (.tuple #[.pointer none, .int .i64 R]) ∧ Wp (fun _ => False) w w') ∨
 (V = 0 ∧ R = 0 ∧ ∃ b rv, e = .returned (.tuple #[.pointer (some ⟨b, 0, none⟩), .int .i64 0]) ∧ MR w w' b sv rv m)
theorem begin_v (S : List Wq) (sv u v : Value) (l : List ValA) (hh : Bool) (vals : List ValA) (w : World) (hE : Env w) (hS : Wt w sv S) (hl : Wr w v l) (hI : InR l) (hr : Wr w u vals) :
  Calls Tryz.prog 22 #[.agg #[sv], v, .agg #[.bool hh, u]] w fun e w' => Begun w sv (verifyA S l).2.2 (rowE S hh vals) ⟨[], hh, vals⟩ e w' := by
 obtain ⟨so, sc, rfl⟩ := Ws.form hS
 obtain ⟨uo, uc, rfl⟩ := Ws.form hr
 obtain ⟨vo, vc, rfl⟩ := Ws.form hl
 have HKA := zB ((kA w (.cells #[.slice so S.length sc] 24)).alloc (.cells #[.bool hh, .slice uo vals.length uc] 27))
 have hX1 := heap_alloc_new w (.cells #[.slice so S.length sc] 24)
 have hX2 := heap_alloc_new (w.alloc (.cells #[.slice so S.length sc] 24)) (.cells #[.bool hh, .slice uo vals.length uc] 27)
 rw [show (w.alloc (.cells #[.slice so S.length sc] 24)).heap.size = w.heap.size + 1 by simp] at hX2
 have hX3 := ((kA (w.alloc (.cells #[.slice so S.length sc] 24)) (.cells #[.bool hh, .slice uo vals.length uc] 27)).block w.heap.size (zE hX1) id).trans hX1
 have HQ := zB (verify_v S so sc l _ _ (hE.ops.keepF (zA HKA)) (hE.types.keepF (zA HKA)) (hS.keepF (zA HKA)) (hl.keepF (zA HKA)) hI)
 have HC := zB (fun (W : World) (hk : Wp (fun _ => False) w W) => checkRow_v S (.slice so S.length sc) (.slice uo vals.length uc) hh vals W (hE.types.keepF hk) (hS.keepF hk) (hr.keepF hk))
 have HRV := zB hr
 generalize verifyA S l = V at *
 obtain ⟨va, vb, ve⟩ := V
 simp only at *
 clear hX1 hE hS hl hI hr
 go_enter Tryz.func22, Tryz.ntmps22
 go_wp2_with fail
 refine (zA HQ).mono ?_
 rintro e w1 ⟨rfl, hk1⟩
 have p1 := zE hX3
 have p2 := zE hX2
 have y1 : w1.cell? ⟨w.heap.size, 0, none⟩ = some (.slice so S.length sc) := (hk1.cell p1 id).trans ((zC hX3 _).trans rfl)
 have y2 : w1.cell? ⟨w.heap.size + 1, 0, none⟩ = some (.bool hh) := (hk1.cell p2 id).trans ((zC hX2 _).trans rfl)
 have y3 : w1.cell? ⟨w.heap.size + 1, 1, none⟩ = some (.slice uo vals.length uc) := (hk1.cell p2 id).trans ((zC hX2 _).trans rfl)
 have HK1 := zB ((zA HKA).trans hk1)
 have q1 := Nat.lt_of_lt_of_le p1 hk1.size
 have q2 := Nat.lt_of_lt_of_le p2 hk1.size
 clear hk1 HQ HKA hX2 hX3
 by_cases h0 : ve = 0
 ·subst h0
  have HQ := zB ((zA HC) w1 (zA HK1))
  obtain ⟨R, HRE⟩ : ∃ R, Hid (rowE S hh vals = R) := ⟨_, rfl⟩
  rw [zA HRE] at HQ
  clear HC
  go_wp2_with fail
  refine (zA HQ).mono ?_
  rintro e w2 ⟨rfl, hk2⟩
  have z1 := (hk2.cell q1 id).trans y1
  have z2 := (hk2.cell q2 id).trans y2
  have z3 := (hk2.cell q2 id).trans y3
  have HK2 := zB ((zA HK1).trans hk2)
  have r1 := Nat.lt_of_lt_of_le q1 hk2.size
  have r2 := Nat.lt_of_lt_of_le q2 hk2.size
  clear hk2 HQ HK1 y1 y2 y3
  by_cases hR : R = 0
  ·have HR0 := zB hR
   subst hR
   have HL8 : vals.length ≤ 8 := by
    have := zA HRE
    cases hh with
    | true => exact rowE_len this
    | false => have := rowE_nil this; simp [this]
   have HV2 := zB ((zA HRV).keepF (zA HK2))
   have hbz : w.heap.size ≤ w2.heap.size := (zA HK2).size
   clear HRV
   go_wp2_with fail
   refine Code.wp_mono (Q := OnlyN fun a W6 => ∃ (ob q : Nat) (ao : Option Addr) (ac : Nat), a = ⟨#[.agg #[.slice so S.length sc], .slice vo l.length vc, .agg #[.bool hh, .slice uo vals.length uc], .pointer (some ⟨w.heap.size, 0, none⟩), undef, .pointer (some ⟨w.heap.size + 1, 0, none⟩), .pointer none, .int .i64 0, .int .i64 (va : Int), .int .i64 (vb : Int), .int .i64 0, .int .i64 0, .pointer (some ⟨ob, 0, none⟩), .tuple #[.int .i64 (va : Int), .int .i64 (vb : Int), .int .i64 0], .agg #[.slice so S.length sc], .slice vo l.length vc, .tuple #[.int .i64 (va : Int), .int .i64 (vb : Int), .int .i64 0], .int .i64 (va : Int), .int .i64 (vb : Int), .int .i64 0, .int .i64 0, .bool false, undef, .agg #[.slice so S.length sc], .agg #[.bool hh, .slice uo vals.length uc], .int .i64 0, .int .i64 0, .bool false, undef, .pointer (some ⟨w.heap.size + 1, 0, none⟩), .bool hh, .slice (some ⟨q, 0, none⟩) 0 0, .pointer (some ⟨w.heap.size + 1, 1, none⟩), .slice uo vals.length uc, .slice ao vals.length ac, .agg #[.bool hh, .slice ao vals.length ac], undef, undef, undef, undef], []⟩ ∧ W6.cell? ⟨w.heap.size, 0, none⟩ = some (.slice so S.length sc) ∧ W6.cell? ⟨ob, 0, none⟩ = some (.bool hh) ∧ W6.cell? ⟨ob, 1, none⟩ = some (.slice ao vals.length ac) ∧ W6.ownsRow w.heap.size 51 3 (.slice ao vals.length ac) vals.length (vcs vals) ∧ Wp (fun _ => False) w W6) ?imp ?reg
   case reg =>
    go_region_law (first
     | (refine step_appendV (by rfl) _ _ (by rfl) w.heap.size _ 0 [] (by rfl) ((own_none w2 w.heap.size hbz).drew) _ vals (by rfl) ((zA HV2).keepF ((kA w2 (.cells #[] 51)).drew)) (by unfold maxLen; omega) (by omega) (Nat.le_trans hbz ((kA w2 (.cells #[] 51)).drew).size) ?_; intro ao ac w5 hown5 hgrow5; simp only [Nat.zero_add, List.nil_append] at hown5; have x2 := grown_cell (o := 0) hgrow5 (Nat.lt_of_lt_of_le r2 ((kA w2 (.cells #[] 51)).drew).size) (by omega) ((((kA w2 (.cells #[] 51)).drew).cell r2 id).trans z2); have x3 := grown_cell (o := 1) hgrow5 (Nat.lt_of_lt_of_le r2 ((kA w2 (.cells #[] 51)).drew).size) (by omega) ((((kA w2 (.cells #[] 51)).drew).cell r2 id).trans z3); have x1 := grown_cell (o := 0) hgrow5 (Nat.lt_of_lt_of_le r1 ((kA w2 (.cells #[] 51)).drew).size) (by omega) ((((kA w2 (.cells #[] 51)).drew).cell r1 id).trans z1); have r5 : w.heap.size + 1 < w5.heap.size := World.block_lt_of_cell? w5 ⟨w.heap.size + 1, 0, none⟩ x2; have hk5 : Wp (fun _ => False) w w5 := ((zA HK2).trans ((kA w2 (.cells #[] 51)).drew)).grown hgrow5 (fun k e hk => by simp [Value.ownBlock] at e; omega))
     | (refine step_appendV (by rfl) _ _ (by rfl) w.heap.size _ 0 [] (by rfl) (((own_none w2 w.heap.size hbz).alloc _).drew) _ vals (by rfl) ((zA HV2).keepF (((kA w2 (.cells #[] 51)).alloc (.cells #[.bool false, .slice none 0 0] 27)).drew)) (by unfold maxLen; omega) (by omega) (Nat.le_trans hbz (((kA w2 (.cells #[] 51)).alloc (.cells #[.bool false, .slice none 0 0] 27)).drew).size) ?_; intro ao ac w5 hown5 hgrow5; simp only [Nat.zero_add, List.nil_append] at hown5; have x2 := grown_cell (o := 0) hgrow5 (Nat.lt_of_lt_of_le r2 (((kA w2 (.cells #[] 51)).alloc (.cells #[.bool false, .slice none 0 0] 27)).drew).size) (by omega) (((((kA w2 (.cells #[] 51)).alloc (.cells #[.bool false, .slice none 0 0] 27)).drew).cell r2 id).trans z2); have x3 := grown_cell (o := 1) hgrow5 (Nat.lt_of_lt_of_le r2 (((kA w2 (.cells #[] 51)).alloc (.cells #[.bool false, .slice none 0 0] 27)).drew).size) (by omega) (((((kA w2 (.cells #[] 51)).alloc (.cells #[.bool false, .slice none 0 0] 27)).drew).cell r2 id).trans z3); have x1 := grown_cell (o := 0) hgrow5 (Nat.lt_of_lt_of_le r1 (((kA w2 (.cells #[] 51)).alloc (.cells #[.bool false, .slice none 0 0] 27)).drew).size) (by omega) (((((kA w2 (.cells #[] 51)).alloc (.cells #[.bool false, .slice none 0 0] 27)).drew).cell r1 id).trans z1); have r5 : w.heap.size + 1 < w5.heap.size := World.block_lt_of_cell? w5 ⟨w.heap.size + 1, 0, none⟩ x2; have hk5 : Wp (fun _ => False) w w5 := ((zA HK2).trans (((kA w2 (.cells #[] 51)).alloc (.cells #[.bool false, .slice none 0 0] 27)).drew)).grown hgrow5 (fun k e hk => by simp [Value.ownBlock] at e; omega); have hB5 := blk28a hgrow5; have u0 := zF hB5 0; have u1 := zF hB5 1; have u2 := (zC hB5 0).trans rfl; have u3 := (zC hB5 1).trans rfl)
     | (refine step_appendV (by rfl) _ _ (by rfl) w.heap.size _ 0 [] (by rfl) ((own_noneb w2 w.heap.size hbz).drew) _ vals (by rfl) ((zA HV2).keepF (((kA w2 (.cells #[.bool false, .slice none 0 0] 27)).alloc (.cells #[] 51)).drew)) (by unfold maxLen; omega) (by omega) (Nat.le_trans hbz (((kA w2 (.cells #[.bool false, .slice none 0 0] 27)).alloc (.cells #[] 51)).drew).size) ?_; intro ao ac w5 hown5 hgrow5; simp only [Nat.zero_add, List.nil_append] at hown5; have x2 := grown_cell (o := 0) hgrow5 (Nat.lt_of_lt_of_le r2 (((kA w2 (.cells #[.bool false, .slice none 0 0] 27)).alloc (.cells #[] 51)).drew).size) (by omega) (((((kA w2 (.cells #[.bool false, .slice none 0 0] 27)).alloc (.cells #[] 51)).drew).cell r2 id).trans z2); have x3 := grown_cell (o := 1) hgrow5 (Nat.lt_of_lt_of_le r2 (((kA w2 (.cells #[.bool false, .slice none 0 0] 27)).alloc (.cells #[] 51)).drew).size) (by omega) (((((kA w2 (.cells #[.bool false, .slice none 0 0] 27)).alloc (.cells #[] 51)).drew).cell r2 id).trans z3); have x1 := grown_cell (o := 0) hgrow5 (Nat.lt_of_lt_of_le r1 (((kA w2 (.cells #[.bool false, .slice none 0 0] 27)).alloc (.cells #[] 51)).drew).size) (by omega) (((((kA w2 (.cells #[.bool false, .slice none 0 0] 27)).alloc (.cells #[] 51)).drew).cell r1 id).trans z1); have r5 : w.heap.size + 1 < w5.heap.size := World.block_lt_of_cell? w5 ⟨w.heap.size + 1, 0, none⟩ x2; have hk5 : Wp (fun _ => False) w w5 := ((zA HK2).trans (((kA w2 (.cells #[.bool false, .slice none 0 0] 27)).alloc (.cells #[] 51)).drew)).grown hgrow5 (fun k e hk => by simp [Value.ownBlock] at e; omega); have hB5 := blk28b hgrow5; have u0 := zF hB5 0; have u1 := zF hB5 1; have u2 := (zC hB5 0).trans rfl; have u3 := (zC hB5 1).trans rfl))
    all_goals
     refine OnlyN.mk ⟨_, _, ao, ac, rfl, ?_⟩
     first
      | with_reducible exact fin28 hk5 x1 hown5
      | with_reducible exact fin28s hk5 x1 hown5 hB5 (by omega)
   case imp =>
    intro ex a W6 hN
    cases ex with
    | normal => ?_
    | _ => exact hN.elim
    obtain ⟨ob, q, ao, ac, rfl, c1, c2, c3, hown6, hk6⟩ := (hN : ∃ _, _)
    have s1 := World.block_lt_of_cell? W6 ⟨w.heap.size, 0, none⟩ c1
    have s2 := World.block_lt_of_cell? W6 ⟨ob, 0, none⟩ c2
    have HO6 := zB hown6
    have HK6 := zB hk6
    clear hown6 hk6 z1 z2 z3 r1 r2 HK2 HV2
    go_wp2_with fail
    go_ret2
    have hb80 := heap_alloc_new W6 (.cells #[.slice so S.length sc, .bool hh, .slice ao vals.length ac, .int .i64 0, .int .i64 0, .string ⟨#[]⟩, .int .i64 0, .int .i64 0, .string ⟨#[]⟩, .int .i64 0, .int .i64 0, .string ⟨#[]⟩, .int .i64 0, .int .i64 0, .string ⟨#[]⟩, .int .i64 0, .int .i64 0, .string ⟨#[]⟩, .int .i64 0, .int .i64 0, .string ⟨#[]⟩, .int .i64 0, .int .i64 0, .string ⟨#[]⟩, .int .i64 0, .int .i64 0, .string ⟨#[]⟩, .int .i64 0, .int .i64 0, .string ⟨#[]⟩, .int .i64 0, .int .i64 0, .string ⟨#[]⟩, .int .i64 0, .int .i64 0, .string ⟨#[]⟩, .int .i64 0, .int .i64 0, .string ⟨#[]⟩, .int .i64 0, .int .i64 0, .string ⟨#[]⟩, .int .i64 0, .int .i64 0, .string ⟨#[]⟩, .int .i64 0, .int .i64 0, .string ⟨#[]⟩, .int .i64 0, .int .i64 0, .string ⟨#[]⟩, .int .i64 0] 72)
    refine Or.inr (Or.inr ⟨rfl, zA HRE, W6.heap.size, .slice ao vals.length ac, rfl, ?_⟩)
    have ho7 := (zA HO6).alloc (.cells #[.slice so S.length sc, .bool hh, .slice ao vals.length ac, .int .i64 0, .int .i64 0, .string ⟨#[]⟩, .int .i64 0, .int .i64 0, .string ⟨#[]⟩, .int .i64 0, .int .i64 0, .string ⟨#[]⟩, .int .i64 0, .int .i64 0, .string ⟨#[]⟩, .int .i64 0, .int .i64 0, .string ⟨#[]⟩, .int .i64 0, .int .i64 0, .string ⟨#[]⟩, .int .i64 0, .int .i64 0, .string ⟨#[]⟩, .int .i64 0, .int .i64 0, .string ⟨#[]⟩, .int .i64 0, .int .i64 0, .string ⟨#[]⟩, .int .i64 0, .int .i64 0, .string ⟨#[]⟩, .int .i64 0, .int .i64 0, .string ⟨#[]⟩, .int .i64 0, .int .i64 0, .string ⟨#[]⟩, .int .i64 0, .int .i64 0, .string ⟨#[]⟩, .int .i64 0, .int .i64 0, .string ⟨#[]⟩, .int .i64 0, .int .i64 0, .string ⟨#[]⟩, .int .i64 0, .int .i64 0, .string ⟨#[]⟩, .int .i64 0] 72)
    refine ⟨⟨⟨_, hb80, rfl⟩, (zC hb80 _).trans rfl, (zC hb80 _).trans rfl, (zC hb80 _).trans rfl, (zC hb80 _).trans rfl, fun i v hv => by simp at hv, Nat.zero_le _⟩, (zA HK6).alloc _, (zA HK6).size, fun _ => ho7, fun hf => ?_, ownsRow_lt ho7⟩
    have hv0 : vals = [] := by
     have hf' : hh = false := hf
     have := zA HRE
     rw [hf'] at this
     exact rowE_nil this
    subst hv0
    exact ⟨rfl, ho7⟩
  ·go_wp2_with fail
   go_ret2
   exact Or.inr (Or.inl ⟨rfl, by rw [zA HRE]; exact hR, by rw [zA HRE]; rfl, zA HK2⟩)
 ·go_wp2_with fail
  go_ret2
  exact Or.inl ⟨h0, rfl, zA HK1⟩
set_option maxHeartbeats 2000000
theorem told_v {w0 w : World} {b : Nat} {sv rv : Value} {m : MS} (S : List Wq) (h : MR w0 w b sv rv m) (hS : Wt w0 sv S) (x : ValA) (hx : x.kind ∈ ([1, 2, 3, 4, 5, 6, 7] : List Int)) (hn : x.kind = 5 ∨ x.kind = 6 → 0 ≤ x.n ∧ x.n.toNat < S.length ∧ (m.here = true → x.n.toNat < m.vals.length)) :
  Calls Tryz.prog 54 #[.pointer (some ⟨b, 0, none⟩), x.v] w fun e w' => e = .returned (toldV S x m).v ∧ Wp (fun _ => False) w w' := by
 obtain ⟨o, n, s⟩ := x
 simp only at hx hn
 have HKA := zB ((kA w (.cells #[.int .i64 o, .int .i64 n, str s] 60)).alloc (.cells #[.int .i64 0, .int .i64 0, .string ⟨#[]⟩] 51))
 have hX := heap_alloc_new (w.alloc (.cells #[.int .i64 o, .int .i64 n, str s] 60)) (.cells #[.int .i64 0, .int .i64 0, .string ⟨#[]⟩] 51)
 rw [show (w.alloc (.cells #[.int .i64 o, .int .i64 n, str s] 60)).heap.size = w.heap.size + 1 by simp] at hX
 have HX := zB hX
 have HM := zB (h.keepF (zA HKA))
 have hb := (zA HM).run.lt
 have c1 := (zA HM).run.c1
 have HB := zB h.run.lt
 clear hX h
 unfold ValA.v
 simp only [List.mem_cons, List.not_mem_nil, or_false] at hx
 rcases hx with rfl | rfl | rfl | rfl | rfl | rfl | rfl
 ·rw [show toldV S ⟨1, n, s⟩ m = numV n from rfl]
  go_enter Tryz.func54, Tryz.ntmps54
  go_wp2_with fail
  refine (number_v n _).mono ?_
  rintro e w1 ⟨rfl, hk1⟩
  generalize hx : numV n = x at *
  have HXE := zB hx
  clear hx
  obtain ⟨z0, z1, z2, y0, y1, y2, s0, s1, s2⟩ := rF (zA HX) hk1 x
  have HK := zB (((zA HKA).trans hk1).fresh (by omega) (zK w1 (w.heap.size + 1) (.int .i64 x.kind) (.int .i64 x.n) (str x.s)))
  unfold ValA.v
  clear hk1
  go_wp2_with fail
  refine bodyPost_ret (v := .agg #[.int .i64 x.kind, .int .i64 x.n, str x.s]) (by simp [results, go_sem, s0, s1, s2]) rfl ?_
  exact ⟨by rw [zA HXE], zA HK⟩
 ·rw [show toldV S ⟨2, n, s⟩ m = truV true from rfl]
  go_enter Tryz.func54, Tryz.ntmps54
  go_wp2_with fail
  refine (truth_v true _).mono ?_
  rintro e w1 ⟨rfl, hk1⟩
  generalize hx : truV true = x at *
  have HXE := zB hx
  clear hx
  obtain ⟨z0, z1, z2, y0, y1, y2, s0, s1, s2⟩ := rF (zA HX) hk1 x
  have HK := zB (((zA HKA).trans hk1).fresh (by omega) (zK w1 (w.heap.size + 1) (.int .i64 x.kind) (.int .i64 x.n) (str x.s)))
  unfold ValA.v
  clear hk1
  go_wp2_with fail
  refine bodyPost_ret (v := .agg #[.int .i64 x.kind, .int .i64 x.n, str x.s]) (by simp [results, go_sem, s0, s1, s2]) rfl ?_
  exact ⟨by rw [zA HXE], zA HK⟩
 ·rw [show toldV S ⟨3, n, s⟩ m = truV false from rfl]
  go_enter Tryz.func54, Tryz.ntmps54
  go_wp2_with fail
  refine (truth_v false _).mono ?_
  rintro e w1 ⟨rfl, hk1⟩
  generalize hx : truV false = x at *
  have HXE := zB hx
  clear hx
  obtain ⟨z0, z1, z2, y0, y1, y2, s0, s1, s2⟩ := rF (zA HX) hk1 x
  have HK := zB (((zA HKA).trans hk1).fresh (by omega) (zK w1 (w.heap.size + 1) (.int .i64 x.kind) (.int .i64 x.n) (str x.s)))
  unfold ValA.v
  clear hk1
  go_wp2_with fail
  refine bodyPost_ret (v := .agg #[.int .i64 x.kind, .int .i64 x.n, str x.s]) (by simp [results, go_sem, s0, s1, s2]) rfl ?_
  exact ⟨by rw [zA HXE], zA HK⟩
 ·rw [show toldV S ⟨4, n, s⟩ m = bytV s from rfl]
  go_enter Tryz.func54, Tryz.ntmps54
  go_wp2_with fail
  refine (text_v s _).mono ?_
  rintro e w1 ⟨rfl, hk1⟩
  generalize hx : bytV s = x at *
  have HXE := zB hx
  clear hx
  obtain ⟨z0, z1, z2, y0, y1, y2, s0, s1, s2⟩ := rF (zA HX) hk1 x
  have HK := zB (((zA HKA).trans hk1).fresh (by omega) (zK w1 (w.heap.size + 1) (.int .i64 x.kind) (.int .i64 x.n) (str x.s)))
  unfold ValA.v
  clear hk1
  go_wp2_with fail
  refine bodyPost_ret (v := .agg #[.int .i64 x.kind, .int .i64 x.n, str x.s]) (by simp [results, go_sem, s0, s1, s2]) rfl ?_
  exact ⟨by rw [zA HXE], zA HK⟩
 ·rw [show toldV S ⟨5, n, s⟩ m = loadV S m n.toNat from rfl]
  obtain ⟨n0, n1, n2⟩ := hn (Or.inl rfl)
  obtain ⟨k, rfl⟩ := Int.eq_ofNat_of_zero_le n0
  rw [Int.toNat_natCast] at n1 n2 ⊢
  have HQ := zB (load_v S (zA HM) hS k n2 n1)
  go_enter Tryz.func54, Tryz.ntmps54
  go_wp2_with fail
  refine (zA HQ).mono ?_
  rintro e w1 ⟨rfl, hk1⟩
  clear HQ
  generalize hx : loadV S m k = x at *
  have HXE := zB hx
  clear hx
  obtain ⟨z0, z1, z2, y0, y1, y2, s0, s1, s2⟩ := rF (zA HX) hk1 x
  have HK := zB (((zA HKA).trans hk1).fresh (by omega) (zK w1 (w.heap.size + 1) (.int .i64 x.kind) (.int .i64 x.n) (str x.s)))
  unfold ValA.v
  clear hk1
  go_wp2_with fail
  refine bodyPost_ret (v := .agg #[.int .i64 x.kind, .int .i64 x.n, str x.s]) (by simp [results, go_sem, s0, s1, s2]) rfl ?_
  exact ⟨by rw [zA HXE], zA HK⟩
 ·rw [show toldV S ⟨6, n, s⟩ m = truV (hasB m n.toNat) from rfl]
  obtain ⟨n0, n1, n2⟩ := hn (Or.inr rfl)
  obtain ⟨k, rfl⟩ := Int.eq_ofNat_of_zero_le n0
  rw [Int.toNat_natCast] at n1 n2 ⊢
  have HQ := zB (has_v (zA HM) k n2)
  go_enter Tryz.func54, Tryz.ntmps54
  go_wp2_with fail
  refine (zA HQ).mono ?_
  rintro e w0' ⟨rfl, hk0⟩
  replace HX := zB ((hk0.block _ (zE (zA HX)) id).trans (zA HX))
  replace HKA := zB ((zA HKA).trans hk0)
  clear HQ hk0
  go_wp2_with fail
  refine (truth_v (hasB m k) _).mono ?_
  rintro e w1 ⟨rfl, hk1⟩
  generalize hx : truV (hasB m k) = x at *
  have HXE := zB hx
  clear hx
  obtain ⟨z0, z1, z2, y0, y1, y2, s0, s1, s2⟩ := rF (zA HX) hk1 x
  have HK := zB (((zA HKA).trans hk1).fresh (by omega) (zK w1 (w.heap.size + 1) (.int .i64 x.kind) (.int .i64 x.n) (str x.s)))
  unfold ValA.v
  clear hk1
  go_wp2_with fail
  refine bodyPost_ret (v := .agg #[.int .i64 x.kind, .int .i64 x.n, str x.s]) (by simp [results, go_sem, s0, s1, s2]) rfl ?_
  exact ⟨by rw [zA HXE], zA HK⟩
 ·rw [show toldV S ⟨7, n, s⟩ m = truV m.here from rfl]
  go_enter Tryz.func54, Tryz.ntmps54
  go_wp2_with fail
  refine (truth_v m.here _).mono ?_
  rintro e w1 ⟨rfl, hk1⟩
  generalize hx : truV m.here = x at *
  have HXE := zB hx
  clear hx
  obtain ⟨z0, z1, z2, y0, y1, y2, s0, s1, s2⟩ := rF (zA HX) hk1 x
  have HK := zB (((zA HKA).trans hk1).fresh (by omega) (zK w1 (w.heap.size + 1) (.int .i64 x.kind) (.int .i64 x.n) (str x.s)))
  unfold ValA.v
  clear hk1
  go_wp2_with fail
  refine bodyPost_ret (v := .agg #[.int .i64 x.kind, .int .i64 x.n, str x.s]) (by simp [results, go_sem, s0, s1, s2]) rfl ?_
  exact ⟨by rw [zA HXE], zA HK⟩
set_option maxHeartbeats 4000000
theorem take_all (l : List ValA) : l.take (l.length - 0) = l := by simp
theorem top_get {l : List ValA} {n : Nat} (h : l.length = n + 1) : l[n]? = some (topV l) := by
 unfold topV
 rw [h, Nat.add_sub_cancel, List.getElem?_eq_getElem (by omega)]
 rfl
theorem stepA_v {w0 w : World} {b : Nat} {sv rv : Value} {m : MS} (S : List Wq) (h : MR w0 w b sv rv m) (hS : Wt w0 sv S) (x : ValA) (hx : x.kind ∈ ([1, 2, 3, 4, 5, 6, 7] : List Int)) (hn : x.kind = 5 ∨ x.kind = 6 → 0 ≤ x.n ∧ x.n.toNat < S.length ∧ (m.here = true → x.n.toNat < m.vals.length)) (hl : m.st.length < 16) :
  Calls Tryz.prog 39 #[.pointer (some ⟨b, 0, none⟩), x.v] w fun e w' => e = .returned (.tuple #[]) ∧ MR w0 w' b sv rv ⟨m.st ++ [toldV S x m], m.here, m.vals⟩ ∧ Wp (fun q => q = b) w w' := by
 have HKA := zB (kA w (.cells #[.int .i64 x.kind, .int .i64 x.n, str x.s] 60))
 have HM := zB (h.keepF (zA HKA))
 have HQ := zB (told_v S (zA HM) hS x hx hn)
 have HP := zB (fun (W : World) (q : MR w0 W b sv rv m) => push_v q.run (toldV S x m) hl)
 generalize toldV S x m = T at *
 obtain ⟨o, n, s⟩ := x
 simp only at *
 unfold ValA.v at *
 clear h hn
 simp only [List.mem_cons, List.not_mem_nil, or_false] at hx
 rcases hx with rfl | rfl | rfl | rfl | rfl | rfl | rfl
 all_goals
  go_enter Tryz.func39, Tryz.ntmps39
  go_wp2_with fail
  refine (zA HQ).mono ?_
  rintro e w1 ⟨rfl, hk1⟩
  have m1 := (zA HM).keepF hk1
  have HQ2 := zB ((zA HP) w1 m1)
  have HM1 := zB m1
  have HK1 := zB ((zA HKA).trans hk1)
  clear HQ HP m1 hk1 HM HKA
  go_wp2_with fail
  refine (zA HQ2).mono ?_
  rintro e w2 ⟨rfl, hr2, hk2⟩
  have HR2 := zB hr2
  have HK2 := zB hk2
  clear hr2 hk2 HQ2
  go_wp2_with fail
  go_end0
  exact ⟨rfl, (zA HM1).stack (zA HR2) (zA HK2), (zA HK1).any.trans (zA HK2)⟩
end Go.Proofs.YtbdlcaamanhapaaGreatDoor
