import Derived.Test.YtbdlcaamanhapaaGreatDoorJzas
import Derived.Test.YtbdlcaamanhapaaGreatDoorJzab
import Derived.Test.YtbdlcaamanhapaaGreatDoorJzaf
import Derived.Test.YtbdlcaamanhapaaGreatDoorJzam
import Derived.ArgAppend
import Derived.Deep.DeepAppendRoom
import Derived.Deep.DeepCutAuto
import Derived.BigRegion
import Derived.Test.YtbdlcaamanhapaaGreatDoorJzai
import Derived.Test.YtbdlcaamanhapaaGreatDoorJzak
namespace Go.Proofs.YtbdlcaamanhapaaGreatDoor
open Go.RowKit Go.Maps
set_option maxRecDepth 100000
set_option maxHeartbeats 1000000
theorem eqRow_v (w : World) (ha hb : Bool) (va vb : Value) (la lb : List ValA) (h1 : Wr w va la) (h2 : Wr w vb lb) (hla : la.length ≤ maxLen) :
  Calls Tryz.prog 12 #[.agg #[.bool ha, va], .agg #[.bool hb, vb]] w fun e w' => e = .returned (.bool (decide (ha = hb) && decide (la = lb))) ∧ Wp (fun _ => False) w w' := by
 obtain ⟨ao, ac, rfl⟩ := Ws.form h1
 obtain ⟨bo, bc, rfl⟩ := Ws.form h2
 have HK := zB ((kA w (.cells #[.bool ha, .slice ao la.length ac] 27)).alloc (.cells #[.bool hb, .slice bo lb.length bc] 27))
 have HQ := zB (eqVals_any _ _ _ la lb (h1.keepF (zA HK)) (h2.keepF (zA HK)) hla)
 generalize decide (la = lb) = R at *
 clear h1 h2
 cases ha <;> cases hb
 all_goals
  go_enter Tryz.func12, Tryz.ntmps12
  go_wp2_with (go_at_call 15; refine (zA HQ).mono ?_; rintro e w1 ⟨rfl, hk1⟩)
  go_ret
  first | exact ⟨rfl, (zA HK).trans hk1⟩ | exact ⟨rfl, zA HK⟩
theorem copyCode_v (w : World) (v : Value) (l : List ValA) (hR : Wr w v l) (hl : l.length ≤ 4398046511104) :
  Calls Tryz.prog 21 #[v] w fun e w' => ∃ v', e = .returned v' ∧ w'.ownsRow w.heap.size 60 3 v' l.length (vcs l) ∧ Wp (fun _ => False) w w' := by
 obtain ⟨i0, hi, hz0, hz1, hz2⟩ := info_parts Tryz.info60
 obtain ⟨ao, cap, rfl⟩ := Ws.form hR
 have HR := zB hR
 have HL := zB hl
 have hl' : l.length ≤ 9223372036854775807 := by omega
 clear hR hl
 go_enter Tryz.func21, Tryz.ntmps21
 go_wp2
 go_loopw [3, 4] (fun o i wr => ∃ k : Nat, k ≤ l.length ∧ i = .int .i64 k ∧ wr.ownsRow w.heap.size 60 3 o k (vcs (l.take k)) ∧ Wp (fun _ => False) w wr) (fun _ i _ => l.length - (intOf i).toNat)
 case atStart => exact ⟨0, Nat.zero_le _, rfl, by simpa [vcs] using World.ownsRow_nil w w.heap.size 60 3, Wp.refl _ _⟩
 case round =>
  obtain ⟨k, hk, rfl, hown, hkeep⟩ := hrel
  have HO := zB hown
  have HK := zB hkeep
  clear hown hkeep
  by_cases hlt : k < l.length
  ·obtain ⟨b, off, c, e1, hblt, hc⟩ := (zA HR).cells (by omega)
   simp at e1
   obtain ⟨rfl, rfl⟩ := e1
   obtain ⟨x, hx⟩ : ∃ x, l[k]? = some x := ⟨_, List.getElem?_eq_getElem hlt⟩
   have p0 := ((zA HK).cell hblt id).trans (hc k x hx).1
   have p1 := ((zA HK).cell hblt id).trans (hc k x hx).2.1
   have p2 := ((zA HK).cell hblt id).trans (hc k x hx).2.2
   have HX := zB hx
   have i1 : (k : Int) < (l.length : Int) := by omega
   have i0' : (0 : Int) ≤ (k : Int) := by omega
   clear hc hx
   go_wp2_with (at_builtin; refine wpList_append_lies _ rfl _ _ _ rfl w.heap.size 60 i0 _ 3 32 Tryz.underlying35 hi hz0 hz1 hz2 rfl (by omega) u3 k (vcs (l.take k)) rfl ((zA HO).alloc _) ⟨wr.heap.size, 0, none⟩ 1 1 x.cs rfl rfl (World.news_of_block (cs := #[.int .i64 x.kind, .int .i64 x.n, str x.s]) (t := 60) (fr := (0, 0)) (heap_alloc_new wr _)) (by simp [Value.oneCell', ValA.cs]) (by omega) (by unfold maxLen; omega) (by have := zA HL; omega) (by have := (zA HK).size; simp; omega) (wr.heap.size + 1) (by simp) ?_; intro g cap w1 hown1 hgrow hat hlt1)
   go_roundw
   case rel =>
    refine ⟨k + 1, by omega, by go_num, ?_, ((zA HK).alloc _).grown hgrow (fun q e hq => by have := ((zA HO).lt q e).1; omega)⟩
    rw [take_snoc _ _ _ (zA HX)]
    simpa [vcs] using hown1
   case measure => simp [intOf]; omega
  ·go_wp2
   go_ret
   obtain rfl : k = l.length := by omega
   refine ⟨_, rfl, ?_, zA HK⟩
   have := zA HO
   rwa [List.take_length] at this
end Go.Proofs.YtbdlcaamanhapaaGreatDoor
namespace Go.Proofs.YtbdlcaamanhapaaGreatDoor
open Go.RowKit Go.Maps
structure OutA where
 e : Int
 here : Bool
 vals : List ValA
 steps : Nat
 deep : Nat
def outO (V R : Int) (T : List (Nat × List ValA) × MS) : OutA := if V ≠ 0 then ⟨V, false, [], 0, 0⟩ else if R ≠ 0 then ⟨R, false, [], 0, 0⟩ else ⟨0, T.2.here, T.2.vals, T.1.length, deepD T.1⟩
def outD (V R : Int) (T : List (Nat × List ValA) × MS) : List (Nat × List ValA) := if V ≠ 0 ∨ R ≠ 0 then [] else T.1
def runO (S : List Wq) (l : List ValA) (hh : Bool) (vals : List ValA) : OutA := outO (verifyA S l).2.2 (rowE S hh vals) (playM S l l.length 0 ⟨[], hh, vals⟩)
def traceO (S : List Wq) (l : List ValA) (hh : Bool) (vals : List ValA) : List (Nat × List ValA) := outD (verifyA S l).2.2 (rowE S hh vals) (playM S l l.length 0 ⟨[], hh, vals⟩)
theorem run_o (S : List Wq) (sv u v : Value) (l : List ValA) (hh : Bool) (vals : List ValA) (w : World) (hE : Env w) (hS : Wt w sv S) (hl : Wr w v l) (hI : InR l) (hr : Wr w u vals) :
  Calls Tryz.prog 8 #[.agg #[sv], v, .agg #[.bool hh, u]] w fun e w' => ∃ ro rc, e = .returned (.tuple #[.agg #[.bool (runO S l hh vals).here, .slice ro (runO S l hh vals).vals.length rc, .int .i64 ((runO S l hh vals).steps : Int), .int .i64 ((runO S l hh vals).deep : Int)], .int .i64 (runO S l hh vals).e]) ∧ w'.ownsRow w.heap.size 51 3 (.slice ro (runO S l hh vals).vals.length rc) (runO S l hh vals).vals.length (vcs (runO S l hh vals).vals) ∧ Wp (fun _ => False) w w' := by
 refine (machRun_v S sv u v l hh vals w hE hS hl hI hr).mono ?_
 intro e w' h
 unfold runO
 generalize (verifyA S l).2.2 = V at *
 generalize rowE S hh vals = R at *
 generalize playM S l l.length 0 ⟨[], hh, vals⟩ = T at *
 unfold outO
 rcases h with ⟨h1, rfl, hk⟩ | ⟨rfl, rfl, rv, rfl, hv, _, hk⟩
 ·by_cases hV : V = 0
  ·subst hV
   have hR : R ≠ 0 := h1.resolve_left (fun q => q rfl)
   rw [if_neg (by simp), if_neg (by simp), if_pos hR]
   exact ⟨none, 0, rfl, World.ownsRow_nil _ _ 51 3, hk⟩
  ·rw [if_pos hV, if_pos hV]
   exact ⟨none, 0, rfl, World.ownsRow_nil _ _ 51 3, hk⟩
 ·obtain ⟨ro, rc, rfl⟩ := (zG hv).form
  rw [if_neg (by simp), if_neg (by simp)]
  exact ⟨ro, rc, rfl, hv, hk⟩
theorem trace_o (S : List Wq) (sv u v : Value) (l : List ValA) (hh : Bool) (vals : List ValA) (w : World) (hE : Env w) (hS : Wt w sv S) (hl : Wr w v l) (hI : InR l) (hr : Wr w u vals) :
  Calls Tryz.prog 10 #[.agg #[sv], v, .agg #[.bool hh, u]] w fun e w' => ∃ ro rc, e = .returned (.tuple #[.slice ro (traceO S l hh vals).length rc, .int .i64 (runO S l hh vals).e]) ∧ w'.ownsRow w.heap.size 53 2 (.slice ro (traceO S l hh vals).length rc) (traceO S l hh vals).length (stepCs (traceO S l hh vals)) ∧ Wp (fun _ => False) w w' := by
 refine (machTrace_v S sv u v l hh vals w hE hS hl hI hr).mono ?_
 intro e w' h
 unfold runO traceO
 generalize (verifyA S l).2.2 = V at *
 generalize rowE S hh vals = R at *
 generalize playM S l l.length 0 ⟨[], hh, vals⟩ = T at *
 unfold outO outD
 rcases h with ⟨h1, rfl, hk⟩ | ⟨rfl, rfl, sl, rfl, hv, hk⟩
 ·rw [if_pos h1]
  by_cases hV : V = 0
  ·subst hV
   have hR : R ≠ 0 := h1.resolve_left (fun q => q rfl)
   rw [if_neg (by simp), if_neg (by simp), if_pos hR]
   exact ⟨none, 0, rfl, World.ownsRow_nil _ _ 53 2, hk⟩
  ·rw [if_pos hV, if_pos hV]
   exact ⟨none, 0, rfl, World.ownsRow_nil _ _ 53 2, hk⟩
 ·have hv' := zG hv
  obtain ⟨ro, rc, rfl⟩ := Ws.form hv'
  rw [if_neg (by simp), if_neg (by simp), if_neg (by simp)]
  exact ⟨ro, rc, rfl, hv, hk⟩
theorem own_geO {w : World} {B e size n : Nat} {v : Value} {xs : List Value} (h : w.ownsRow B e size v n xs) {k : Nat} (hk : v.ownBlock = some k) : B ≤ k := by
 rcases h.2 with ⟨hv, _⟩ | ⟨g, cap, cur, hv, hb, hg, rest⟩
 ·rw [hv] at hk; cases hk
 ·rw [hv] at hk
  simp [Value.ownBlock] at hk
  subst hk
  exact hb
theorem ownsRow_low {w : World} {B C e size n : Nat} {v : Value} {xs : List Value} (h : w.ownsRow B e size v n xs) (hC : C ≤ B) : w.ownsRow C e size v n xs :=
 ⟨h.1, h.2.imp id fun ⟨g, cap, cur, a1, a2, a3⟩ => ⟨g, cap, cur, a1, Nat.le_trans hC a2, a3⟩⟩
theorem own_lt {w : World} {B e z n : Nat} {v : Value} {xs : List Value} (h : w.ownsRow B e z v n xs) {k : Nat} (hk : v.ownBlock = some k) : k < w.heap.size := by
 rcases h.2 with ⟨rfl, _⟩ | ⟨g, cap, cur, rfl, _, hg, _⟩
 ·cases hk
 ·simp [Value.ownBlock] at hk
  subst hk
  exact zE hg
theorem own_typed {w : World} {B e z n : Nat} {v : Value} {xs : List Value} (h : w.ownsRow B e z v n xs) {k : Nat} (hk : v.ownBlock = some k) : B ≤ k ∧ ∃ c, w.heap[k]? = some (.cells c e (0, 0)) := by
 rcases h.2 with ⟨rfl, _⟩ | ⟨g, cap, cur, rfl, hb, hg, _⟩
 ·cases hk
 ·simp [Value.ownBlock] at hk
  subst hk
  exact ⟨hb, cur, hg⟩
theorem own_apart {w : World} {B e size n : Nat} {v : Value} {xs : List Value} {B' e' size' n' : Nat} {v' : Value} {xs' : List Value} (h : w.ownsRow B e size v n xs) (h' : w.ownsRow B' e' size' v' n' xs') (he : e ≠ e') (k : Nat) (hk : v.ownBlock = some k) (hk' : v'.ownBlock = some k) : False := by
 rcases h.2 with ⟨rfl, _⟩ | ⟨g, cap, cur, rfl, _, hg, _⟩
 ·cases hk
 ·rcases h'.2 with ⟨rfl, _⟩ | ⟨g', cap', cur', rfl, _, hg', _⟩
  ·cases hk'
  ·simp [Value.ownBlock] at hk hk'
   subst hk
   subst hk'
   rw [hg] at hg'
   simp only [Option.some.injEq, Obj.cells.injEq] at hg'
   exact he hg'.2.1
theorem append_two {P : Program} (w : World) {ops : Array Oper} {rest : List Oper} {o : Oper} {a : Act} {Q : Exit → Act → World → Prop} (hgd : o.guard = none) (s x : Operand) (t : TypeId)
  (ho : o.op = .call { callee := .builtin .append, args := #[s, x], argTypes := #[t, t] })
  (base : Nat) (e : TypeId) (i : TypeInfo) (z : Value) (size bytes : Nat) (ht : P.underlying t = some (.slice e)) (hi : P.info? e = some i) (hz : i.zero = some z)
  (hsize : i.size = size) (hby : i.bytes = bytes) (hzs : z.cells.size = size) (hsz : 0 < size)
  (v : Value) (n : Nat) (xs : List Value) (hs : a.eval s = v) (hown : w.ownsRow base e size v n xs)
  (ad : Addr) (m c : Nat) (news : List Value) (hx : a.eval x = .slice (some ad) m c) (hl : news.length = m * size) (hnews : ∀ j u, news[j]? = some u → w.cell? (ad.add j) = some u) (h1 : ∀ u ∈ news, u.oneCell' = true)
  (hm : 0 < m) (h63 : n + m ≤ maxLen) (hbytes : (n + m) * bytes ≤ 140737488355328) (hbase : base ≤ w.heap.size)
  (h : ∀ g cap w', w'.ownsRow base e size (.slice (some ⟨g, 0, none⟩) (n + m) cap) (n + m) (xs ++ news) → ((v = .slice (some ⟨g, 0, none⟩) n cap ∧ w.grownBy w' (some g)) ∨ (w.heap.size ≤ g ∧ w.grownBy w' none)) → wpList P ops Q rest (a.put o.dst (.slice (some ⟨g, 0, none⟩) (n + m) cap)) w') : wpList P ops Q (o :: rest) a w := by
 have grows : ∀ v' w', w'.ownsRow w.heap.size e size v' (n + m) (xs ++ news) → w.grownBy w' none → wpList P ops Q rest (a.put o.dst v') w' := by
  intro v' w' h2 h3
  obtain ⟨g, cap, rfl, hg, hlt⟩ := h2.form (by omega)
  exact h g cap w' (ownsRow_low h2 hbase) (Or.inr ⟨hg, h3⟩)
 rcases hown.2 with ⟨rfl, rfl⟩ | ⟨g, cap, cur, rfl, hbg, hg, hnc, hcm, hcs, htake⟩
 ·have hx0 : xs = [] := List.eq_nil_of_length_eq_zero (by simpa using hown.1)
  subst hx0
  exact wpList_append_grows w hgd s x t ho e i z size bytes ht hi hz hsize hby hzs hsz none 0 0 [] hs (fun _ => ⟨rfl, rfl⟩) (by simp) (fun _ h => by cases h) ad m c news hx hl hnews h1 (by omega) h63 hbytes grows
 ·by_cases hroom : n + m ≤ cap
  ·refine wpList_append_own_spare w hgd s x t ho base e i size ht hi hsize g n cap xs hs hown ad m c news hx hl hnews h1 hroom (fun w' h2 h3 => ?_)
   exact h g cap w' h2 (Or.inl ⟨rfl, h3⟩)
  ·refine wpList_append_grows w hgd s x t ho e i z size bytes ht hi hz hsize hby hzs hsz (some ⟨g, 0, none⟩) n cap xs hs (fun h => by cases h) hown.1 (fun b hb j u hu => ?_) ad m c news hx hl hnews h1 (by omega) h63 hbytes grows
   cases hb
   have hadd : (⟨g, 0, none⟩ : Addr).add j = ⟨g, j, none⟩ := by unfold Addr.add; split <;> simp_all
   rw [hadd, cell_of_row w g j cur e (0, 0) hg]
   rw [← htake] at hu
   rw [List.getElem?_take] at hu
   split at hu
   ·simpa using hu
   ·cases hu
theorem own_head {w : World} {B e z n m g cap : Nat} {xs ys : List Value} (h : w.ownsRow B e z (.slice (some ⟨g, 0, none⟩) m cap) m (xs ++ ys)) (hn : xs.length = n * z) (hz : 0 < z) : w.ownsRow B e z (.slice (some ⟨g, 0, none⟩) n cap) n xs := by
 refine ⟨hn, Or.inr ?_⟩
 rcases h.2 with ⟨h0, _⟩ | ⟨g', cap', cur, hv, hbg, hg, hnc, hcm, hcs, htake⟩
 ·cases h0
 ·cases hv
  have hl := h.1
  rw [List.length_append, hn] at hl
  have hnm : n ≤ m := Nat.le_of_mul_le_mul_right (by omega : n * z ≤ m * z) hz
  refine ⟨g, cap, cur, rfl, hbg, hg, by omega, hcm, hcs, ?_⟩
  have : (cur.toList.take (m * z)).take (n * z) = xs := by rw [htake, ← hn]; exact List.take_left
  rwa [List.take_take, Nat.min_eq_left (by omega)] at this
theorem same_cap {w : World} {B C e z n m g c d : Nat} {xs ys : List Value} (h : w.ownsRow B e z (.slice (some ⟨g, 0, none⟩) n c) n xs) (h' : w.ownsRow C e z (.slice (some ⟨g, 0, none⟩) m d) m ys) (hz : 0 < z) : c = d := by
 rcases h.2 with ⟨h0, _⟩ | ⟨g', cap', cur, hv, _, hg, _, _, hcs, _⟩
 ·cases h0
 ·rcases h'.2 with ⟨h0, _⟩ | ⟨g2, cap2, cur2, hv2, _, hg2, _, _, hcs2, _⟩
  ·cases h0
  ·cases hv
   cases hv2
   rw [hg] at hg2
   simp only [Option.some.injEq, Obj.cells.injEq] at hg2
   obtain ⟨rfl, _⟩ := hg2
   exact Nat.eq_of_mul_eq_mul_right hz (hcs.symm.trans hcs2)
theorem both_grow {w w' : World} {B C e z n m k g cap : Nat} {vx vm : Value} {xs ys zs : List Value} (hx : w.ownsRow B e z vx n xs) (hm : w.ownsRow C e z vm m (xs ++ ys)) (hz : 0 < z)
  (h' : w'.ownsRow C e z (.slice (some ⟨g, 0, none⟩) k cap) k (xs ++ ys ++ zs)) (hc : (vm = .slice (some ⟨g, 0, none⟩) m cap ∧ w.grownBy w' (some g)) ∨ (w.heap.size ≤ g ∧ w.grownBy w' none)) : w'.ownsRow B e z vx n xs := by
 rcases hc with ⟨rfl, hg⟩ | ⟨_, hg⟩
 ·by_cases hb : vx.ownBlock = some g
  ·have hb2 := own_geO hx hb
   rcases hx.2 with ⟨rfl, _⟩ | ⟨g1, c1, cur1, rfl, h1, h2, _⟩
   ·cases hb
   ·simp [Value.ownBlock] at hb
    subst hb
    obtain rfl := same_cap hx hm hz
    have hx1 := hx.1
    rw [List.append_assoc] at h'
    have := own_head h' hx1 hz
    exact ⟨this.1, this.2.imp id fun ⟨g, cap, cur, a1, a2, a3⟩ => ⟨g, cap, cur, a1, by simp only [Value.slice.injEq, Option.some.injEq, Addr.mk.injEq] at a1; omega, a3⟩⟩
  ·exact zI hx ((Wp.refl (fun q => q = g) w).grown hg (fun q e _ => by simpa using e.symm)) (fun q e e2 => hb (by rw [e, e2]))
 ·exact zI hx ((Wp.refl (fun _ => False) w).grown hg (fun q e _ => by cases e)) (fun _ _ => id)
theorem own_some {w : World} {B e z n m c : Nat} {o : Option Addr} {xs : List Value} (h : w.ownsRow B e z (.slice o n c) m xs) (hn : 0 < n) : ∃ g, o = some ⟨g, 0, none⟩ ∧ n ≤ c := by
 rcases h.2 with ⟨h0, _⟩ | ⟨g, cap, cur, hv, _, _, hnc, _⟩
 ·simp only [Value.slice.injEq] at h0; omega
 ·simp only [Value.slice.injEq] at hv
  obtain ⟨rfl, rfl, rfl⟩ := hv
  exact ⟨g, rfl, hnc⟩
theorem grow_keeps {w w' : World} {v : Value} {g n cap H : Nat} (hc : (v = .slice (some ⟨g, 0, none⟩) n cap ∧ w.grownBy w' (some g)) ∨ (H ≤ g ∧ w.grownBy w' none)) : Wp (fun q => v.ownBlock = some q) w w' := by
 rcases hc with ⟨rfl, h⟩ | ⟨_, h⟩
 ·exact (Wp.refl _ _).grown h (fun q e _ => by simpa [Value.ownBlock] using e)
 ·exact (Wp.refl _ _).grown h (fun q e _ => by cases e)
theorem narrowO {F : Nat → Prop} {a b c : World} (h : Wp (fun _ => False) a b) (k : Wp F b c) (hF : ∀ i, F i → a.heap.size ≤ i) : Wp (fun _ => False) a c :=
 ⟨k.os.trans h.os, k.tape.trans h.tape, k.output.trans h.output, Nat.le_trans h.size k.size, fun i hi _ => (k.block i (Nat.lt_of_lt_of_le hi h.size) (fun e => by have := hF i e; omega)).trans (h.block i hi id)⟩
def overL {α : Type} (l : List α) (c : α) (k : Nat) : List α := List.replicate k c ++ l.drop k
theorem overL_zero {α : Type} (l : List α) (c : α) : overL l c 0 = l := by simp [overL]
theorem overL_end {α : Type} (l : List α) (c : α) : overL l c l.length = List.replicate l.length c := by simp [overL]
theorem overL_set {α : Type} {l : List α} {c : α} {k : Nat} (h : k < l.length) : (overL l c k).set k c = overL l c (k + 1) := by
 unfold overL
 rw [List.set_append_right _ _ (by simp), List.replicate_succ', List.append_assoc]
 congr 1
 rw [List.length_replicate, Nat.sub_self, List.drop_eq_getElem_cons h]
 rfl
structure Rowp where
 e : TypeId
 z : Nat
 n : Nat
 vx : Value
 X : List Value
 k : Nat
 vm : Value
 Y : List Value
def solo (e : TypeId) (z n : Nat) (v : Value) (X : List Value) : Rowp := ⟨e, z, n, v, X, 0, v, []⟩
def Rowp.has (p : Rowp) (b : Nat) : Prop := p.vx.ownBlock = some b ∨ p.vm.ownBlock = some b
structure Rowp.at_ (p : Rowp) (w : World) (B : Nat) : Prop where
 pos : 0 < p.z
 x : w.ownsRow B p.e p.z p.vx p.n p.X
 m : w.ownsRow B p.e p.z p.vm (p.n + p.k) (p.X ++ p.Y)
def Rowp.off (p q : Rowp) : Prop := ∀ b, p.has b → ¬ q.has b
theorem Rowp.off_symm {p q : Rowp} (h : p.off q) : q.off p := fun b hq hp => h b hp hq
theorem Rowp.at_.lt {p : Rowp} {w : World} {B : Nat} (h : p.at_ w B) {b : Nat} (hb : p.has b) : B ≤ b ∧ b < w.heap.size := by
 rcases hb with e | e
 ·exact ⟨own_geO h.x e, own_lt h.x e⟩
 ·exact ⟨own_geO h.m e, own_lt h.m e⟩
theorem Rowp.at_.typed {p : Rowp} {w : World} {B : Nat} (h : p.at_ w B) {b : Nat} (hb : p.has b) : ∃ c, w.heap[b]? = some (.cells c p.e (0, 0)) := by
 rcases hb with e | e
 ·exact (own_typed h.x e).2
 ·exact (own_typed h.m e).2
theorem Rowp.at_.keep {p : Rowp} {w w' : World} {B : Nat} {F : Nat → Prop} (h : p.at_ w B) (hk : Wp F w w') (hF : ∀ b, p.has b → ¬ F b) : p.at_ w' B :=
 ⟨h.pos, zI h.x hk (fun q e => hF q (Or.inl e)), zI h.m hk (fun q e => hF q (Or.inr e))⟩
theorem Rowp.at_.low {p : Rowp} {w : World} {B C : Nat} (h : p.at_ w B) (hC : C ≤ B) : p.at_ w C := ⟨h.pos, ownsRow_low h.x hC, ownsRow_low h.m hC⟩
theorem solo_at {w : World} {B : Nat} {e : TypeId} {z n : Nat} {v : Value} {X : List Value} (h : w.ownsRow B e z v n X) (hz : 0 < z) : (solo e z n v X).at_ w B :=
 ⟨hz, h, by show w.ownsRow B e z v n (X ++ []); rwa [List.append_nil]⟩
theorem solo_has {e : TypeId} {z n : Nat} {v : Value} {X : List Value} {b : Nat} (h : (solo e z n v X).has b) : v.ownBlock = some b := h.elim id id
structure Sack (w : World) (B : Nat) (L : List Rowp) : Prop where
 all : ∀ p ∈ L, p.at_ w B
 apart : L.Pairwise Rowp.off
structure GrewZ (w w' : World) (B : Nat) (e : TypeId) (z n m : Nat) (v : Value) (g cap : Nat) (xs news : List Value) : Prop where
 own : w'.ownsRow B e z (.slice (some ⟨g, 0, none⟩) (n + m) cap) (n + m) (xs ++ news)
 how : (v = .slice (some ⟨g, 0, none⟩) n cap ∧ w.grownBy w' (some g)) ∨ (w.heap.size ≤ g ∧ w.grownBy w' none)
theorem GrewZ.keeps {w w' : World} {B : Nat} {e : TypeId} {z n m g cap : Nat} {v : Value} {xs news : List Value} (h : GrewZ w w' B e z n m v g cap xs news) : Wp (fun q => v.ownBlock = some q) w w' := grow_keeps h.how
theorem GrewZ.at_ {w w' : World} {B : Nat} {e : TypeId} {z n m g cap : Nat} {v : Value} {xs news : List Value} (h : GrewZ w w' B e z n m v g cap xs news) : v.ownBlock = some g ∨ w.heap.size ≤ g := by
 rcases h.how with ⟨rfl, _⟩ | ⟨h, _⟩
 ·exact Or.inl rfl
 ·exact Or.inr h
theorem permAt {α : Type} : ∀ {l : List α} {i : Nat} {x : α}, l[i]? = some x → (x :: l.eraseIdx i).Perm l
 | [], i, x, h => by simp at h
 | y :: r, 0, x, h => by
  simp at h
  subst h
  exact List.Perm.refl _
 | y :: r, i + 1, x, h => by
  have := permAt (l := r) (i := i) (x := x) (by simpa using h)
  exact (List.Perm.swap y x _).trans (List.Perm.cons y this)
theorem permSet {α : Type} {l : List α} {i : Nat} (y : α) (h : i < l.length) : (y :: l.eraseIdx i).Perm (l.set i y) := by
 have := permAt (l := l.set i y) (i := i) (x := y) (by rw [List.getElem?_set_self h])
 rwa [List.eraseIdx_set_eq] at this
section
variable {w w' : World} {B : Nat} {L M : List Rowp} {e : TypeId} {z n k m g cap : Nat} {v vx vm : Value} {X X' Y Z : List Value}
theorem Sack.keep {F : Nat → Prop} (h : Sack w B L) (hk : Wp F w w') (hF : ∀ p ∈ L, ∀ b, p.has b → ¬ F b) : Sack w' B L :=
 ⟨fun p hp => (h.all p hp).keep hk (hF p hp), h.apart⟩
theorem Sack.keepF (h : Sack w B L) (hk : Wp (fun _ => False) w w') : Sack w' B L := h.keep hk (fun _ _ _ _ => id)
theorem Sack.perm (h : Sack w B L) (hp : L.Perm M) : Sack w B M :=
 ⟨fun p hm => h.all p (hp.mem_iff.2 hm), (hp.pairwise_iff (fun h => Rowp.off_symm h)).1 h.apart⟩
theorem Sack.nil : Sack w B [] := ⟨fun p h => (by cases h), List.Pairwise.nil⟩
theorem Sack.lt (h : Sack w B L) {p : Rowp} (hp : p ∈ L) {b : Nat} (hb : p.has b) : B ≤ b ∧ b < w.heap.size := (h.all p hp).lt hb
theorem Sack.new {p : Rowp} (h : Sack w B L) (hB : B ≤ w.heap.size) (hk : Wp (fun _ => False) w w') (hp : p.at_ w' w.heap.size) : Sack w' B (p :: L) := by
 refine ⟨fun q hq => ?_, List.Pairwise.cons (fun q hq b hb hqb => ?_) h.apart⟩
 ·rcases List.mem_cons.1 hq with rfl | hq
  ·exact hp.low hB
  ·exact (h.all q hq).keep hk (fun _ _ => id)
 ·have h1 := (hp.lt hb).1
  have h2 := (h.lt hq hqb).2
  omega
theorem Sack.nowhere (h : Sack w B L) (hz : 0 < z) : Sack w B (solo e z 0 (.slice none 0 0) [] :: L) :=
 ⟨fun q hq => by
  rcases List.mem_cons.1 hq with rfl | hq
  ·exact solo_at (World.ownsRow_nil _ _ e z) hz
  ·exact h.all q hq, List.Pairwise.cons (fun q _ b hb => by cases solo_has hb) h.apart⟩
theorem Sack.put (h : Sack w B (solo e z n v X :: L)) (h' : w'.ownsRow B e z v n X') (hk : Wp (fun q => v.ownBlock = some q) w w') : Sack w' B (solo e z n v X' :: L) := by
 obtain ⟨h2, h3⟩ := List.pairwise_cons.1 h.apart
 refine ⟨fun q hq => ?_, List.Pairwise.cons (fun q hq b hb => h2 q hq b (Or.inl (solo_has hb))) h3⟩
 rcases List.mem_cons.1 hq with rfl | hq
 ·exact solo_at h' (h.all _ (List.mem_cons_self ..)).pos
 ·exact (h.all q (List.mem_cons_of_mem _ hq)).keep hk (fun b hb f => h2 q hq b (Or.inl f) hb)
theorem Sack.grow (h : Sack w B (⟨e, z, n, vx, X, k, vm, Y⟩ :: L)) (hG : GrewZ w w' B e z (n + k) m vm g cap (X ++ Y) Z) : Sack w' B (⟨e, z, n, vx, X, k + m, .slice (some ⟨g, 0, none⟩) (n + k + m) cap, Y ++ Z⟩ :: L) := by
 have hh := h.all _ (List.mem_cons_self ..)
 obtain ⟨h2, h3⟩ := List.pairwise_cons.1 h.apart
 have hm : w.ownsRow B e z vm (n + k) (X ++ Y) := hh.m
 have hx : w.ownsRow B e z vx n X := hh.x
 have hk := hG.keeps
 refine ⟨fun q hq => ?_, List.Pairwise.cons (fun q hq b hb hqb => ?_) h3⟩
 ·rcases List.mem_cons.1 hq with rfl | hq
  ·refine ⟨hh.pos, both_grow hx hm hh.pos hG.own hG.how, ?_⟩
   show w'.ownsRow B e z _ (n + (k + m)) (X ++ (Y ++ Z))
   rw [← Nat.add_assoc, ← List.append_assoc]
   exact hG.own
  ·exact (h.all q (List.mem_cons_of_mem _ hq)).keep hk (fun b hb e => h2 q hq b (Or.inr e) hb)
 ·rcases hb with e | e
  ·exact h2 q hq b (Or.inl e) hqb
  ·simp [Value.ownBlock] at e
   subst e
   rcases hG.at_ with ha | ha
   ·exact h2 q hq _ (Or.inr ha) hqb
   ·have := (h.lt (List.mem_cons_of_mem _ hq) hqb).2
    omega
theorem Sack.growSelf (h : Sack w B (solo e z n v X :: L)) (hG : GrewZ w w' B e z n m v g cap X Z) : Sack w' B (solo e z (n + m) (.slice (some ⟨g, 0, none⟩) (n + m) cap) (X ++ Z) :: L) := by
 obtain ⟨h2, h3⟩ := List.pairwise_cons.1 h.apart
 have hk := hG.keeps
 refine ⟨fun q hq => ?_, List.Pairwise.cons (fun q hq b hb hqb => ?_) h3⟩
 ·rcases List.mem_cons.1 hq with rfl | hq
  ·exact solo_at hG.own (h.all _ (List.mem_cons_self ..)).pos
  ·exact (h.all q (List.mem_cons_of_mem _ hq)).keep hk (fun b hb e => h2 q hq b (Or.inl e) hb)
 ·have e := solo_has hb
  simp [Value.ownBlock] at e
  subst e
  rcases hG.at_ with ha | ha
  ·exact h2 q hq _ (Or.inl ha) hqb
  ·have := (h.lt (List.mem_cons_of_mem _ hq) hqb).2
   omega
theorem Sack.putAt {i : Nat} (h : Sack w B L) (hi : L[i]? = some (solo e z n v X)) (h' : w'.ownsRow B e z v n X') (hk : Wp (fun q => v.ownBlock = some q) w w') : Sack w' B (L.set i (solo e z n v X')) :=
 ((h.perm (permAt hi).symm).put h' hk).perm (permSet _ (get_lt hi))
theorem Sack.growAt {i : Nat} (h : Sack w B L) (hi : L[i]? = some ⟨e, z, n, vx, X, k, vm, Y⟩) (hG : GrewZ w w' B e z (n + k) m vm g cap (X ++ Y) Z) : Sack w' B (L.set i ⟨e, z, n, vx, X, k + m, .slice (some ⟨g, 0, none⟩) (n + k + m) cap, Y ++ Z⟩) :=
 ((h.perm (permAt hi).symm).grow hG).perm (permSet _ (get_lt hi))
theorem Sack.growSelfAt {i : Nat} (h : Sack w B L) (hi : L[i]? = some (solo e z n v X)) (hG : GrewZ w w' B e z n m v g cap X Z) : Sack w' B (L.set i (solo e z (n + m) (.slice (some ⟨g, 0, none⟩) (n + m) cap) (X ++ Z))) :=
 ((h.perm (permAt hi).symm).growSelf hG).perm (permSet _ (get_lt hi))
end
theorem vcs_app (a b : List ValA) : vcs (a ++ b) = vcs a ++ vcs b := by simp [vcs]
theorem vcs_ones (l : List ValA) : ∀ u ∈ vcs l, u.oneCell' = true := by
 intro u hu
 unfold vcs at hu
 obtain ⟨f, _, hf⟩ := List.mem_flatMap.1 hu
 have hf' : u ∈ [Value.int .i64 f.kind, .int .i64 f.n, str f.s] := hf
 simp only [List.mem_cons, List.not_mem_nil, or_false] at hf'
 rcases hf' with rfl | rfl | rfl <;> rfl
theorem zJ {w w' : World} {B e z n : Nat} {v : Value} {xs : List Value} (h : w.ownsRow B e z v n xs) (hk : Wp (fun _ => False) w w') : w'.ownsRow B e z v n xs := zI h hk (fun _ _ => id)
theorem own_alloc {w : World} {B e z n : Nat} {v : Value} {xs : List Value} (h : w.ownsRow B e z v n xs) (o : Obj) : (w.alloc o).ownsRow B e z v n xs := zJ h ((Wp.refl _ _).alloc _)
section
variable {w : World} {ops : Array Oper} {rest : List Oper} {o : Oper} {a : Act} {Q : Exit → Act → World → Prop}
theorem append_val (hgd : o.guard = none) (s x : Operand)
  (ho : o.op = .call { callee := .builtin .append, args := #[s, x], argTypes := #[25, 25] }) (base : Nat) (v : Value) (n : Nat) (xs : List Value) (hs : a.eval s = v) (hown : w.ownsRow base 51 3 v n xs)
  (ad c : Nat) (f : ValA) (hx : a.eval x = .slice (some ⟨ad, 0, none⟩) 1 c) (hu : w.ownsRow 0 51 3 (.slice (some ⟨ad, 0, none⟩) 1 c) 1 (vcs [f])) (hl : n + 1 ≤ 4398046511104) (hbase : base ≤ w.heap.size)
  (h : ∀ g cap w', GrewZ w w' base 51 3 n 1 v g cap xs (vcs [f]) → wpList Tryz.prog ops Q rest (a.put o.dst (.slice (some ⟨g, 0, none⟩) (n + 1) cap)) w') : wpList Tryz.prog ops Q (o :: rest) a w := by
 obtain ⟨i0, hi, hz0, hz1, hz2⟩ := info_parts Tryz.info51
 exact append_two (P := Tryz.prog) w hgd s x 25 ho base 51 i0 _ 3 32 Tryz.underlying25 hi hz0 hz1 hz2 rfl (by omega) v n xs hs hown _ 1 c (vcs [f]) hx (by rw [vcs_length]; rfl) (hu.cells rfl) (vcs_ones [f]) (by omega) (by unfold maxLen; omega) (by omega) hbase (fun g cap w' h1 h2 => h g cap w' ⟨h1, h2⟩)
end
theorem vcs_setO : ∀ (L : List ValA) (i : Nat) (x : ValA), vcs (L.set i x) = (((vcs L).set (i * 3) (.int .i64 x.kind)).set (i * 3 + 1) (.int .i64 x.n)).set (i * 3 + 2) (str x.s)
 | [], i, x => by simp [vcs]
 | y :: r, 0, x => rfl
 | y :: r, i + 1, x => by
  have ih := vcs_setO r i x
  have e : ∀ (q : ValA) (z : List ValA), vcs (q :: z) = .int .i64 q.kind :: .int .i64 q.n :: str q.s :: vcs z := fun _ _ => rfl
  rw [List.set_cons_succ, e, e, ih, show (i + 1) * 3 = i * 3 + 1 + 1 + 1 by omega]
  simp [List.set_cons_succ]
theorem own_put3 {w : World} {B e n g cap : Nat} {L : List ValA} (h : w.ownsRow B e 3 (.slice (some ⟨g, 0, none⟩) n cap) n (vcs L)) (i : Nat) (x : ValA) :
  (((w.setCell ⟨g, i * 3, none⟩ (.int .i64 x.kind)).setCell ⟨g, i * 3 + 1, none⟩ (.int .i64 x.n)).setCell ⟨g, i * 3 + 2, none⟩ (str x.s)).ownsRow B e 3 (.slice (some ⟨g, 0, none⟩) n cap) n (vcs (L.set i x)) := by
 rw [vcs_setO]
 exact (((h.stored (i * 3) (.int .i64 x.kind)).1.stored (i * 3 + 1) (.int .i64 x.n)).1.stored (i * 3 + 2) (str x.s)).1
theorem keeps_put3 (w : World) (g o1 o2 o3 : Nat) (a b c : Value) : Wp (fun q => q = g) w (((w.setCell ⟨g, o1, none⟩ a).setCell ⟨g, o2, none⟩ b).setCell ⟨g, o3, none⟩ c) :=
 ((keeps_set w g o1 a).trans (keeps_set _ g o2 b)).trans (keeps_set _ g o3 c)
theorem own_open {w : World} {B e z n g c : Nat} {xs : List Value} (h : w.ownsRow B e z (.slice (some ⟨g, 0, none⟩) n c) n xs) {j : Nat} (hj : j < n * z) : (∃ d, w.cell? ⟨g, j, none⟩ = some d) ∧ w.frozen? ⟨g, j, none⟩ = false :=
 ⟨⟨_, (World.ownsRow.cellAt h j hj).trans (List.getElem?_eq_getElem (by rw [h.1]; exact hj))⟩, World.ownsRow.frozenAt h _⟩
structure Kind where
 α : Type
 C : List α → List Value
 e : TypeId
 z : Nat
 hk : TypeId
 len : ∀ l, (C l).length = l.length * z
 app : ∀ a b, C (a ++ b) = C a ++ C b
 pos : 0 < z
 ne : e ≠ hk
def kV : Kind := ⟨ValA, vcs, 51, 3, 25, vcs_length, vcs_app, by decide, by decide⟩
structure Hd where
 v : Value
 hs : List Value
def Hd.row (h : Hd) (e : TypeId) : Rowp := solo e 1 h.hs.length h.v h.hs
def HasZ (K : Kind) (its : List Rowp) (x : Value) (l : List K.α) : Prop := ∃ p ∈ its, p.e = K.e ∧ p.z = K.z ∧ ((p.vx = x ∧ p.n = l.length ∧ p.X = K.C l) ∨ (p.vm = x ∧ p.n + p.k = l.length ∧ p.X ++ p.Y = K.C l))
def SameZ (K : Kind) (its : List Rowp) (x y : Value) : Prop := ∃ l : List K.α, l.length ≤ 1073741824 ∧ HasZ K its x l ∧ HasZ K its y l
structure PairsZ (K : Kind) (its : List Rowp) (hs gs : List Value) : Prop where
 len : hs.length = gs.length
 same : ∀ (i : Nat) (x y : Value), hs[i]? = some x → gs[i]? = some y → SameZ K its x y
theorem HasZ.mono {K : Kind} {its its' : List Rowp} {x : Value} {l : List K.α} (h : HasZ K its x l) (hs : ∀ p ∈ its, p ∈ its') : HasZ K its' x l := by
 obtain ⟨p, hp, h⟩ := h
 exact ⟨p, hs p hp, h⟩
theorem SameZ.mono {K : Kind} {its its' : List Rowp} {x y : Value} (h : SameZ K its x y) (hs : ∀ p ∈ its, p ∈ its') : SameZ K its' x y := by
 obtain ⟨l, h0, h1, h2⟩ := h
 exact ⟨l, h0, h1.mono hs, h2.mono hs⟩
theorem PairsZ.mono {K : Kind} {its its' : List Rowp} {hs gs : List Value} (h : PairsZ K its hs gs) (hs' : ∀ p ∈ its, p ∈ its') : PairsZ K its' hs gs :=
 ⟨h.len, fun i x y h1 h2 => (h.same i x y h1 h2).mono hs'⟩
theorem HasZ.row {K : Kind} {w : World} {B : Nat} {its L : List Rowp} {x : Value} {l : List K.α} (h : HasZ K its x l) (hS : Sack w B L) (hs : ∀ p ∈ its, p ∈ L) : w.ownsRow B K.e K.z x l.length (K.C l) := by
 obtain ⟨p, hp, e1, e2, h⟩ := h
 have ha := hS.all p (hs p hp)
 have hx := ha.x
 have hm := ha.m
 rw [e1, e2] at hx hm
 rcases h with ⟨h1, h2, h3⟩ | ⟨h1, h2, h3⟩
 ·rw [h1, h2, h3] at hx
  exact hx
 ·rw [h1, h2, h3] at hm
  exact hm
theorem PairsZ.snoc2 {K : Kind} {its : List Rowp} {hs gs : List Value} {x y x' y' : Value} (h : PairsZ K its hs gs) (h1 : SameZ K its x y) (h2 : SameZ K its x' y') : PairsZ K its (hs ++ [x] ++ [x']) (gs ++ [y] ++ [y']) := by
 refine ⟨by simp [h.len], fun i a b ha hb => ?_⟩
 have hl := h.len
 by_cases hi : i < hs.length
 ·rw [List.append_assoc, List.getElem?_append_left hi] at ha
  rw [List.append_assoc, List.getElem?_append_left (by omega)] at hb
  exact h.same i a b ha hb
 ·rw [List.append_assoc, List.getElem?_append_right (by omega)] at ha
  rw [List.append_assoc, List.getElem?_append_right (by omega)] at hb
  rw [hl] at ha
  have hlt := get_lt hb
  simp at hlt
  rcases Nat.lt_or_ge (i - gs.length) 1 with h0 | h0
  ·have e : i - gs.length = 0 := by omega
   rw [e] at ha hb
   simp at ha hb
   subst ha
   subst hb
   exact h1
  ·have e : i - gs.length = 1 := by omega
   rw [e] at ha hb
   simp at ha hb
   subst ha
   subst hb
   exact h2
theorem PairsZ.at {K : Kind} {w : World} {B : Nat} {its L : List Rowp} {hs gs : List Value} (h : PairsZ K its hs gs) (hS : Sack w B L) (hs' : ∀ p ∈ its, p ∈ L) {i : Nat} (hi : i < hs.length) :
  ∃ (x y : Value) (l : List K.α), hs[i]? = some x ∧ gs[i]? = some y ∧ l.length ≤ 1073741824 ∧ Ws w x l.length (K.C l) ∧ Ws w y l.length (K.C l) := by
 have hg : i < gs.length := by rw [← h.len]; exact hi
 obtain ⟨l, h0, h1, h2⟩ := h.same i _ _ (List.getElem?_eq_getElem hi) (List.getElem?_eq_getElem hg)
 exact ⟨_, _, l, List.getElem?_eq_getElem hi, List.getElem?_eq_getElem hg, h0, zG (h1.row hS hs'), zG (h2.row hS hs')⟩
theorem append_hdrs {w : World} {ops : Array Oper} {rest : List Oper} {o : Oper} {a : Act} {Q : Exit → Act → World → Prop} (t e : TypeId) (ht : Tryz.prog.underlying t = some (.slice e)) (z0 : Value) (hinfo : (Tryz.prog.info? e).map (fun i => (i.zero, i.size, i.bytes)) = some (some z0, 1, 24)) (hz : z0.cells.size = 1) (hgd : o.guard = none) (s x : Operand)
  (ho : o.op = .call { callee := .builtin .append, args := #[s, x], argTypes := #[t, t] }) (base : Nat) (v : Value) (n : Nat) (xs : List Value) (hs : a.eval s = v) (hown : w.ownsRow base e 1 v n xs)
  (ad c m : Nat) (us : List Value) (hx : a.eval x = .slice (some ⟨ad, 0, none⟩) m c) (hul : us.length = m) (hx2 : ∀ j u, us[j]? = some u → w.cell? ⟨ad, j, none⟩ = some u) (h1 : ∀ u ∈ us, u.oneCell' = true) (hm : 0 < m) (hl : n + m ≤ 4398046511104) (hbase : base ≤ w.heap.size)
  (h : ∀ g cap w', GrewZ w w' base e 1 n m v g cap xs us → wpList Tryz.prog ops Q rest (a.put o.dst (.slice (some ⟨g, 0, none⟩) (n + m) cap)) w') : wpList Tryz.prog ops Q (o :: rest) a w := by
 obtain ⟨i, hi, hz0, hz1, hz2⟩ := info_parts hinfo
 refine append_two (P := Tryz.prog) w hgd s x t ho base e i _ 1 24 ht hi hz0 hz1 hz2 hz (by omega) v n xs hs hown _ m c us hx (by omega) (fun j u' hj => ?_) h1 hm (by unfold maxLen; omega) (by omega) hbase (fun g cap w' h1 h2 => h g cap w' ⟨h1, h2⟩)
 rw [Addr.add_lit, Nat.zero_add]
 exact hx2 j u' hj
theorem grown_row {wx w' : World} {e : TypeId} {B n m g cap : Nat} {h : Hd} {us : List Value} {o : Obj} (hG : GrewZ (wx.alloc o) w' B e 1 n m h.v g cap h.hs us) : solo e 1 (n + m) (.slice (some ⟨g, 0, none⟩) (n + m) cap) (h.hs ++ us) = (⟨.slice (some ⟨g, 0, none⟩) (n + m) cap, h.hs ++ us⟩ : Hd).row e := by
 have hl := hG.own.1
 unfold Hd.row
 rw [show n + m = (h.hs ++ us).length by omega]
def sC (l : List (Int × Txt)) : List Value := l.flatMap fun z => [.int .i64 z.1, str z.2]
theorem sC_len : ∀ l : List (Int × Txt), (sC l).length = l.length * 2
 | [] => rfl
 | x :: r => by
  have := sC_len r
  unfold sC at *
  simp only [List.flatMap_cons, List.length_append, List.length_cons, List.length_nil, this]
  omega
theorem sC_app (a b : List (Int × Txt)) : sC (a ++ b) = sC a ++ sC b := by simp [sC]
theorem sC_ones (l : List (Int × Txt)) : ∀ u ∈ sC l, u.oneCell' = true := by
 intro u hu
 unfold sC at hu
 obtain ⟨f, _, hf⟩ := List.mem_flatMap.1 hu
 simp only [List.mem_cons, List.not_mem_nil, or_false] at hf
 rcases hf with rfl | rfl <;> rfl
def kS : Kind := ⟨Int × Txt, sC, 53, 2, 45, sC_len, sC_app, by decide, by decide⟩
def stepL (D : List (Nat × List ValA)) : List (Int × Txt) := D.map fun z => ((z.1 : Int), typT z.2)
theorem stepL_cs (D : List (Nat × List ValA)) : stepCs D = sC (stepL D) := by
 unfold stepCs sC stepL
 rw [List.flatMap_map]
theorem stepL_len (D : List (Nat × List ValA)) : (stepL D).length = D.length := by simp [stepL]
theorem sC_setO : ∀ (L : List (Int × Txt)) (i : Nat) (x : Int × Txt), sC (L.set i x) = ((sC L).set (i * 2) (.int .i64 x.1)).set (i * 2 + 1) (str x.2)
 | [], i, x => by simp [sC]
 | y :: r, 0, x => rfl
 | y :: r, i + 1, x => by
  have ih := sC_setO r i x
  have e : ∀ (q : Int × Txt) (z : List (Int × Txt)), sC (q :: z) = .int .i64 q.1 :: str q.2 :: sC z := fun _ _ => rfl
  rw [List.set_cons_succ, e, e, ih, show (i + 1) * 2 = i * 2 + 1 + 1 by omega]
  simp [List.set_cons_succ]
theorem own_put2 {w : World} {B e n g cap : Nat} {L : List (Int × Txt)} (h : w.ownsRow B e 2 (.slice (some ⟨g, 0, none⟩) n cap) n (sC L)) (i : Nat) (x : Int × Txt) :
  ((w.setCell ⟨g, i * 2, none⟩ (.int .i64 x.1)).setCell ⟨g, i * 2 + 1, none⟩ (str x.2)).ownsRow B e 2 (.slice (some ⟨g, 0, none⟩) n cap) n (sC (L.set i x)) := by
 rw [sC_setO]
 exact ((h.stored (i * 2) (.int .i64 x.1)).1.stored (i * 2 + 1) (str x.2)).1
theorem keepsS1 (w : World) (g o : Nat) (a : Value) : Wp (fun q => q = g) w (w.setCell ⟨g, o, none⟩ a) := Wp.setCell (F := fun q => q = g) (p := ⟨g, o, none⟩) (Wp.refl (fun q => q = g) w) (fun _ => rfl) a
theorem keeps_put2 (w : World) (g o1 o2 : Nat) (a b : Value) : Wp (fun q => q = g) w ((w.setCell ⟨g, o1, none⟩ a).setCell ⟨g, o2, none⟩ b) := (keepsS1 w g o1 a).trans (keepsS1 _ g o2 b)
structure Sk (w wx : World) (L : List Rowp) : Prop where
 sack : Sack wx w.heap.size L
 keeps : Wp (fun _ => False) w wx
section
variable {w wx w' : World} {L M : List Rowp}
theorem Sk.keepF (h : Sk w wx L) (hk : Wp (fun _ => False) wx w') : Sk w w' L := ⟨h.sack.keepF hk, h.keeps.trans hk⟩
theorem Sk.perm (h : Sk w wx L) (hp : L.Perm M) : Sk w wx M := ⟨h.sack.perm hp, h.keeps⟩
theorem Sk.newRow {e : TypeId} {z n : Nat} {v : Value} {X : List Value} (h : Sk w wx L) (hk : Wp (fun _ => False) wx w') (ho : w'.ownsRow wx.heap.size e z v n X) (hz : 0 < z) : Sk w w' (solo e z n v X :: L) :=
 ⟨h.sack.new h.keeps.size hk (solo_at ho hz), h.keeps.trans hk⟩
theorem Sk.at_ (h : Sk w wx L) {p : Rowp} (hp : p ∈ L) : p.at_ wx w.heap.size := h.sack.all p hp
theorem Sk.ati (h : Sk w wx L) {i : Nat} {p : Rowp} (hp : L[i]? = some p) : p.at_ wx w.heap.size := h.sack.all p (List.mem_of_getElem? hp)
theorem Sk.putAt {e : TypeId} {z n i : Nat} {v : Value} {X X' : List Value} (h : Sk w wx L) (hi : L[i]? = some (solo e z n v X)) (h' : w'.ownsRow w.heap.size e z v n X') (hk : Wp (fun q => v.ownBlock = some q) wx w') : Sk w w' (L.set i (solo e z n v X')) :=
 ⟨h.sack.putAt hi h' hk, narrowO h.keeps hk (fun _ f => own_geO (h.ati hi).x f)⟩
theorem Sk.growAt {e : TypeId} {z n k m g cap i : Nat} {vx vm : Value} {X Y Z : List Value} {o : Obj} (h : Sk w wx L) (hi : L[i]? = some ⟨e, z, n, vx, X, k, vm, Y⟩) (hG : GrewZ (wx.alloc o) w' w.heap.size e z (n + k) m vm g cap (X ++ Y) Z) : Sk w w' (L.set i ⟨e, z, n, vx, X, k + m, .slice (some ⟨g, 0, none⟩) (n + k + m) cap, Y ++ Z⟩) := by
 have h2 := h.keepF ((Wp.refl (fun _ => False) wx).alloc o)
 have hm : (wx.alloc o).ownsRow w.heap.size e z vm (n + k) (X ++ Y) := (h2.ati hi).m
 exact ⟨h2.sack.growAt hi hG, narrowO h2.keeps hG.keeps (fun _ f => own_geO hm f)⟩
theorem Sk.growSelfAt {e : TypeId} {z n m g cap i : Nat} {v : Value} {X Z : List Value} {o : Obj} (h : Sk w wx L) (hi : L[i]? = some (solo e z n v X)) (hG : GrewZ (wx.alloc o) w' w.heap.size e z n m v g cap X Z) : Sk w w' (L.set i (solo e z (n + m) (.slice (some ⟨g, 0, none⟩) (n + m) cap) (X ++ Z))) := by
 have h2 := h.keepF ((Wp.refl (fun _ => False) wx).alloc o)
 have hm : (wx.alloc o).ownsRow w.heap.size e z v n X := (h2.ati hi).x
 exact ⟨h2.sack.growSelfAt hi hG, narrowO h2.keeps hG.keeps (fun _ f => own_geO hm f)⟩
theorem Sk.start (w : World) : Sk w w [] := ⟨Sack.nil, Wp.refl _ _⟩
end
def New (w : World) (v0 v : Value) : Prop := v = v0 ∨ ∀ q, v.ownBlock = some q → w.heap.size ≤ q
theorem New.mono {w W : World} {v0 v : Value} (h : New W v0 v) (hs : w.heap.size ≤ W.heap.size) : New w v0 v := h.imp id (fun h q e => Nat.le_trans hs (h q e))
theorem cl1 {w : World} {b : Nat} {c0 : Value} {t : TypeId} {fr : Nat × Nat} (h : w.heap[b]? = some (.cells #[c0] t fr)) : w.cell? ⟨b, 0, none⟩ = some c0 :=
 (zC h _).trans rfl
theorem cl2 {w : World} {b : Nat} {c0 c1 : Value} {t : TypeId} {fr : Nat × Nat} (h : w.heap[b]? = some (.cells #[c0, c1] t fr)) : w.cell? ⟨b, 0, none⟩ = some c0 ∧ w.cell? ⟨b, 1, none⟩ = some c1 :=
 ⟨(zC h _).trans rfl, (zC h _).trans rfl⟩
theorem fz2 {w : World} {b : Nat} {cs : Array Value} {t : TypeId} (h : w.heap[b]? = some (.cells cs t (0, 0))) : w.frozen? ⟨b, 0, none⟩ = false ∧ w.frozen? ⟨b, 1, none⟩ = false :=
 ⟨zF h 0, zF h 1⟩
theorem cl3 {w : World} {b : Nat} {c0 c1 c2 : Value} {t : TypeId} {fr : Nat × Nat} (h : w.heap[b]? = some (.cells #[c0, c1, c2] t fr)) : w.cell? ⟨b, 0, none⟩ = some c0 ∧ w.cell? ⟨b, 1, none⟩ = some c1 ∧ w.cell? ⟨b, 2, none⟩ = some c2 :=
 ⟨(zC h _).trans rfl, (zC h _).trans rfl, (zC h _).trans rfl⟩
theorem fz3 {w : World} {b : Nat} {cs : Array Value} {t : TypeId} (h : w.heap[b]? = some (.cells cs t (0, 0))) : w.frozen? ⟨b, 0, none⟩ = false ∧ w.frozen? ⟨b, 1, none⟩ = false ∧ w.frozen? ⟨b, 2, none⟩ = false :=
 ⟨zF h 0, zF h 1, zF h 2⟩
theorem cl4 {w : World} {b : Nat} {c0 c1 c2 c3 : Value} {t : TypeId} {fr : Nat × Nat} (h : w.heap[b]? = some (.cells #[c0, c1, c2, c3] t fr)) : w.cell? ⟨b, 0, none⟩ = some c0 ∧ w.cell? ⟨b, 1, none⟩ = some c1 ∧ w.cell? ⟨b, 2, none⟩ = some c2 ∧ w.cell? ⟨b, 3, none⟩ = some c3 :=
 ⟨(zC h _).trans rfl, (zC h _).trans rfl, (zC h _).trans rfl, (zC h _).trans rfl⟩
theorem fz4 {w : World} {b : Nat} {cs : Array Value} {t : TypeId} (h : w.heap[b]? = some (.cells cs t (0, 0))) : w.frozen? ⟨b, 0, none⟩ = false ∧ w.frozen? ⟨b, 1, none⟩ = false ∧ w.frozen? ⟨b, 2, none⟩ = false ∧ w.frozen? ⟨b, 3, none⟩ = false :=
 ⟨zF h 0, zF h 1, zF h 2, zF h 3⟩
theorem zD {W w1 : World} {b : Nat} {o : Obj} (h : W.heap[b]? = some o) (hk : Wp (fun _ => False) W w1) : w1.heap[b]? = some o := (hk.block _ (zE h) id).trans h
theorem boxes4 (w : World) (a b c d : Array Value) (ta tb tc td : TypeId) : ∃ W, (((w.alloc (.cells a ta)).alloc (.cells b tb)).alloc (.cells c tc)).alloc (.cells d td) = W ∧ Wp (fun _ => False) w W ∧ W.heap[w.heap.size]? = some (.cells a ta (0, 0)) ∧ W.heap[w.heap.size + 1]? = some (.cells b tb (0, 0)) ∧ W.heap[w.heap.size + 1 + 1]? = some (.cells c tc (0, 0)) ∧ W.heap[w.heap.size + 1 + 1 + 1]? = some (.cells d td (0, 0)) := by
 have k1 := kA w (.cells a ta)
 have k2 := kA (w.alloc (.cells a ta)) (.cells b tb)
 have k3 := kA ((w.alloc (.cells a ta)).alloc (.cells b tb)) (.cells c tc)
 have k4 := kA (((w.alloc (.cells a ta)).alloc (.cells b tb)).alloc (.cells c tc)) (.cells d td)
 have h1 := heap_alloc_new w (.cells a ta)
 have h2 := heap_alloc_new (w.alloc (.cells a ta)) (.cells b tb)
 have h3 := heap_alloc_new ((w.alloc (.cells a ta)).alloc (.cells b tb)) (.cells c tc)
 have h4 := heap_alloc_new (((w.alloc (.cells a ta)).alloc (.cells b tb)).alloc (.cells c tc)) (.cells d td)
 rw [show (w.alloc (.cells a ta)).heap.size = w.heap.size + 1 by simp] at h2
 rw [show ((w.alloc (.cells a ta)).alloc (.cells b tb)).heap.size = w.heap.size + 1 + 1 by simp] at h3
 rw [show (((w.alloc (.cells a ta)).alloc (.cells b tb)).alloc (.cells c tc)).heap.size = w.heap.size + 1 + 1 + 1 by simp] at h4
 exact ⟨_, rfl, ((k1.trans k2).trans k3).trans k4, zD (zD (zD h1 k2) k3) k4, zD (zD h2 k3) k4, zD h3 k4, h4⟩
theorem boxes3 (w : World) (a b c : Array Value) (ta tb tc : TypeId) : ∃ W, ((w.alloc (.cells a ta)).alloc (.cells b tb)).alloc (.cells c tc) = W ∧ Wp (fun _ => False) w W ∧ W.heap[w.heap.size]? = some (.cells a ta (0, 0)) ∧ W.heap[w.heap.size + 1]? = some (.cells b tb (0, 0)) ∧ W.heap[w.heap.size + 1 + 1]? = some (.cells c tc (0, 0)) := by
 have k1 := kA w (.cells a ta)
 have k2 := kA (w.alloc (.cells a ta)) (.cells b tb)
 have k3 := kA ((w.alloc (.cells a ta)).alloc (.cells b tb)) (.cells c tc)
 have h1 := heap_alloc_new w (.cells a ta)
 have h2 := heap_alloc_new (w.alloc (.cells a ta)) (.cells b tb)
 have h3 := heap_alloc_new ((w.alloc (.cells a ta)).alloc (.cells b tb)) (.cells c tc)
 rw [show (w.alloc (.cells a ta)).heap.size = w.heap.size + 1 by simp] at h2
 rw [show ((w.alloc (.cells a ta)).alloc (.cells b tb)).heap.size = w.heap.size + 1 + 1 by simp] at h3
 exact ⟨_, rfl, (k1.trans k2).trans k3, zD (zD h1 k2) k3, zD h2 k3, h3⟩
theorem boxes2 (w : World) (a b : Array Value) (ta tb : TypeId) : ∃ W, (w.alloc (.cells a ta)).alloc (.cells b tb) = W ∧ Wp (fun _ => False) w W ∧ W.heap[w.heap.size]? = some (.cells a ta (0, 0)) ∧ W.heap[w.heap.size + 1]? = some (.cells b tb (0, 0)) := by
 have k1 := kA w (.cells a ta)
 have k2 := kA (w.alloc (.cells a ta)) (.cells b tb)
 have h1 := heap_alloc_new w (.cells a ta)
 have h2 := heap_alloc_new (w.alloc (.cells a ta)) (.cells b tb)
 rw [show (w.alloc (.cells a ta)).heap.size = w.heap.size + 1 by simp] at h2
 exact ⟨_, rfl, k1.trans k2, zD h1 k2, h2⟩
end Go.Proofs.YtbdlcaamanhapaaGreatDoor
