import Derived.Test.YtbdlcaamanhapaaGreatDoorJzav
import Derived.Test.YtbdlcaamanhapaaGreatDoorJzas
import Derived.Test.YtbdlcaamanhapaaGreatDoorJzap
import Derived.Test.YtbdlcaamanhapaaGreatDoorJzau
import Derived.Deep.RegionLaw
import Derived.Deep.AppendLies
import Derived.Deep.RegionHeld3
namespace Go.Proofs.YtbdlcaamanhapaaGreatDoor
open Go.RowKit Go.Maps
set_option maxRecDepth 100000
set_option maxHeartbeats 2000000
theorem pushes6_v (S : List Wq) (sv u : Value) (x : ValA) (m : MS) (w : World) (hS : Wt w sv S) (hr : Wr w u m.vals) (ho : x.kind = 6) (h0 : 0 ≤ x.n) (hns : x.n.toNat < S.length) (hnv : m.here = true → x.n.toNat < m.vals.length) :
  Calls Tryz.prog 59 #[.agg #[sv], x.v, .agg #[.bool m.here, u]] w fun e w' => e = .returned (.tuple #[(toldV S x m).v, .bool true]) ∧ Wp (fun _ => False) w w' := by
 obtain ⟨o, n, s⟩ := x
 simp only at *
 subst ho
 obtain ⟨k, hkn⟩ : ∃ k : Nat, n.toNat = k := ⟨_, rfl⟩
 have hn : n = (k : Int) := by omega
 subst hn
 rw [Int.toNat_natCast] at hns hnv
 rw [show toldV S ⟨6, (k : Int), s⟩ m = truV (hasB m k) from rfl]
 rw [show (⟨6, (k : Int), s⟩ : ValA).v = .agg #[.int .i64 6, .int .i64 (k : Int), str s] from rfl]
 obtain ⟨so, sc, rfl⟩ := Ws.form hS
 obtain ⟨uo, uc, rfl⟩ := Ws.form hr
 obtain ⟨W, hW, hkW, g0, g1, g2, g3⟩ := boxes4 w #[.slice so S.length sc] #[.int .i64 6, .int .i64 (k : Int), str s] #[.bool m.here, .slice uo m.vals.length uc] #[.int .i64 0, .int .i64 0, .string ⟨#[]⟩] 24 60 27 51
 have HKA := zB hkW
 have HX := zB g3
 have HS := zB (hS.keepF hkW)
 have HR := zB (hr.keepF hkW)
 have p0 := cl1 g0
 obtain ⟨q0, q1, q2⟩ := cl3 g1
 obtain ⟨r0, r1⟩ := cl2 g2
 have hsz : w.heap.size + 1 + 1 + 1 < W.heap.size := zE g3
 have G0 := zB g0
 have G1 := zB g1
 have G2 := zB g2
 clear hkW g0 g1 g2 g3 hS hr
 have HL := zB (loadR_v m (.slice uo m.vals.length uc) k W (zA HR) hnv)
 obtain ⟨lv, hlv⟩ : ∃ lv, (if hasB m k then (m.vals[k]?).getD zV else zV) = lv := ⟨_, rfl⟩
 rw [hlv] at HL
 generalize hasB m k = R at *
 clear hnv hkn hlv
 go_enter Tryz.func59, Tryz.ntmps59
 go_wp2_with fail
 refine (zA HL).mono ?_
 rintro e w0 ⟨rfl, hk0⟩
 have HX0 := zB (zD (zD (zA HX) hk0) (kA w0 (.cells #[.int .i64 lv.kind, .int .i64 lv.n, str lv.s] 51)))
 have HK0 := zB (((zA HKA).trans hk0).alloc (.cells #[.int .i64 lv.kind, .int .i64 lv.n, str lv.s] 51))
 clear HL hk0 HX HKA
 have HX := HX0
 have HKA := HK0
 unfold ValA.v
 go_wp2_with fail
 refine (truR_v R _).mono ?_
 rintro e w1 ⟨rfl, hk1⟩
 generalize hx : truV R = y at *
 have HXE := zB hx
 clear hx
 obtain ⟨z0, z1, z2, y0, y1, y2, s0, s1, s2⟩ := rF (zA HX) hk1 y
 have HK := zB (((zA HKA).trans hk1).fresh (by omega) (zK w1 (w.heap.size + 1 + 1 + 1) (.int .i64 y.kind) (.int .i64 y.n) (str y.s)))
 unfold ValA.v
 clear hk1
 go_wp2_with fail
 refine bodyPost_ret (v := .tuple #[.agg #[.int .i64 y.kind, .int .i64 y.n, str y.s], .bool true]) (by simp [results, go_sem, s0, s1, s2]) rfl ?_
 exact ⟨by rw [zA HXE]; rfl, zA HK⟩
theorem pushes5_v (S : List Wq) (sv u : Value) (x : ValA) (m : MS) (w : World) (hS : Wt w sv S) (hr : Wr w u m.vals) (ho : x.kind = 5) (h0 : 0 ≤ x.n) (hns : x.n.toNat < S.length) (hnv : m.here = true → x.n.toNat < m.vals.length) :
  Calls Tryz.prog 59 #[.agg #[sv], x.v, .agg #[.bool m.here, u]] w fun e w' => e = .returned (.tuple #[(toldV S x m).v, .bool true]) ∧ Wp (fun _ => False) w w' := by
 obtain ⟨o, n, s⟩ := x
 simp only at *
 subst ho
 obtain ⟨k, hkn⟩ : ∃ k : Nat, n.toNat = k := ⟨_, rfl⟩
 have hn : n = (k : Int) := by omega
 subst hn
 rw [Int.toNat_natCast] at hns hnv
 rw [show toldV S ⟨5, (k : Int), s⟩ m = loadV S m k from rfl]
 rw [show (⟨5, (k : Int), s⟩ : ValA).v = .agg #[.int .i64 5, .int .i64 (k : Int), str s] from rfl]
 obtain ⟨so, sc, rfl⟩ := Ws.form hS
 obtain ⟨uo, uc, rfl⟩ := Ws.form hr
 obtain ⟨W, hW, hkW, g0, g1, g2, g3⟩ := boxes4 w #[.slice so S.length sc] #[.int .i64 5, .int .i64 (k : Int), str s] #[.bool m.here, .slice uo m.vals.length uc] #[.int .i64 0, .int .i64 0, .string ⟨#[]⟩] 24 60 27 51
 have HKA := zB hkW
 have HX := zB g3
 have HS := zB (hS.keepF hkW)
 have HR := zB (hr.keepF hkW)
 have p0 := cl1 g0
 obtain ⟨q0, q1, q2⟩ := cl3 g1
 obtain ⟨r0, r1⟩ := cl2 g2
 have hsz : w.heap.size + 1 + 1 + 1 < W.heap.size := zE g3
 have G0 := zB g0
 have G1 := zB g1
 have G2 := zB g2
 clear hkW g0 g1 g2 g3 hS hr
 have HL := zB (loadR_v m (.slice uo m.vals.length uc) k W (zA HR) hnv)
 obtain ⟨f, hf⟩ : ∃ f, S[k]? = some f := ⟨_, List.getElem?_eq_getElem hns⟩
 have HV : Hid (loadV S m k = if hasB m k then (m.vals[k]?).getD zV else ⟨f.type, 0, []⟩) := by show _ = _; unfold loadV; rw [hf]; rfl
 obtain ⟨sb, sof, sc', e, hbl, hc⟩ := (zA HS).cells (by omega)
 simp only [Value.slice.injEq] at e
 obtain ⟨rfl, -, rfl⟩ := e
 have HC := zB (hc k f hf).2.1
 have i0 : (0 : Int) ≤ (k : Int) := by omega
 have i1 : (k : Int) < (S.length : Int) := by omega
 generalize loadV S m k = T at *
 cases hb : hasB m k with
 | false =>
  rw [hb] at HL HV
  simp only [Bool.false_eq_true, if_false] at HL HV
  rw [show zV.v = .agg #[.int .i64 0, .int .i64 0, .string ⟨#[]⟩] from rfl] at HL
  clear hnv hkn hc hf hb
  go_enter Tryz.func59, Tryz.ntmps59
  go_wp2_with fail
  refine (zA HL).mono ?_
  rintro e w1 ⟨rfl, hk1⟩
  have G0' := zD (zA G0) hk1
  have G1' := zD (zA G1) hk1
  have HX1 := zB (zD (zA HX) hk1)
  have pp0 := cl1 G0'
  obtain ⟨qq0, qq1, qq2⟩ := cl3 G1'
  have hsz1 : w.heap.size + 1 + 1 + 1 < w1.heap.size := zE (zA HX1)
  have l0 : w.heap.size < w1.heap.size := by omega
  have l1 : w.heap.size + 1 < w1.heap.size := by omega
  have lb : sb < w1.heap.size := Nat.lt_of_lt_of_le hbl hk1.size
  have HK1 := zB ((zA HKA).trans hk1)
  have cf := (hk1.cell hbl id).trans (zA HC)
  obtain ⟨z0, z1, z2, y0, y1, y2, s0, s1, s2⟩ := rF (zA HX1) (Wp.refl _ w1) ⟨f.type, 0, []⟩
  have s0' := ((kA (((w1.setCell ⟨w.heap.size + 1 + 1 + 1, 0, none⟩ (.int .i64 f.type)).setCell ⟨w.heap.size + 1 + 1 + 1, 1, none⟩ (.int .i64 0)).setCell ⟨w.heap.size + 1 + 1 + 1, 2, none⟩ (str [])) (.cells #[.int .i64 0, .int .i64 0, .string ⟨#[]⟩] 51)).cell (o := 0) (by simpa using hsz1) id).trans s0
  have s1' := ((kA (((w1.setCell ⟨w.heap.size + 1 + 1 + 1, 0, none⟩ (.int .i64 f.type)).setCell ⟨w.heap.size + 1 + 1 + 1, 1, none⟩ (.int .i64 0)).setCell ⟨w.heap.size + 1 + 1 + 1, 2, none⟩ (str [])) (.cells #[.int .i64 0, .int .i64 0, .string ⟨#[]⟩] 51)).cell (o := 1) (by simpa using hsz1) id).trans s1
  have s2' := ((kA (((w1.setCell ⟨w.heap.size + 1 + 1 + 1, 0, none⟩ (.int .i64 f.type)).setCell ⟨w.heap.size + 1 + 1 + 1, 1, none⟩ (.int .i64 0)).setCell ⟨w.heap.size + 1 + 1 + 1, 2, none⟩ (str [])) (.cells #[.int .i64 0, .int .i64 0, .string ⟨#[]⟩] 51)).cell (o := 2) (by simpa using hsz1) id).trans s2
  have HK := zB (((zA HK1).fresh (by omega) (zK w1 (w.heap.size + 1 + 1 + 1) (.int .i64 f.type) (.int .i64 0) (str []))).alloc (.cells #[.int .i64 0, .int .i64 0, .string ⟨#[]⟩] 51))
  clear HL hk1
  go_wp2_with fail
  refine bodyPost_ret (v := .tuple #[.agg #[.int .i64 f.type, .int .i64 0, .string ⟨#[]⟩], .bool true]) (by simp [results, go_sem, s0', s1', s2']) rfl ?_
  exact ⟨by rw [zA HV]; rfl, zA HK⟩
 | true =>
  rw [hb] at HL HV
  simp only [if_true] at HL HV
  obtain ⟨lv, hlv⟩ : ∃ lv, (m.vals[k]?).getD zV = lv := ⟨_, rfl⟩
  rw [hlv] at HL HV
  rw [show lv.v = .agg #[.int .i64 lv.kind, .int .i64 lv.n, str lv.s] from rfl] at HL
  clear hnv hkn hc hf hb hlv
  go_enter Tryz.func59, Tryz.ntmps59
  go_wp2_with fail
  refine (zA HL).mono ?_
  rintro e w1 ⟨rfl, hk1⟩
  have G0' := zD (zA G0) hk1
  have G1' := zD (zA G1) hk1
  have HX1 := zB (zD (zA HX) hk1)
  have pp0 := cl1 G0'
  obtain ⟨qq0, qq1, qq2⟩ := cl3 G1'
  have hsz1 : w.heap.size + 1 + 1 + 1 < w1.heap.size := zE (zA HX1)
  have l0 : w.heap.size < w1.heap.size := by omega
  have l1 : w.heap.size + 1 < w1.heap.size := by omega
  have lb : sb < w1.heap.size := Nat.lt_of_lt_of_le hbl hk1.size
  have HK1 := zB ((zA HKA).trans hk1)
  obtain ⟨z0, z1, z2, y0, y1, y2, s0, s1, s2⟩ := rF (zA HX1) (Wp.refl _ w1) lv
  have s0' := ((kA (((w1.setCell ⟨w.heap.size + 1 + 1 + 1, 0, none⟩ (.int .i64 lv.kind)).setCell ⟨w.heap.size + 1 + 1 + 1, 1, none⟩ (.int .i64 lv.n)).setCell ⟨w.heap.size + 1 + 1 + 1, 2, none⟩ (str lv.s)) (.cells #[.int .i64 lv.kind, .int .i64 lv.n, str lv.s] 51)).cell (o := 0) (by simpa using hsz1) id).trans s0
  have s1' := ((kA (((w1.setCell ⟨w.heap.size + 1 + 1 + 1, 0, none⟩ (.int .i64 lv.kind)).setCell ⟨w.heap.size + 1 + 1 + 1, 1, none⟩ (.int .i64 lv.n)).setCell ⟨w.heap.size + 1 + 1 + 1, 2, none⟩ (str lv.s)) (.cells #[.int .i64 lv.kind, .int .i64 lv.n, str lv.s] 51)).cell (o := 1) (by simpa using hsz1) id).trans s1
  have s2' := ((kA (((w1.setCell ⟨w.heap.size + 1 + 1 + 1, 0, none⟩ (.int .i64 lv.kind)).setCell ⟨w.heap.size + 1 + 1 + 1, 1, none⟩ (.int .i64 lv.n)).setCell ⟨w.heap.size + 1 + 1 + 1, 2, none⟩ (str lv.s)) (.cells #[.int .i64 lv.kind, .int .i64 lv.n, str lv.s] 51)).cell (o := 2) (by simpa using hsz1) id).trans s2
  have HK := zB (((zA HK1).fresh (by omega) (zK w1 (w.heap.size + 1 + 1 + 1) (.int .i64 lv.kind) (.int .i64 lv.n) (str lv.s))).alloc (.cells #[.int .i64 lv.kind, .int .i64 lv.n, str lv.s] 51))
  clear HL hk1
  have hN := heap_alloc_new w1 (.cells #[.int .i64 lv.kind, .int .i64 lv.n, str lv.s] 51)
  go_wp2_with fail
  refine bodyPost_ret (v := .tuple #[.agg #[.int .i64 lv.kind, .int .i64 lv.n, str lv.s], .bool true]) (by simp [results, go_sem, s0', s1', s2']) rfl ?_
  exact ⟨by rw [zA HV]; rfl, zA HK⟩
theorem pushesN_v (S : List Wq) (sv u : Value) (x : ValA) (m : MS) (w : World) (hS : Wt w sv S) (hr : Wr w u m.vals) (h1 : (x.kind == 1) = false) (h2 : (x.kind == 2) = false) (h3 : (x.kind == 3) = false) (h4 : (x.kind == 4) = false) (h5 : (x.kind == 5) = false) (h6 : (x.kind == 6) = false) (h7 : (x.kind == 7) = false) :
  Calls Tryz.prog 59 #[.agg #[sv], x.v, .agg #[.bool m.here, u]] w fun e w' => e = .returned (.tuple #[zV.v, .bool false]) ∧ Wp (fun _ => False) w w' := by
 rw [show x.v = .agg #[.int .i64 x.kind, .int .i64 x.n, str x.s] from rfl]
 obtain ⟨so, sc, rfl⟩ := Ws.form hS
 obtain ⟨uo, uc, rfl⟩ := Ws.form hr
 obtain ⟨W, hW, hkW, g0, g1, g2, g3⟩ := boxes4 w #[.slice so S.length sc] #[.int .i64 x.kind, .int .i64 x.n, str x.s] #[.bool m.here, .slice uo m.vals.length uc] #[.int .i64 0, .int .i64 0, .string ⟨#[]⟩] 24 60 27 51
 have HKA := zB hkW
 have HX := zB g3
 have HS := zB (hS.keepF hkW)
 have HR := zB (hr.keepF hkW)
 have p0 := cl1 g0
 obtain ⟨q0, q1, q2⟩ := cl3 g1
 obtain ⟨r0, r1⟩ := cl2 g2
 have hsz : w.heap.size + 1 + 1 + 1 < W.heap.size := zE g3
 have G0 := zB g0
 have G1 := zB g1
 have G2 := zB g2
 clear hkW g0 g1 g2 g3 hS hr
 obtain ⟨z0, z1, z2, y0, y1, y2, s0, s1, s2⟩ := rF (zA HX) (Wp.refl _ W) zV
 have HK := zB ((zA HKA).fresh (by omega) (zK W (w.heap.size + 1 + 1 + 1) (.int .i64 0) (.int .i64 0) (str [])))
 simp only [zV] at s0 s1 s2
 go_enter Tryz.func59, Tryz.ntmps59
 go_wp2_with fail
 refine bodyPost_ret (v := .tuple #[.agg #[.int .i64 0, .int .i64 0, .string ⟨#[]⟩], .bool false]) (by simp [results, go_sem, s0, s1, s2]) rfl ?_
 exact ⟨rfl, zA HK⟩
end Go.Proofs.YtbdlcaamanhapaaGreatDoor
namespace Go.Proofs.YtbdlcaamanhapaaGreatDoor
open Go.RowKit Go.Maps
theorem step_app1 {w : World} {ops : Array Oper} {o : Oper} {a : Act} {K : Act → World → Prop} {Q : Exit → Act → World → Prop} {E : Prop} (hgd : o.guard = none) (s x : Operand)
  (ho : o.op = .call { callee := .builtin .append, args := #[s, x], argTypes := #[25, 25] }) (base : Nat) (ao : Option Addr) (n c : Nat) (xs : List Value) (hs : a.eval s = .slice ao n c) (hown : w.ownsRow base 51 3 (.slice ao n c) n xs)
  (q : Nat) (z : ValA) (hx : a.eval x = .slice (some ⟨q, 0, none⟩) 1 1) (hq : w.heap[q]? = some (.cells #[.int .i64 z.kind, .int .i64 z.n, str z.s] 51 (0, 0))) (hn : n ≤ 1024) (hbase : base ≤ w.heap.size)
  (h : ∀ g cap w', w'.ownsRow base 51 3 (.slice (some ⟨g, 0, none⟩) (n + 1) cap) (n + 1) (xs ++ z.cs) → w.grownBy w' (Value.slice ao n c).ownBlock → K (a.put o.dst (.slice (some ⟨g, 0, none⟩) (n + 1) cap)) w') : if Region.wanted o (yielded ops a.tmps) = true then Oper.wp Tryz.prog o a w K Q else E := by
 obtain ⟨i0, hi, hz0, hz1, hz2⟩ := info_parts Tryz.info51
 refine step_append_lies w hgd s x 25 ho base 51 i0 _ 3 32 Tryz.underlying25 hi hz0 hz1 hz2 rfl (by omega) (.slice ao n c) n xs hs hown ⟨q, 0, none⟩ 1 1 z.cs hx rfl (World.news_of_block (cs := #[.int .i64 z.kind, .int .i64 z.n, str z.s]) (t := 51) (fr := (0, 0)) hq) (fun u hu => ?_) (by omega) (by unfold maxLen; omega) (by omega) hbase w.heap.size rfl (fun g cap w' h1 h2 _ _ => h g cap w' h1 h2)
 simp only [ValA.cs, List.mem_cons, List.not_mem_nil, or_false] at hu
 rcases hu with rfl | rfl | rfl <;> rfl
theorem off4 {a : Int} {y z : Value} {b : Bool} (hy : ∀ n, y ≠ .int .i64 n) (i : Nat) (c n : Int) (s : Txt) (h1 : (#[.int .i64 a, y, .bool b, z] : Array Value)[i]? = some (.int .i64 c)) (h2 : (#[.int .i64 a, y, .bool b, z] : Array Value)[i + 1]? = some (.int .i64 n)) (h3 : (#[.int .i64 a, y, .bool b, z] : Array Value)[i + 2]? = some (str s)) : False := by
 rcases i with _ | _ | _ | _ | i
 ·simp at h2; exact hy _ h2
 ·simp at h1; exact hy _ h1
 ·simp at h1
 ·simp at h2
 ·simp at h1
theorem wrap_small {n : Int} (h0 : 0 ≤ n) (h1 : n ≤ 1048576) : IntKind.i64.wrap n = n := by
 rw [← wrap64_eq]
 unfold wrap64
 omega
def StatesTo (w : World) (tv rv : Value) (k : Nat) (m : MS) (e : Ending) (w' : World) : Prop :=
 ∃ tO tc ro rc, e = .returned (.agg #[.int .i64 (k : Int), .slice tO m.st.length tc, .bool m.here, .slice ro m.vals.length rc]) ∧ Wr w' (.slice tO m.st.length tc) m.st ∧ Wr w' (.slice ro m.vals.length rc) m.vals ∧ New w tv (.slice tO m.st.length tc) ∧ New w rv (.slice ro m.vals.length rc) ∧ Wp (fun _ => False) w w'
end Go.Proofs.YtbdlcaamanhapaaGreatDoor
namespace Go.Proofs.YtbdlcaamanhapaaGreatDoor
open Go.RowKit Go.Maps
set_option maxRecDepth 100000
set_option maxHeartbeats 4000000
theorem stepRA_v (S : List Wq) (sv lv tv rv : Value) (l : List ValA) (k : Nat) (m : MS) (x z : ValA) (w : World) (hS : Wt w sv S) (hl : Wr w lv l) (hst : Wr w tv m.st) (hr : Wr w rv m.vals) (hx : l[k]? = some x) (hk : k ≤ 1024) (h16 : m.st.length ≤ 16) (hP : ∀ (W : World) (sv rv : Value), Wt W sv S → Wr W rv m.vals → Calls Tryz.prog 59 #[.agg #[sv], x.v, .agg #[.bool m.here, rv]] W fun e w' => e = .returned (.tuple #[z.v, .bool true]) ∧ Wp (fun _ => False) W w') :
  Calls Tryz.prog 42 #[.agg #[sv], lv, .agg #[.int .i64 (k : Int), tv, .bool m.here, rv]] w fun e w' => StatesTo w tv rv (k + 1) ⟨m.st.take (m.st.length - 0) ++ [z], m.here, m.vals⟩ e w' := by
 obtain ⟨so, sc, rfl⟩ := Ws.form hS
 obtain ⟨tO, tc, rfl⟩ := Ws.form hst
 obtain ⟨ro, rc, rfl⟩ := Ws.form hr
 obtain ⟨lb, lof, lc, e, hlb, hlc⟩ := hl.cells (by have := (List.getElem?_eq_some_iff.1 hx).1; omega)
 subst e
 have hkl : (k : Int) < (l.length : Int) := by have := (List.getElem?_eq_some_iff.1 hx).1; omega
 have hk0 : (0 : Int) ≤ (k : Int) := by omega
 obtain ⟨W, hW, hkW, f0, f1, f2⟩ := boxes3 w #[.slice so S.length sc] #[.int .i64 (k : Int), .slice tO m.st.length tc, .bool m.here, .slice ro m.vals.length rc] #[.int .i64 0, .slice none 0 0, .bool false, .slice none 0 0] 24 78 78
 have c0 := (hkW.cell hlb id).trans (hlc k x hx).1
 have c1 := (hkW.cell hlb id).trans (hlc k x hx).2.1
 have c2 := (hkW.cell hlb id).trans (hlc k x hx).2.2
 obtain ⟨w0, w1, w2, w3⟩ := cl4 f1
 have hsW : W.heap.size = w.heap.size + 1 + 1 + 1 := by rw [← hW]; simp
 have kV := kA W (.cells #[.int .i64 x.kind, .int .i64 x.n, str x.s] 60)
 have g3 := heap_alloc_new W (.cells #[.int .i64 x.kind, .int .i64 x.n, str x.s] 60)
 rw [hsW] at g3
 generalize hV : W.alloc (.cells #[.int .i64 x.kind, .int .i64 x.n, str x.s] 60) = V at *
 have hkV := hkW.trans kV
 have g0 := zD f0 kV
 have g1 := zD f1 kV
 have g2 := zD f2 kV
 have HKV := zB hkV
 have HT := zB (hst.keepF hkV)
 have HR := zB (hr.keepF hkV)
 have HSV := zB (hS.keepF hkV)
 have G0 := zB g0
 have G1 := zB g1
 have G2 := zB g2
 have G3 := zB g3
 have p0 := cl1 g0
 obtain ⟨q0, q1, q2, q3⟩ := cl4 g1
 obtain ⟨r0, r1, r2⟩ := cl3 g3
 have hsz : w.heap.size + 1 + 1 + 1 < V.heap.size := zE g3
 have hw1 : IntKind.i64.wrap ((k : Int) + 1) = (k : Int) + 1 := wrap_small (by omega) (by omega)
 clear hS hst hr hl hlc hx hkV g0 g1 g2 g3 f0 f1 f2 kV hkW
 have HQ := zB (hP V _ _ (zA HSV) (zA HR))
 rw [show x.v = .agg #[.int .i64 x.kind, .int .i64 x.n, str x.s] from rfl, show z.v = .agg #[.int .i64 z.kind, .int .i64 z.n, str z.s] from rfl] at HQ
 clear hP
 go_enter Tryz.func42, Tryz.ntmps42
 go_wp2_with fail
 refine (zA HQ).mono ?_
 rintro e w1 ⟨rfl, hk1⟩
 have hZ := heap_alloc_new w1 (.cells #[.int .i64 z.kind, .int .i64 z.n, str z.s] 51)
 have kX := hk1.trans (kA w1 (.cells #[.int .i64 z.kind, .int .i64 z.n, str z.s] 51))
 have hs1 : w.heap.size + 1 + 1 + 1 < w1.heap.size := Nat.lt_of_lt_of_le hsz hk1.size
 generalize hX : w1.alloc (.cells #[.int .i64 z.kind, .int .i64 z.n, str z.s] 51) = X at *
 have hB1 := zD (zA G1) kX
 have hB2 := zD (zA G2) kX
 have HTX := zB ((zA HT).keepF kX)
 have HRX := zB ((zA HR).keepF kX)
 have HWX := zB ((zA HKV).trans kX)
 clear HQ hk1 kX HT HR HSV
 have HSK : Hid (∀ w', Wp (fun q => q = w.heap.size + 1 + 1) X w' → w'.cell? ⟨w.heap.size + 1, 0, none⟩ = some (.int .i64 (k : Int)) ∧ w'.cell? ⟨w.heap.size + 1, 1, none⟩ = some (.slice tO m.st.length tc) ∧ w'.cell? ⟨w.heap.size + 1, 2, none⟩ = some (.bool m.here) ∧ w'.cell? ⟨w.heap.size + 1, 3, none⟩ = some (.slice ro m.vals.length rc) ∧ w'.cell? ⟨w1.heap.size, 0, none⟩ = some (.int .i64 z.kind) ∧ w'.cell? ⟨w1.heap.size, 1, none⟩ = some (.int .i64 z.n) ∧ w'.cell? ⟨w1.heap.size, 2, none⟩ = some (str z.s)) := fun w' hk => by
  have hs1 := zE hB1
  have hs2 := zE hZ
  have y1 := (hk.block _ hs1 (by omega)).trans hB1
  have y2 := (hk.block _ hs2 (by omega)).trans hZ
  exact ⟨(zC y1 _).trans rfl, (zC y1 _).trans rfl, (zC y1 _).trans rfl, (zC y1 _).trans rfl, (zC y2 _).trans rfl, (zC y2 _).trans rfl, (zC y2 _).trans rfl⟩
 have HKX := zB (Wp.refl (fun _ => False) X)
 have HW0 : Hid (∀ W2, Wp (fun _ => False) X W2 → Calls Tryz.prog 60 #[.slice tO m.st.length tc, .int .i64 0] W2 fun e w' => ∃ v', e = .returned v' ∧ w'.ownsRow W2.heap.size 51 3 v' (m.st.length - 0) (vcs (m.st.take (m.st.length - 0))) ∧ Wp (fun _ => False) W2 w') := fun W2 hk => without_v W2 _ m.st 0 ((zA HTX).keepF hk) (by omega) (by omega)
 have H2 := zB hB2
 have q0 := (zC hB1 0).trans rfl
 obtain ⟨st', hst'⟩ : ∃ st', m.st.take (m.st.length - 0) = st' := ⟨_, rfl⟩
 obtain ⟨n', hn'⟩ : ∃ n', m.st.length - 0 = n' := ⟨_, rfl⟩
 have HNL : Hid (st'.length = n') := by show _ = _; rw [← hst', ← hn']; simp
 have hn16 : n' ≤ 1024 := by omega
 rw [hst', hn'] at HW0
 have HST := zB hst'
 obtain ⟨a0, a1, a2, a3, a4, a5, a6⟩ := zA HSK X (Wp.refl _ _)
 clear hB1 hZ hB2 hst' hn'
 go_wp2_with fail
 go_region_held3 (fun w' => w'.cell? ⟨w.heap.size + 1, 0, none⟩ = some (.int .i64 (k : Int)) ∧ w'.cell? ⟨w.heap.size + 1, 1, none⟩ = some (.slice tO m.st.length tc) ∧ w'.cell? ⟨w.heap.size + 1, 2, none⟩ = some (.bool m.here) ∧ w'.cell? ⟨w.heap.size + 1, 3, none⟩ = some (.slice ro m.vals.length rc) ∧ w'.cell? ⟨w1.heap.size, 0, none⟩ = some (.int .i64 z.kind) ∧ w'.cell? ⟨w1.heap.size, 1, none⟩ = some (.int .i64 z.n) ∧ w'.cell? ⟨w1.heap.size, 2, none⟩ = some (str z.s))
  (first | with_reducible exact zA HSK _ (zA HKX).any | with_reducible exact zA HSK _ (zA HKX).drew.any | with_reducible exact zA HSK _ ((zA HKX).alloc _).any | with_reducible exact zA HSK _ ((zA HKX).alloc _).drew.any | with_reducible exact zA HSK _ ((zA HKX).any.trans (Wu _ _ _ _ _ _)))
  ((first
  | (go_at_call 60; with_reducible refine (zA HW0 _ (zA HKX).drew).mono ?_; rintro e w2 ⟨v', rfl, hown, hk⟩; obtain ⟨ao, c, rfl⟩ := Ws.form (zG hown); have HOW := zB (ownsRow_lower hown (Nat.le_of_eq (by simp) : X.heap.size ≤ X.drew.heap.size)); have HKX := zB ((zA HKX).drew.trans hk); clear hk hown)
  | (go_at_call 60; with_reducible refine (zA HW0 _ ((zA HKX).alloc _).drew).mono ?_; rintro e w2 ⟨v', rfl, hown, hk⟩; obtain ⟨ao, c, rfl⟩ := Ws.form (zG hown); have HOW := zB (ownsRow_lower hown (by simp : X.heap.size ≤ (X.alloc (.cells #[.int .i64 z.kind, .int .i64 z.n, str z.s] 51)).drew.heap.size)); have HBQ := zB (zD (heap_alloc_new X (.cells #[.int .i64 z.kind, .int .i64 z.n, str z.s] 51)) ((Wp.refl _ _).drew.trans hk)); have HKX := zB (((zA HKX).alloc (.cells #[.int .i64 z.kind, .int .i64 z.n, str z.s] 51)).drew.trans hk); clear hk hown)
  | (refine step_app1 (by rfl) _ _ (by rfl) X.heap.size ao n' c (vcs st') (by rfl) (zA HOW) X.heap.size z (by rfl) (zA HBQ) hn16 (zA HKX).size ?_; intro g cap w5 how5 hgr5; have HKX := zB ((zA HKX).grown hgr5 (fun q e hq => by have := ((zA HOW).lt q e).1; omega)); have hb5 := zD (zA H2) (zA HKX); have m0 := (zC hb5 0).trans rfl; have m1 := (zC hb5 1).trans rfl; have m2 := (zC hb5 2).trans rfl; have m3 := (zC hb5 3).trans rfl; have z0 := zF hb5 0; have z1 := zF hb5 1; have z2 := zF hb5 2; have z3 := zF hb5 3; have HB5 := zB hb5; have HO5 := zB how5; clear hb5 how5 hgr5)
  | (refine step_app1 (by rfl) _ _ (by rfl) X.heap.size ao n' c (vcs st') (by rfl) ((zA HOW).alloc _) w2.heap.size z (by rfl) (heap_alloc_new w2 _) hn16 (by have := (zA HKX).size; simp; omega) ?_; intro g cap w5 how5 hgr5; have HKX := zB (((zA HKX).alloc _).grown hgr5 (fun q e hq => by have := ((zA HOW).lt q e).1; omega)); have hb5 := zD (zA H2) (zA HKX); have m0 := (zC hb5 0).trans rfl; have m1 := (zC hb5 1).trans rfl; have m2 := (zC hb5 2).trans rfl; have m3 := (zC hb5 3).trans rfl; have z0 := zF hb5 0; have z1 := zF hb5 1; have z2 := zF hb5 2; have z3 := zF hb5 3; have HB5 := zB hb5; have HO5 := zB how5; clear hb5 how5 hgr5)))
 all_goals go_wp2_with fail
 all_goals
  obtain ⟨s0, s1, s2, s3⟩ := set4c (zA HB5) (.int .i64 ((k : Int) + 1)) (.slice (some ⟨g, 0, none⟩) (n' + 1) cap) (.bool m.here) (.slice ro m.vals.length rc)
  refine bodyPost_ret (v := .agg #[.int .i64 ((k : Int) + 1), .slice (some ⟨g, 0, none⟩) (n' + 1) cap, .bool m.here, .slice ro m.vals.length rc]) (by simp [results, go_sem, s0, s1, s2, s3]) rfl ?_
  have k4 := Wu w5 (w.heap.size + 1 + 1) (.int .i64 ((k : Int) + 1)) (.slice (some ⟨g, 0, none⟩) (n' + 1) cap) (.bool m.here) (.slice ro m.vals.length rc)
  have hv5 : Wr w5 (.slice (some ⟨g, 0, none⟩) (n' + 1) cap) (st' ++ [z]) := by
   have h := zG (zA HO5)
   rw [← vcs_snoc] at h
   have e : (st' ++ [z]).length = n' + 1 := by rw [List.length_append, zA HNL]; rfl
   show Ws _ _ _ _
   rw [e]
   exact h
  have e : n' + 1 = (m.st.take (m.st.length - 0) ++ [z]).length := by rw [zA HST, List.length_append, zA HNL]; rfl
  refine ⟨some ⟨g, 0, none⟩, cap, ro, rc, ?_, ?_, ?_, Or.inr (fun q e => Nat.le_trans (zA HWX).size (by have := ((zA HO5).lt g rfl).1; simp [Value.ownBlock] at e; omega)), Or.inl rfl, ?_⟩
  ·show _ = Ending.returned (.agg #[.int .i64 ((k + 1 : Nat) : Int), .slice (some ⟨g, 0, none⟩) (m.st.take (m.st.length - 0) ++ [z]).length cap, .bool m.here, .slice ro m.vals.length rc])
   rw [← e]
   rfl
  ·show Wr _ (.slice (some ⟨g, 0, none⟩) (m.st.take (m.st.length - 0) ++ [z]).length cap) (m.st.take (m.st.length - 0) ++ [z])
   rw [← e, zA HST]
   exact vO hv5 (zA HB5) (off4 (by simp)) k4
  ·exact vO ((zA HRX).keepF (zA HKX)) (zA HB5) (off4 (by simp)) k4
  ·exact ((zA HWX).trans (zA HKX)).fresh (by omega) k4
end Go.Proofs.YtbdlcaamanhapaaGreatDoor
namespace Go.Proofs.YtbdlcaamanhapaaGreatDoor
open Go.RowKit Go.Maps
theorem kb {Y Y1 : World} {b c : Nat} {o : Obj} (h : Y.heap[b]? = some o) (k : Wp (fun q => q = c) Y Y1) (hn : ¬ b = c) : Y1.heap[b]? = some o := (k.block _ (zE h) hn).trans h
theorem stored3 {Y : World} {b : Nat} {c0 c1 c2 : Value} {t : TypeId} (h : Y.heap[b]? = some (.cells #[c0, c1, c2] t (0, 0))) (x : ValA) : ∃ Y1, ((Y.setCell ⟨b, 0, none⟩ (.int .i64 x.kind)).setCell ⟨b, 1, none⟩ (.int .i64 x.n)).setCell ⟨b, 2, none⟩ (str x.s) = Y1 ∧ Y1.heap[b]? = some (.cells #[.int .i64 x.kind, .int .i64 x.n, str x.s] t (0, 0)) ∧ Wp (fun q => q = b) Y Y1 :=
 ⟨_, rfl, zH (o := 2) (zH (o := 1) (zH (o := 0) h _) _) _, zK _ _ _ _ _⟩
end Go.Proofs.YtbdlcaamanhapaaGreatDoor
namespace Go.Proofs.YtbdlcaamanhapaaGreatDoor
open Go.RowKit Go.Maps
set_option maxRecDepth 100000
set_option maxHeartbeats 6000000
theorem stepRB1_v (S : List Wq) (sv lv tv rv : Value) (l : List ValA) (k : Nat) (m : MS) (x : ValA) (z : ValA) (w : World) (hS : Wt w sv S) (hl : Wr w lv l) (hst : Wr w tv m.st) (hr : Wr w rv m.vals) (hx : l[k]? = some x) (hk : k ≤ 1024) (h16 : m.st.length ≤ 16) (tp : ValA) (hN0 : m.st.length = 1) (htp : m.st[0]? = some tp) (hP : ∀ (W : World) (sv rv : Value), Wt W sv S → Wr W rv m.vals → Calls Tryz.prog 59 #[.agg #[sv], x.v, .agg #[.bool m.here, rv]] W fun e w' => e = .returned (.tuple #[zV.v, .bool false]) ∧ Wp (fun _ => False) W w') (hT : ∀ W : World, Calls Tryz.prog 61 #[.int .i64 x.kind, tp.v] W fun e w' => e = .returned (.tuple #[z.v, .bool true]) ∧ Wp (fun _ => False) W w') :
  Calls Tryz.prog 42 #[.agg #[sv], lv, .agg #[.int .i64 (k : Int), tv, .bool m.here, rv]] w fun e w' => StatesTo w tv rv (k + 1) ⟨m.st.take (m.st.length - 1) ++ [z], m.here, m.vals⟩ e w' := by
 obtain ⟨st', hst'⟩ : ∃ st', m.st.take (m.st.length - 1) = st' := ⟨_, rfl⟩
 rw [hst']
 have HW0 : Hid (∀ (W2 : World) (vv : Value), Wr W2 vv m.st → Calls Tryz.prog 60 #[vv, .int .i64 1] W2 fun e w' => ∃ v', e = .returned v' ∧ w'.ownsRow W2.heap.size 51 3 v' st'.length (vcs st') ∧ Wp (fun _ => False) W2 w') := fun W2 vv hvv => by
  have h := without_v W2 vv m.st 1 hvv (by omega) (by omega)
  rw [hst'] at h
  have e : m.st.length - 1 = st'.length := by rw [← hst']; simp
  rw [e] at h
  exact h
 have hn16 : st'.length ≤ 1024 := by rw [← hst']; simp; omega
 clear hst'
 obtain ⟨zz, hzz⟩ : ∃ zz, zV = zz := ⟨_, rfl⟩
 have HZZ := zB hzz
 rw [hzz] at hP
 clear hzz
 obtain ⟨so, sc, rfl⟩ := Ws.form hS
 obtain ⟨tb, tof, tc, e, htb, htc⟩ := hst.cells (by omega)
 subst e
 obtain ⟨ro, rc, rfl⟩ := Ws.form hr
 obtain ⟨lb, lof, lc, e, hlb, hlc⟩ := hl.cells (by have := (List.getElem?_eq_some_iff.1 hx).1; omega)
 subst e
 have hkl : (k : Int) < (l.length : Int) := by have := (List.getElem?_eq_some_iff.1 hx).1; omega
 have hk0 : (0 : Int) ≤ (k : Int) := by omega
 obtain ⟨N, hN⟩ : ∃ N, m.st.length = N := ⟨_, rfl⟩
 have HNN := zB hN
 rw [hN]
 rw [hN] at hst h16 hN0
 obtain ⟨W, hW, hkW, f0, f1, f2⟩ := boxes3 w #[.slice so S.length sc] #[.int .i64 (k : Int), .slice (some ⟨tb, tof, none⟩) N tc, .bool m.here, .slice ro m.vals.length rc] #[.int .i64 0, .slice none 0 0, .bool false, .slice none 0 0] 24 78 78
 have c0 := (hkW.cell hlb id).trans (hlc k x hx).1
 have c1 := (hkW.cell hlb id).trans (hlc k x hx).2.1
 have c2 := (hkW.cell hlb id).trans (hlc k x hx).2.2
 have t0 := (htc 0 tp htp).1
 have t1 := (htc 0 tp htp).2.1
 have t2 := (htc 0 tp htp).2.2
 simp only [Nat.zero_mul, Nat.add_zero] at t0 t1 t2
 obtain ⟨w0, w1, w2, w3⟩ := cl4 f1
 have hsW : W.heap.size = w.heap.size + 1 + 1 + 1 := by rw [← hW]; simp
 have kV := kA W (.cells #[.int .i64 x.kind, .int .i64 x.n, str x.s] 60)
 have g3 := heap_alloc_new W (.cells #[.int .i64 x.kind, .int .i64 x.n, str x.s] 60)
 rw [hsW] at g3
 generalize hV : W.alloc (.cells #[.int .i64 x.kind, .int .i64 x.n, str x.s] 60) = V at *
 have hkV := hkW.trans kV
 have g0 := zD f0 kV
 have g1 := zD f1 kV
 have g2 := zD f2 kV
 have HKV := zB hkV
 have HT : Hid (Wr V (.slice (some ⟨tb, tof, none⟩) N tc) m.st) := hst.keepF hkV
 have HR := zB (hr.keepF hkV)
 have HSV := zB (hS.keepF hkV)
 have p0 := cl1 g0
 obtain ⟨q0, q1, q2, q3⟩ := cl4 g1
 obtain ⟨r0, r1, r2⟩ := cl3 g3
 have htV : tb < V.heap.size := Nat.lt_of_lt_of_le htb hkV.size
 replace t0 := (hkV.cell htb id).trans t0
 replace t1 := (hkV.cell htb id).trans t1
 replace t2 := (hkV.cell htb id).trans t2
 have hsz : w.heap.size + 1 + 1 + 1 < V.heap.size := zE g3
 have hw1 : IntKind.i64.wrap ((k : Int) + 1) = (k : Int) + 1 := wrap_small (by omega) (by omega)
 have HQP := zB (hP V _ _ (zA HSV) (zA HR))
 rw [show x.v = .agg #[.int .i64 x.kind, .int .i64 x.n, str x.s] from rfl, show zz.v = .agg #[.int .i64 zz.kind, .int .i64 zz.n, str zz.s] from rfl] at HQP
 have HQT := zB hT
 rw [show tp.v = .agg #[.int .i64 tp.kind, .int .i64 tp.n, str tp.s] from rfl, show z.v = .agg #[.int .i64 z.kind, .int .i64 z.n, str z.s] from rfl] at HQT
 clear hS hr hl hlc hx hkV f0 f1 f2 kV hkW hP hT hst htc htp hN
 subst hN0
 go_enter Tryz.func42, Tryz.ntmps42
 go_wp2_with fail
 refine (zA HQP).mono ?_
 rintro e w1 ⟨rfl, hk1⟩
 have hs1 : w.heap.size + 1 + 1 + 1 < w1.heap.size := Nat.lt_of_lt_of_le hsz hk1.size
 obtain ⟨Y, hY, kY, y9, y11, y12⟩ := boxes3 w1 #[.int .i64 zz.kind, .int .i64 zz.n, str zz.s] #[.int .i64 0, .int .i64 0, .string ⟨#[]⟩] #[.int .i64 0, .int .i64 0, .string ⟨#[]⟩] 51 51 51
 have kVY := hk1.trans kY
 have B0 := zD g0 kVY
 have B1 := zD g1 kVY
 have B2 := zD g2 kVY
 have B3 := zD g3 kVY
 have hVs : V.heap.size ≤ w1.heap.size := hk1.size
 obtain ⟨ys0, ys1, ys2, ys3⟩ := cl4 B1
 obtain ⟨zf0, zf1, zf2⟩ := fz3 y12
 obtain ⟨zc0, zc1, zc2⟩ := cl3 y12
 have tY0 := (kVY.cell htV id).trans t0
 have tY1 := (kVY.cell htV id).trans t1
 have tY2 := (kVY.cell htV id).trans t2
 obtain ⟨Y1, hY1, y12n, kY1⟩ := stored3 y12 tp
 replace B0 := kb B0 kY1 (by omega)
 replace B1 := kb B1 kY1 (by omega)
 replace B2 := kb B2 kY1 (by omega)
 replace B3 := kb B3 kY1 (by omega)
 replace y9 := kb y9 kY1 (by omega)
 replace y11 := kb y11 kY1 (by omega)
 replace y12 := y12n
 clear y12n
 have kVY1 := kVY.fresh (by omega) kY1
 obtain ⟨ic0, ic1, ic2⟩ := cl3 B3
 obtain ⟨bc0, bc1, bc2⟩ := cl3 y12
 have HKC := zB kVY1
 have E0 := zB B0
 have E1 := zB B1
 have E2 := zB B2
 have E3 := zB B3
 have E9 := zB y9
 have E11 := zB y11
 have E12 := zB y12
 clear B0 B1 B2 B3 y9 y11 y12 hk1 kY kVY HQP g0 g1 g2 g3 kY1 kVY1
 go_wp2_with fail
 refine (zA HQT _).mono ?_
 rintro e w2 ⟨rfl, hk2⟩
 have kV2 := (zA HKC).trans hk2
 have B0 := zD (zA E0) hk2
 have B1 := zD (zA E1) hk2
 have B2 := zD (zA E2) hk2
 have B3 := zD (zA E3) hk2
 have y9 := zD (zA E9) hk2
 have y11 := zD (zA E11) hk2
 have y12 := zD (zA E12) hk2
 obtain ⟨gf0, gf1, gf2⟩ := fz3 y9
 obtain ⟨gc0, gc1, gc2⟩ := cl3 y9
 obtain ⟨X, hX, y9n, kX⟩ := stored3 y9 z
 replace B0 := kb B0 kX (by omega)
 replace B1 := kb B1 kX (by omega)
 replace B2 := kb B2 kX (by omega)
 replace B3 := kb B3 kX (by omega)
 replace y11 := kb y11 kX (by omega)
 replace y12 := kb y12 kX (by omega)
 replace y9 := y9n
 clear y9n
 have kVX := kV2.fresh (by omega) kX
 have HTX := zB ((zA HT).keepF kVX)
 have HRX := zB ((zA HR).keepF kVX)
 have HWX := zB ((zA HKV).trans kVX)
 have HSX := zB ((zA HSV).keepF kVX)
 have HKX := zB (Wp.refl (fun _ => False) X)
 have H2 := zB B2
 have HSK : Hid (∀ w', Wp (fun q => q = w.heap.size + 1 + 1) X w' → w'.cell? ⟨w.heap.size + 1, 0, none⟩ = some (.int .i64 (k : Int)) ∧ w'.cell? ⟨w.heap.size + 1, 1, none⟩ = some (.slice (some ⟨tb, tof, none⟩) 1 tc) ∧ w'.cell? ⟨w.heap.size + 1, 2, none⟩ = some (.bool m.here) ∧ w'.cell? ⟨w.heap.size + 1, 3, none⟩ = some (.slice ro m.vals.length rc) ∧ w'.cell? ⟨w1.heap.size, 0, none⟩ = some (.int .i64 z.kind) ∧ w'.cell? ⟨w1.heap.size, 1, none⟩ = some (.int .i64 z.n) ∧ w'.cell? ⟨w1.heap.size, 2, none⟩ = some (str z.s)) := fun w' hk => by
  have x1 := (hk.block _ (zE B1) (by omega)).trans B1
  have x2 := (hk.block _ (zE y9) (by omega)).trans y9
  exact ⟨(zC x1 _).trans rfl, (zC x1 _).trans rfl, (zC x1 _).trans rfl, (zC x1 _).trans rfl, (zC x2 _).trans rfl, (zC x2 _).trans rfl, (zC x2 _).trans rfl⟩
 obtain ⟨a0, a1, a2, a3, a4, a5, a6⟩ := zA HSK X (Wp.refl _ _)
 clear B0 B1 B2 B3 y9 y11 y12
 go_wp2_with fail
 go_region_held3 (fun w' => w'.cell? ⟨w.heap.size + 1, 0, none⟩ = some (.int .i64 (k : Int)) ∧ w'.cell? ⟨w.heap.size + 1, 1, none⟩ = some (.slice (some ⟨tb, tof, none⟩) 1 tc) ∧ w'.cell? ⟨w.heap.size + 1, 2, none⟩ = some (.bool m.here) ∧ w'.cell? ⟨w.heap.size + 1, 3, none⟩ = some (.slice ro m.vals.length rc) ∧ w'.cell? ⟨w1.heap.size, 0, none⟩ = some (.int .i64 z.kind) ∧ w'.cell? ⟨w1.heap.size, 1, none⟩ = some (.int .i64 z.n) ∧ w'.cell? ⟨w1.heap.size, 2, none⟩ = some (str z.s))
  (first | with_reducible exact zA HSK _ (zA HKX).any | with_reducible exact zA HSK _ (zA HKX).drew.any | with_reducible exact zA HSK _ ((zA HKX).alloc _).any | with_reducible exact zA HSK _ ((zA HKX).alloc _).drew.any | with_reducible exact zA HSK _ ((zA HKX).any.trans (Wu _ _ _ _ _ _)))
  ((first
  | (go_at_call 60; (with_reducible refine (zA HW0 _ _ ((zA HTX).keepF (zA HKX).drew)).mono ?_); rintro e w5 ⟨v', rfl, hown, hk⟩; obtain ⟨ao, c, rfl⟩ := Ws.form (zG hown); have HOW := zB (ownsRow_lower hown (Nat.le_of_eq (by simp) : X.heap.size ≤ X.drew.heap.size)); have HKX := zB ((zA HKX).drew.trans hk); clear hk hown)
  | (go_at_call 60; (with_reducible refine (zA HW0 _ _ ((zA HTX).keepF ((zA HKX).alloc _).drew)).mono ?_); rintro e w5 ⟨v', rfl, hown, hk⟩; obtain ⟨ao, c, rfl⟩ := Ws.form (zG hown); have HOW := zB (ownsRow_lower hown (by simp : X.heap.size ≤ (X.alloc (.cells #[.int .i64 z.kind, .int .i64 z.n, str z.s] 51)).drew.heap.size)); have HBQ := zB (zD (heap_alloc_new X (.cells #[.int .i64 z.kind, .int .i64 z.n, str z.s] 51)) ((Wp.refl _ _).drew.trans hk)); have HKX := zB (((zA HKX).alloc (.cells #[.int .i64 z.kind, .int .i64 z.n, str z.s] 51)).drew.trans hk); clear hk hown)
  | (refine step_app1 (by rfl) _ _ (by rfl) X.heap.size ao st'.length c (vcs st') (by rfl) (zA HOW) X.heap.size z (by rfl) (zA HBQ) hn16 (zA HKX).size ?_; intro g cap w6 how5 hgr5; have HKX := zB ((zA HKX).grown hgr5 (fun q e hq => by have := ((zA HOW).lt q e).1; omega)); have hb5 := zD (zA H2) (zA HKX); obtain ⟨m0, m1, m2, m3⟩ := cl4 hb5; obtain ⟨z0, z1, z2, z3⟩ := fz4 hb5; have HB5 := zB hb5; clear hb5; have HO5 := zB how5; clear how5 hgr5)
  | (refine step_app1 (by rfl) _ _ (by rfl) X.heap.size ao st'.length c (vcs st') (by rfl) ((zA HOW).alloc _) w5.heap.size z (by rfl) (heap_alloc_new w5 _) hn16 (by have := (zA HKX).size; simp; omega) ?_; intro g cap w6 how5 hgr5; have HKX := zB (((zA HKX).alloc _).grown hgr5 (fun q e hq => by have := ((zA HOW).lt q e).1; omega)); have hb5 := zD (zA H2) (zA HKX); obtain ⟨m0, m1, m2, m3⟩ := cl4 hb5; obtain ⟨z0, z1, z2, z3⟩ := fz4 hb5; have HB5 := zB hb5; clear hb5; have HO5 := zB how5; clear how5 hgr5)))
 all_goals go_wp2_with fail
 all_goals
  obtain ⟨s0, s1, s2, s3⟩ := set4c (zA HB5) (.int .i64 ((k : Int) + 1)) (.slice (some ⟨g, 0, none⟩) (st'.length + 1) cap) (.bool m.here) (.slice ro m.vals.length rc)
  refine bodyPost_ret (v := .agg #[.int .i64 ((k : Int) + 1), .slice (some ⟨g, 0, none⟩) (st'.length + 1) cap, .bool m.here, .slice ro m.vals.length rc]) (by simp [results, go_sem, s0, s1, s2, s3]) rfl ?_
  have k4 := Wu w6 (w.heap.size + 1 + 1) (.int .i64 ((k : Int) + 1)) (.slice (some ⟨g, 0, none⟩) (st'.length + 1) cap) (.bool m.here) (.slice ro m.vals.length rc)
  have hv5 : Wr w6 (.slice (some ⟨g, 0, none⟩) (st'.length + 1) cap) (st' ++ [z]) := by
   have h := zG (zA HO5)
   rw [← vcs_snoc] at h
   have e : (st' ++ [z]).length = st'.length + 1 := by simp
   show Ws _ _ _ _
   rw [e]
   exact h
  have e : st'.length + 1 = (st' ++ [z]).length := by simp
  refine ⟨some ⟨g, 0, none⟩, cap, ro, rc, ?_, ?_, ?_, Or.inr (fun q e => Nat.le_trans (zA HWX).size (by have := ((zA HO5).lt g rfl).1; simp [Value.ownBlock] at e; omega)), Or.inl rfl, ?_⟩
  ·show _ = Ending.returned (.agg #[.int .i64 ((k + 1 : Nat) : Int), .slice (some ⟨g, 0, none⟩) (st' ++ [z]).length cap, .bool m.here, .slice ro m.vals.length rc])
   rw [← e]
   rfl
  ·show Wr _ (.slice (some ⟨g, 0, none⟩) (st' ++ [z]).length cap) (st' ++ [z])
   rw [← e]
   exact vO hv5 (zA HB5) (off4 (by simp)) k4
  ·exact vO ((zA HRX).keepF (zA HKX)) (zA HB5) (off4 (by simp)) k4
  ·exact ((zA HWX).trans (zA HKX)).fresh (by omega) k4
end Go.Proofs.YtbdlcaamanhapaaGreatDoor
