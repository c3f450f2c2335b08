import Derived.Test.YtbdlcaamanhapaaGreatDoorJzat
import Derived.Test.YtbdlcaamanhapaaGreatDoorJzas
import Derived.Test.YtbdlcaamanhapaaGreatDoorJzaw
import Derived.Test.YtbdlcaamanhapaaGreatDoorJzaz
import Derived.Test.YtbdlcaamanhapaaGreatDoorJzaq
import Derived.Test.YtbdlcaamanhapaaGreatDoorJzap
import Derived.Test.YtbdlcaamanhapaaGreatDoorJzam
namespace Go.Proofs.YtbdlcaamanhapaaGreatDoor
open Go.RowKit Go.Maps
set_option maxRecDepth 100000
set_option maxHeartbeats 2000000
theorem copyRowR_v (w : World) (hh : Bool) (u : Value) (vals : List ValA) (hr : Wr w u vals) (hl : vals.length ≤ 4398046511104) :
  Calls Tryz.prog 5 #[.agg #[.bool hh, u]] w fun e w' => ∃ ro rc, e = .returned (.agg #[.bool hh, .slice ro vals.length rc]) ∧ w'.ownsRow w.heap.size 51 3 (.slice ro vals.length rc) vals.length (vcs vals) ∧ Wp (fun _ => False) w w' := by
 obtain ⟨uo, uc, rfl⟩ := Ws.form hr
 obtain ⟨W, hW, hkW, g0, g1⟩ := boxes2 w #[.bool hh, .slice uo vals.length uc] #[.bool false, .slice none 0 0] 27 27
 have HCV := zB (fun (W2 : World) (h : Wp (fun _ => False) W W2) => copyVals_any W2 _ vals ((hr.keepF hkW).keepF h) hl)
 have HSK : Hid (∀ w', Wp (fun q => q = w.heap.size + 1) W w' → w'.cell? ⟨w.heap.size, 0, none⟩ = some (.bool hh) ∧ w'.cell? ⟨w.heap.size, 1, none⟩ = some (.slice uo vals.length uc)) := fun w' hk => by
  have x1 := (hk.block _ (zE g0) (by omega)).trans g0
  exact ⟨(zC x1 _).trans rfl, (zC x1 _).trans rfl⟩
 have HKX := zB (Wp.refl (fun _ => False) W)
 have HWX := zB hkW
 have H2 := zB g1
 obtain ⟨a0, a1⟩ := zA HSK W (Wp.refl _ _)
 clear g0 g1 hkW hr
 go_enter Tryz.func5, Tryz.ntmps5
 go_wp2_with fail
 go_region_held3 (fun w' => w'.cell? ⟨w.heap.size, 0, none⟩ = some (.bool hh) ∧ w'.cell? ⟨w.heap.size, 1, none⟩ = some (.slice uo vals.length uc))
  (first | with_reducible exact zA HSK _ (zA HKX).any | with_reducible exact zA HSK _ (zA HKX).drew.any | with_reducible exact zA HSK _ ((zA HKX).any.trans (keeps_set2 _ _ _ _)))
  ((first
  | (go_at_call 14; (with_reducible refine (zA HCV _ (zA HKX).drew).mono ?_); rintro e w3 ⟨v', rfl, hown, hk⟩; obtain ⟨ao, c, rfl⟩ := Ws.form (zG hown); have HOW := zB (ownsRow_lower hown (Nat.le_trans (zA HWX).size (by simp : W.heap.size ≤ W.drew.heap.size))); have HKX := zB ((zA HKX).drew.trans hk); have hb5 := zD (zA H2) (zA HKX); have m0 := (zC hb5 0).trans rfl; have m1 := (zC hb5 1).trans rfl; have z0 := zF hb5 0; have z1 := zF hb5 1; have HB5 := zB hb5; clear hb5 hk hown)))
 all_goals go_wp2_with fail
 all_goals
  obtain ⟨s0, s1⟩ := set2c (zA HB5) (.bool hh) (.slice ao vals.length c)
  refine bodyPost_ret (v := .agg #[.bool hh, .slice ao vals.length c]) (by simp [results, go_sem, s0, s1]) rfl ?_
  have k2 := keeps_set2 w3 (w.heap.size + 1) (.bool hh) (.slice ao vals.length c)
  exact ⟨_, _, rfl, zI (zA HOW) k2 (own_off (zA HOW) (zA HB5) (by decide)), ((zA HWX).trans (zA HKX)).fresh (by omega) k2⟩
end Go.Proofs.YtbdlcaamanhapaaGreatDoor
namespace Go.Proofs.YtbdlcaamanhapaaGreatDoor
open Go.RowKit Go.Maps
def runS (S : List Wq) (l : List ValA) : Nat → Nat → MS → List (Nat × MS)
 | 0, k, m => [(k, m)]
 | f + 1, k, m => match l[k]? with
  | none => [(k, m)]
  | some x => (k, m) :: runS S l f (nextM x k m) (stepM S x m)
theorem runS_step {S : List Wq} {l : List ValA} {f k : Nat} {m : MS} {x : ValA} (hx : l[k]? = some x) : runS S l (f + 1) k m = (k, m) :: runS S l f (nextM x k m) (stepM S x m) := by
 rw [runS, hx]
theorem runS_end {S : List Wq} {l : List ValA} {f k : Nat} {m : MS} (hk : l.length ≤ k) : runS S l f k m = [(k, m)] := by
 cases f with
 | zero => rfl
 | succ f => rw [runS, List.getElem?_eq_none hk]
theorem runS_play (S : List Wq) (l : List ValA) : ∀ (f k : Nat) (m : MS), ∃ (D : List (Nat × MS)) (j : Nat), runS S l f k m = D ++ [(j, (playM S l f k m).2)] ∧ D.map (fun z => (z.1, z.2.st)) = (playM S l f k m).1
 | 0, k, m => ⟨[], k, rfl, rfl⟩
 | f + 1, k, m => by
  cases hx : l[k]? with
  | none =>
   rw [runS_end (List.getElem?_eq_none_iff.1 hx), playM_end (List.getElem?_eq_none_iff.1 hx)]
   exact ⟨[], k, rfl, rfl⟩
  | some x =>
   obtain ⟨D, j, h1, h2⟩ := runS_play S l f (nextM x k m) (stepM S x m)
   rw [runS_step hx, playM_step hx, h1]
   exact ⟨(k, m) :: D, j, rfl, by rw [List.map_cons, h2]⟩
structure StC where
 k : Nat
 tv : Value
 rv : Value
 m : MS
instance : Inhabited StC := ⟨⟨0, .slice none 0 0, .slice none 0 0, ⟨[], false, []⟩⟩⟩
def StC.cs (c : StC) : List Value := [.int .i64 (c.k : Int), c.tv, .bool c.m.here, c.rv]
def StC.pair (c : StC) : Nat × MS := (c.k, c.m)
def fullBlock : Value → Option Nat
 | .slice (some a) (_ + 1) _ => some a.block
 | _ => none
def Apart (o v : Value) : Prop := ∀ q, fullBlock v = some q → o.ownBlock ≠ some q
theorem vals_full {w : World} {v : Value} {l : List ValA} (h : Wr w v l) {q : Nat} (hq : fullBlock v = some q) : q < w.heap.size ∧ v.ownBlock = some q := by
 obtain ⟨ao, c, rfl⟩ := Ws.form h
 cases l with
 | nil => simp [fullBlock] at hq
 | cons x r =>
  obtain ⟨g, off, cap, e, hg, _⟩ := h.cells (by simp)
  simp only [Value.slice.injEq] at e
  obtain ⟨rfl, _, _⟩ := e
  simp only [fullBlock, List.length_cons, Option.some.injEq] at hq
  subst hq
  exact ⟨hg, rfl⟩
theorem vals_kept {F : Nat → Prop} {w w' : World} {v : Value} {l : List ValA} (h : Wr w v l) (hk : Wp F w w') (hF : ∀ q, fullBlock v = some q → ¬ F q) : Wr w' v l := by
 cases l with
 | nil => exact valsAt_nil h
 | cons x r =>
  refine Ws.kept h hk (fun q e hq => hF q ?_ hq)
  obtain ⟨ao, c, rfl⟩ := Ws.form h
  cases ao with
  | none => cases e
  | some a => simp only [Value.ownBlock, Option.some.injEq] at e; rw [← e]; rfl
structure StOK (w : World) (o : Value) (c : StC) : Prop where
 st : Wr w c.tv c.m.st
 row : Wr w c.rv c.m.vals
 nt : Apart o c.tv
 nr : Apart o c.rv
theorem StOK.keepF {w w' : World} {o : Value} {c : StC} (h : StOK w o c) (hk : Wp (fun _ => False) w w') : StOK w' o c := ⟨h.st.keepF hk, h.row.keepF hk, h.nt, h.nr⟩
theorem StOK.box {w w' : World} {o : Value} {c : StC} (h : StOK w o c) {b : Nat} {a : Int} {y z : Value} {hh : Bool} {t : TypeId} {fr : Nat × Nat} (hb : w.heap[b]? = some (.cells #[.int .i64 a, y, .bool hh, z] t fr)) (hy : ∀ n, y ≠ .int .i64 n) (hk : Wp (fun q => q = b) w w') : StOK w' o c :=
 ⟨vO h.st hb (off4 hy) hk, vO h.row hb (off4 hy) hk, h.nt, h.nr⟩
theorem StOK.grown {w w' : World} {o : Value} {g n cap : Nat} {c : StC} (h : StOK w o c) (hg : w.grownBy w' o.ownBlock) (hat : o.ownBlock = some g ∨ g = w.heap.size) : StOK w' (.slice (some ⟨g, 0, none⟩) n cap) c := by
 have hk : Wp (fun q => o.ownBlock = some q) w w' := (Wp.refl _ _).grown hg (fun k e _ => e)
 have ap : ∀ {v : Value} {l : List ValA}, Wr w v l → Apart o v → Apart (.slice (some ⟨g, 0, none⟩) n cap) v := fun {v l} hv ha q hq e => by
  simp only [Value.ownBlock, Option.some.injEq] at e
  subst e
  rcases hat with h1 | h1
  ·exact ha _ hq h1
  ·have := (vals_full hv hq).1; omega
 exact ⟨vals_kept h.st hk (fun q hq e => h.nt q hq e), vals_kept h.row hk (fun q hq e => h.nr q hq e), ap h.st h.nt, ap h.row h.nr⟩
theorem apart_new {w : World} {o v0 v : Value} {B e s n : Nat} {xs : List Value} (ho : w.ownsRow B e s o n xs) (h0 : Apart o v0) (hn : New w v0 v) (hv : ∀ q, fullBlock v = some q → v.ownBlock = some q) : Apart o v := by
 rcases hn with rfl | hn
 ·exact h0
 ·intro q hq e
  have h1 := hn q (hv q hq)
  have h2 := (ho.lt q e).2
  omega
theorem flatC_get {α : Type} (f : α → List Value) (sz : Nat) (hf : ∀ x, (f x).length = sz) : ∀ (C : List α) (i j : Nat) (c : α) (v : Value), C[i]? = some c → (f c)[j]? = some v → (C.flatMap f)[i * sz + j]? = some v
 | [], i, j, c, v, h, _ => by simp at h
 | x :: r, 0, j, c, v, h, hv => by
  simp at h
  subst h
  rw [List.flatMap_cons, Nat.zero_mul, Nat.zero_add, List.getElem?_append_left (List.getElem?_eq_some_iff.1 hv).1]
  exact hv
 | x :: r, i + 1, j, c, v, h, hv => by
  have ih := flatC_get f sz hf r i j c v (by simpa using h) hv
  rw [List.flatMap_cons, List.getElem?_append_right (by rw [hf]; have : (i + 1) * sz = i * sz + sz := Nat.succ_mul i sz; omega), hf, show (i + 1) * sz + j - sz = i * sz + j by have : (i + 1) * sz = i * sz + sz := Nat.succ_mul i sz; omega]
  exact ih
theorem sts_cells {w : World} {v : Value} {C : List StC} (h : Ws w v C.length (C.flatMap StC.cs)) (h0 : 0 < C.length) :
  ∃ b off cap, v = .slice (some ⟨b, off, none⟩) C.length cap ∧ b < w.heap.size ∧ ∀ i c, C[i]? = some c → w.cell? ⟨b, off + i * 4, none⟩ = some (.int .i64 (c.k : Int)) ∧ w.cell? ⟨b, off + i * 4 + 1, none⟩ = some c.tv ∧ w.cell? ⟨b, off + i * 4 + 2, none⟩ = some (.bool c.m.here) ∧ w.cell? ⟨b, off + i * 4 + 3, none⟩ = some c.rv := by
 obtain ⟨b, off, cap, e, hb, hc⟩ := Ws.cells h h0
 refine ⟨b, off, cap, e, hb, fun i c hi => ?_⟩
 have g := fun j x hj => hc _ x (flatC_get StC.cs 4 (fun _ => rfl) C i j c x hi hj)
 have g0 := g 0 _ rfl
 have g1 := g 1 _ rfl
 have g2 := g 2 _ rfl
 have g3 := g 3 _ rfl
 rw [Nat.add_zero] at g0
 rw [← Nat.add_assoc] at g1 g2 g3
 exact ⟨g0, g1, g2, g3⟩
def deepC (C : List StC) : Nat := C.foldl (fun d c => max d c.m.st.length) 0
theorem deepC_snoc (C : List StC) (c : StC) : deepC (C ++ [c]) = max (deepC C) c.m.st.length := by simp [deepC, List.foldl_append]
theorem deepC_map (C : List StC) : ∀ d, C.foldl (fun d c => max d c.m.st.length) d = (C.map StC.pair).foldl (fun d z => max d z.2.st.length) d := by
 induction C with
 | nil => intro d; rfl
 | cons c r ih => intro d; rw [List.map_cons, List.foldl_cons, List.foldl_cons, ih]; rfl
theorem deepM_map (D : List (Nat × MS)) : ∀ d, D.foldl (fun d z => max d z.2.st.length) d = (D.map (fun z => (z.1, z.2.st))).foldl (fun d z => max d z.2.length) d := by
 induction D with
 | nil => intro d; rfl
 | cons c r ih => intro d; rw [List.map_cons, List.foldl_cons, List.foldl_cons, ih]
theorem sts_tell {S : List Wq} {l : List ValA} {m : MS} {C : List StC} (hC : C.map StC.pair = runS S l l.length 0 m) (hst : (playM S l l.length 0 m).2.st = []) :
  C.length = (playM S l l.length 0 m).1.length + 1 ∧ deepC C = deepD (playM S l l.length 0 m).1 ∧ (∃ c, C[C.length - 1]? = some c ∧ c.m = (playM S l l.length 0 m).2) ∧ (∀ (i : Nat) c, C[i]? = some c → i + 1 < C.length → (playM S l l.length 0 m).1[i]? = some (c.k, c.m.st)) := by
 obtain ⟨D, j, h1, h2⟩ := runS_play S l l.length 0 m
 rw [h1] at hC
 have hlen : C.length = D.length + 1 := by have := congrArg List.length hC; simpa using this
 have hD : D.length = (playM S l l.length 0 m).1.length := by rw [← h2]; simp
 refine ⟨by omega, ?_, ?_, ?_⟩
 ·unfold deepC deepD
  rw [deepC_map, hC, List.foldl_append, deepM_map D, h2]
  simp [hst]
 ·obtain ⟨c, hc⟩ : ∃ c, C[C.length - 1]? = some c := ⟨_, List.getElem?_eq_getElem (by omega)⟩
  refine ⟨c, hc, ?_⟩
  have h3 : (C.map StC.pair)[C.length - 1]? = some c.pair := by rw [List.getElem?_map, hc]; rfl
  rw [hC, hlen, Nat.add_sub_cancel, List.getElem?_append_right (Nat.le_refl _), Nat.sub_self] at h3
  simp only [List.getElem?_cons_zero, Option.some.injEq] at h3
  exact (congrArg Prod.snd h3).symm
 ·intro i c hi hlt
  have h3 : (C.map StC.pair)[i]? = some c.pair := by rw [List.getElem?_map, hi]; rfl
  rw [hC, List.getElem?_append_left (by omega)] at h3
  rw [← h2, List.getElem?_map, h3]
  rfl
theorem set4o {w : World} {b : Nat} {c0 c1 c2 c3 : Value} {t : TypeId} (h : w.heap[b]? = some (.cells #[c0, c1, c2, c3] t (0, 0))) : w.frozen? ⟨b, 0, none⟩ = false ∧ w.frozen? ⟨b, 1, none⟩ = false ∧ w.frozen? ⟨b, 2, none⟩ = false ∧ w.frozen? ⟨b, 3, none⟩ = false ∧ w.cell? ⟨b, 0, none⟩ = some c0 ∧ w.cell? ⟨b, 1, none⟩ = some c1 ∧ w.cell? ⟨b, 2, none⟩ = some c2 ∧ w.cell? ⟨b, 3, none⟩ = some c3 :=
 ⟨zF h 0, zF h 1, zF h 2, zF h 3, (zC h _).trans rfl, (zC h _).trans rfl, (zC h _).trans rfl, (zC h _).trans rfl⟩
theorem offO {b : Bool} {y : Value} {c d : Int} (hy : ∀ n, y ≠ .int .i64 n) (i : Nat) (a n : Int) (s : Txt) (h1 : (#[.bool b, y, .int .i64 c, .int .i64 d] : Array Value)[i]? = some (.int .i64 a)) (h2 : (#[.bool b, y, .int .i64 c, .int .i64 d] : Array Value)[i + 1]? = some (.int .i64 n)) (h3 : (#[.bool b, y, .int .i64 c, .int .i64 d] : Array Value)[i + 2]? = some (str s)) : False := by
 rcases i with _ | _ | _ | _ | i
 ·simp at h1
 ·simp at h1; exact hy _ h1
 ·simp at h3
 ·simp at h2
 ·simp at h1
end Go.Proofs.YtbdlcaamanhapaaGreatDoor
namespace Go.Proofs.YtbdlcaamanhapaaGreatDoor
open Go.RowKit Go.Maps
set_option maxRecDepth 100000
set_option maxHeartbeats 8000000
theorem Tryz.info78 : (Tryz.prog.info? 78).map (fun i => (i.zero, i.size, i.bytes)) = some (some (.agg #[.int .i64 0, .slice none 0 0, .bool false, .slice none 0 0]), 4, 64) := by kernel_rfl
theorem stored4 {Y : World} {b : Nat} {c0 c1 c2 c3 : Value} {t : TypeId} (h : Y.heap[b]? = some (.cells #[c0, c1, c2, c3] t (0, 0))) (x y z u : Value) : ∃ Y1, (((Y.setCell ⟨b, 0, none⟩ x).setCell ⟨b, 1, none⟩ y).setCell ⟨b, 2, none⟩ z).setCell ⟨b, 3, none⟩ u = Y1 ∧ Y1.heap[b]? = some (.cells #[x, y, z, u] t (0, 0)) ∧ Wp (fun q => q = b) Y Y1 :=
 ⟨_, rfl, zH (o := 3) (zH (o := 2) (zH (o := 1) (zH (o := 0) h _) _) _) _, Wu _ _ _ _ _ _⟩
def StsTo (w : World) (R : List (Nat × MS)) (e : Ending) (w' : World) : Prop :=
 ∃ (v : Value) (C : List StC), e = .returned v ∧ Ws w' v C.length (C.flatMap StC.cs) ∧ (∀ c ∈ C, (Wr w' c.tv c.m.st ∧ Wr w' c.rv c.m.vals) ∧ ∀ q, fullBlock c.rv = some q → w.heap.size ≤ q) ∧ C.map StC.pair = R ∧ Wp (fun _ => False) w w'
theorem cs_snoc (C : List StC) (c : StC) : (C ++ [c]).flatMap StC.cs = C.flatMap StC.cs ++ c.cs := by simp
theorem stcs_one {o1 o2 : Option Addr} {k : Int} {n1 c1 n2 c2 : Nat} {b : Bool} : ∀ u ∈ [Value.int .i64 k, .slice o1 n1 c1, .bool b, .slice o2 n2 c2], u.oneCell' = true := by
 intro u hu
 simp only [List.mem_cons, List.not_mem_nil, or_false] at hu
 rcases hu with rfl | rfl | rfl | rfl <;> rfl
theorem statesR_v (S : List Wq) (sv lv rv : Value) (l : List ValA) (hh : Bool) (vals : List ValA) (hv : List (Bool × List Int)) (w : World) (hS : Wt w sv S) (hl : Wr w lv l) (hr : Wr w rv vals) (hsch : errS S = 0) (hL : l.length ≤ 96) (hF : ∀ i ∈ l, formB i = 0 ∧ rightF S i = true) (hJ : ∀ k i, l[k]? = some i → (opA i.kind).opd = 6 → k + 1 + i.n.toNat ≤ l.length) (hH : HvOK S l hv) (hM : TyM S ⟨[], hh, vals⟩ []) :
  Calls Tryz.prog 26 #[.agg #[sv], lv, .agg #[.bool hh, rv]] w fun e w' => StsTo w (runS S l l.length 0 ⟨[], hh, vals⟩) e w' := by
 obtain ⟨i0, hi, hz0, hz1, hz2⟩ := info_parts Tryz.info78
 obtain ⟨so, sc, rfl⟩ := Ws.form hS
 obtain ⟨lo, lc, rfl⟩ := Ws.form hl
 obtain ⟨uo, uc, rfl⟩ := Ws.form hr
 have hvl : vals.length ≤ 1024 := by have := rowOK_len hsch hM.row; simp only at this; omega
 obtain ⟨W, hW, hkW, g0, g1⟩ := boxes2 w #[.slice so S.length sc] #[.bool hh, .slice uo vals.length uc] 24 27
 have HCR := zB (copyRowR_v W hh _ vals (hr.keepF hkW) (by omega))
 have HSK := zB (schema_isK hsch)
 obtain ⟨RR, HRR⟩ : ∃ RR, Hid (runS S l l.length 0 ⟨[], hh, vals⟩ = RR) := ⟨_, rfl⟩
 rw [zA HRR]
 have HF := zB hF
 have HJ := zB hJ
 have HH := zB hH
 have HMT := zB hM
 have HS := zB hS
 have HL := zB hl
 have HKW := zB hkW
 have G0 := zB g0
 obtain ⟨r0, r1⟩ := cl2 g1
 clear hS hl hr hF hJ hH hM hkW g0 g1
 go_enter Tryz.func26, Tryz.ntmps26
 go_wp2_with fail
 refine (zA HCR).mono ?_
 rintro e w1 ⟨ro, rc, rfl, hown, hk1⟩
 obtain ⟨Y, hY, kY, gx, gl⟩ := boxes2 w1 #[.int .i64 0, .slice none 0 0, .bool hh, .slice ro vals.length rc] #[.int .i64 0, .slice none 0 0, .bool hh, .slice ro vals.length rc] 78 78
 have hs1 : w.heap.size + 1 < w1.heap.size := by
  have h1 := (zA HKW).size
  have h2 := hk1.size
  have h3 : W.heap.size = w.heap.size + 1 + 1 := by rw [← hW]; simp
  omega
 have HKY := zB (((zA HKW).trans hk1).trans kY)
 have GY := zB (zD (zD (zA G0) hk1) kY)
 have HGX := zB gx
 have HOY : Hid (Y.ownsRow w.heap.size 78 4 (.slice (some ⟨w1.heap.size + 1, 0, none⟩) 1 1) 1 [.int .i64 0, .slice none 0 0, .bool hh, .slice ro vals.length rc]) := ⟨rfl, Or.inr ⟨w1.heap.size + 1, 1, _, rfl, by omega, gl, Nat.le_refl _, by unfold maxLen; omega, rfl, rfl⟩⟩
 have HOK0 : Hid (StOK Y (.slice (some ⟨w1.heap.size + 1, 0, none⟩) 1 1) ⟨0, .slice none 0 0, .slice ro vals.length rc, ⟨[], hh, vals⟩⟩) := by
  refine ⟨nil_vals _, (zG hown).keepF kY, fun q hq => (by cases hq), fun q hq e => ?_⟩
  have hv0 : Wr w1 (.slice ro vals.length rc) vals := zG hown
  have h1 := (vals_full hv0 hq).1
  simp only [Value.ownBlock, Option.some.injEq] at e
  omega
 have HN0 : Hid (∀ q, fullBlock (.slice ro vals.length rc) = some q → w.heap.size ≤ q) := fun q hq => by
  have h2 := (vals_full (zG hown) hq).2
  have h3 := (hown.lt q h2).1
  have := (zA HKW).size
  omega
 clear HCR hown hk1 kY gx gl
 go_wp2_with fail
 go_loopw [8, 9] (fun o i wr => ∃ (n : Nat) (pre : List StC) (c : StC) (ts : List Int), n ≤ c.k ∧ c.k ≤ l.length ∧ i = .int .i64 (n : Int) ∧ pre.length ≤ n ∧ Hid (hv[c.k]? = some (true, ts)) ∧ Hid (TyM S c.m ts) ∧ Hid (wr.ownsRow w.heap.size 78 4 o (pre.length + 1) ((pre ++ [c]).flatMap StC.cs)) ∧ Hid (∀ d ∈ pre ++ [c], StOK wr o d) ∧ Hid (∀ d ∈ pre ++ [c], ∀ q, fullBlock d.rv = some q → w.heap.size ≤ q) ∧ Hid (¬ o.ownBlock = some (w1.heap.size)) ∧ Hid (wr.heap[w1.heap.size]? = some (.cells #[.int .i64 (c.k : Int), c.tv, .bool c.m.here, c.rv] 78 (0, 0))) ∧ Hid (wr.heap[w.heap.size]? = some (.cells #[.slice so S.length sc] 24 (0, 0))) ∧ Hid (pre.map StC.pair ++ runS S l (l.length - n) c.k c.m = RR) ∧ Hid (Wp (fun _ => False) w wr)) (fun _ i _ => l.length - (intOf i).toNat)
 case atStart =>
  refine ⟨0, [], ⟨0, .slice none 0 0, .slice ro vals.length rc, ⟨[], hh, vals⟩⟩, [], Nat.le_refl _, Nat.zero_le _, rfl, Nat.le_refl _, pullA_first (zA HH), zA HMT, zA HOY, fun d hd => ?_, fun d hd => ?_, ?_, zA HGX, zA GY, zA HRR, zA HKY⟩
  ·simp only [List.nil_append, List.mem_singleton] at hd
   subst hd
   exact zA HOK0
  ·simp only [List.nil_append, List.mem_singleton] at hd
   subst hd
   exact zA HN0
  ·intro q
   simp only [Value.ownBlock, Option.some.injEq] at q
   omega
 case round =>
  obtain ⟨n, pre, c, ts, h1, h2, rfl, h3, HHV, HTY, HOW, HOK, HNW, HOB, HBX, HB0, HRU, HKP⟩ := hrel
  have okc := (zA HOK) c (by simp)
  have h16 : c.m.st.length ≤ 16 := by
   have := ((zA HH).small c.k _ (zA HHV)).1
   rw [← (zA HTY).ty] at this
   simpa using this
  obtain ⟨ck, ctv, crv, cm⟩ := c
  obtain ⟨tO, tc, e1⟩ := Ws.form okc.st
  obtain ⟨qo, qc, e2⟩ := Ws.form okc.row
  simp only at *
  subst e1
  subst e2
  have x0 : wr.cell? ⟨w1.heap.size, 0, none⟩ = some (.int .i64 (ck : Int)) := (zC (zA HBX) _).trans rfl
  have x1 : wr.cell? ⟨w1.heap.size, 1, none⟩ = some (.slice tO cm.st.length tc) := (zC (zA HBX) _).trans rfl
  have x2 : wr.cell? ⟨w1.heap.size, 2, none⟩ = some (.bool cm.here) := (zC (zA HBX) _).trans rfl
  have x3 : wr.cell? ⟨w1.heap.size, 3, none⟩ = some (.slice qo cm.vals.length qc) := (zC (zA HBX) _).trans rfl
  have y0 : wr.cell? ⟨w.heap.size, 0, none⟩ = some (.slice so S.length sc) := (zC (zA HB0) _).trans rfl
  have i0' : (0 : Int) ≤ (n : Int) := by omega
  by_cases hlt : ck < l.length
  ·obtain ⟨x, ts', hx, hb⟩ := (zA HH).beh ck ts hlt (zA HHV)
   obtain ⟨hff, hrr⟩ := (zA HF) x (List.mem_of_getElem? hx)
   obtain ⟨n1, n2, n3⟩ := next_ok (m := cm) (zA HH) (zA HJ) hx (zA HHV) hb
   have HST := zB (stepR_v S _ _ _ _ l ck cm x wr ((zA HS).keepF (zA HKP)) ((zA HL).keepF (zA HKP)) okc.st okc.row hx (by omega) h16 ts ts' hsch hff hrr (zA HTY) hb)
   have HTN := zB (step_ty (zA HSK) hff hrr (zA HTY) hb)
   have HN3 := zB n3
   have HRN : Hid ((pre ++ [⟨ck, .slice tO cm.st.length tc, .slice qo cm.vals.length qc, cm⟩] : List StC).map StC.pair ++ runS S l (l.length - (n + 1)) (nextM x ck cm) (stepM S x cm) = RR) := by
    show _ = _
    rw [← zA HRU, show l.length - n = l.length - (n + 1) + 1 by omega, runS_step hx]
    simp [StC.pair]
   generalize nextM x ck cm = nk at *
   generalize stepM S x cm = nm at *
   have i1 : (n : Int) < (l.length : Int) := by omega
   have i2 : (ck : Int) < (l.length : Int) := by omega
   have HNT := zB okc.nt
   have HNR := zB okc.nr
   clear hx hb hff hrr n3 HHV HTY HRU okc
   go_wp2_with fail
   refine (zA HST).mono ?_
   rintro e w2 ⟨to', tc', ro', rc', rfl, hv1, hv2, hn1, hn2, hk2⟩
   have hbx2 := zD (zA HBX) hk2
   have hb02 := zD (zA HB0) hk2
   have how2 := zI (zA HOW) hk2 (fun _ _ => id)
   have c0 : w2.cell? ⟨w1.heap.size, 0, none⟩ = some (.int .i64 (ck : Int)) := (zC hbx2 _).trans rfl
   have c1 : w2.cell? ⟨w1.heap.size, 1, none⟩ = some (.slice tO cm.st.length tc) := (zC hbx2 _).trans rfl
   have c2 : w2.cell? ⟨w1.heap.size, 2, none⟩ = some (.bool cm.here) := (zC hbx2 _).trans rfl
   have c3 : w2.cell? ⟨w1.heap.size, 3, none⟩ = some (.slice qo cm.vals.length qc) := (zC hbx2 _).trans rfl
   have f0 := zF hbx2 0
   have f1 := zF hbx2 1
   have f2 := zF hbx2 2
   have f3 := zF hbx2 3
   obtain ⟨Y1, hY1, hbx3, k3⟩ := stored4 hbx2 (.int .i64 (nk : Int)) (.slice to' nm.st.length tc') (.bool nm.here) (.slice ro' nm.vals.length rc')
   have d0 : Y1.cell? ⟨w1.heap.size, 0, none⟩ = some (.int .i64 (nk : Int)) := (zC hbx3 _).trans rfl
   have d1 : Y1.cell? ⟨w1.heap.size, 1, none⟩ = some (.slice to' nm.st.length tc') := (zC hbx3 _).trans rfl
   have d2 : Y1.cell? ⟨w1.heap.size, 2, none⟩ = some (.bool nm.here) := (zC hbx3 _).trans rfl
   have d3 : Y1.cell? ⟨w1.heap.size, 3, none⟩ = some (.slice ro' nm.vals.length rc') := (zC hbx3 _).trans rfl
   have hlt1 : w.heap.size < w2.heap.size := zE hb02
   have how3 := zI how2 k3 (fun q e hq => zA HOB (hq ▸ e))
   have HO3 := zB how3
   have hlt3 : w.heap.size < Y1.heap.size := Nat.lt_of_lt_of_le hlt1 k3.size
   have HB3 := zB ((k3.block _ hlt1 (by omega)).trans hb02)
   have HX3 := zB hbx3
   have HK3 := zB (((zA HKP).trans hk2).fresh (by omega) k3)
   have HOK3 : Hid (∀ d ∈ pre ++ [(⟨ck, .slice tO cm.st.length tc, .slice qo cm.vals.length qc, cm⟩ : StC)], StOK Y1 u8 d) := fun d hd => (((zA HOK) d hd).keepF hk2).box hbx2 (by simp) k3
   have HNEW : Hid (StOK Y1 u8 (⟨nk, .slice to' nm.st.length tc', .slice ro' nm.vals.length rc', nm⟩ : StC)) := ⟨vO hv1 hbx2 (off4 (by simp)) k3, vO hv2 hbx2 (off4 (by simp)) k3, apart_new (zA HOW) (zA HNT) hn1 (fun q hq => (vals_full hv1 hq).2), apart_new (zA HOW) (zA HNR) hn2 (fun q hq => (vals_full hv2 hq).2)⟩
   have HNN : Hid (∀ q, fullBlock (.slice ro' nm.vals.length rc') = some q → w.heap.size ≤ q) := fun q hq => by
    rcases hn2 with h | h
    ·rw [h] at hq
     exact zA HNW _ (List.mem_append_right _ (List.mem_singleton.2 rfl)) q hq
    ·have h1 := h q (vals_full hv2 hq).2
     have := (zA HKP).size
     omega
   have hbxs : w1.heap.size < Y1.heap.size := zE hbx3
   have hpn : pre.length ≤ 96 := by omega
   clear hv1 hv2 hn1 hn2 hk2 hbx2 hb02 how2 how3 hbx3 k3 HST HOK HOW HNT HNR HBX HB0 HKP x0 x1 x2 x3 y0
   go_wp2_with (at_builtin; refine wpList_append_lies _ rfl _ _ _ rfl w.heap.size 78 i0 _ 4 64 Tryz.underlying75 hi hz0 hz1 hz2 rfl (by omega) u8 (pre.length + 1) ((pre ++ [(⟨ck, .slice tO cm.st.length tc, .slice qo cm.vals.length qc, cm⟩ : StC)]).flatMap StC.cs) rfl ((zA HO3).alloc _) ⟨Y1.heap.size, 0, none⟩ 1 1 [.int .i64 (nk : Int), .slice to' nm.st.length tc', .bool nm.here, .slice ro' nm.vals.length rc'] rfl rfl (World.news_of_block (cs := #[.int .i64 (nk : Int), .slice to' nm.st.length tc', .bool nm.here, .slice ro' nm.vals.length rc']) (t := 78) (fr := (0, 0)) (heap_alloc_new Y1 _)) stcs_one (by omega) (by unfold maxLen; omega) (by omega) (by have := (zA HK3).size; simp; omega) (Y1.heap.size + 1) (by simp) ?_; intro g cap w5 hown5 hgr5 hat5 hlt5)
   go_roundw
   case rel =>
    have hob : ¬ (Value.slice (some ⟨g, 0, none⟩) (pre.length + 1 + 1) cap).ownBlock = some (w1.heap.size) := fun e => by
     simp only [Value.ownBlock, Option.some.injEq] at e
     subst e
     rcases hat5 with h | h
     ·exact zA HOB h
     ·omega
    have k5 := kA Y1 (.cells #[.int .i64 (nk : Int), .slice to' nm.st.length tc', .bool nm.here, .slice ro' nm.vals.length rc'] 78)
    have h0b : ¬ u8.ownBlock = some (w.heap.size) := fun e => by have := ((zA HO3).lt _ e).1; exact own_off (zA HO3) (zA HB3) (by decide) _ e rfl
    refine ⟨n + 1, pre ++ [⟨ck, .slice tO cm.st.length tc, .slice qo cm.vals.length qc, cm⟩], ⟨nk, .slice to' nm.st.length tc', .slice ro' nm.vals.length rc', nm⟩, ts', by simp only; omega, n2, by go_num, by simp; omega, HN3, HTN, ?_, ?_, fun d hd => ?_, hob, ?_, ?_, HRN, ?_⟩
    ·show World.ownsRow _ _ _ _ _ _ _
     rw [cs_snoc, show (pre ++ [(⟨ck, .slice tO cm.st.length tc, .slice qo cm.vals.length qc, cm⟩ : StC)]).length = pre.length + 1 by simp]
     exact hown5
    ·intro d hd
     rcases List.mem_append.1 hd with hd | hd
     ·exact (((zA HOK3) d hd).keepF k5).grown hgr5 (by simpa using hat5)
     ·rcases List.mem_singleton.1 hd with rfl
      exact ((zA HNEW).keepF k5).grown hgr5 (by simpa using hat5)
    ·rcases List.mem_append.1 hd with hd | hd
     ·exact zA HNW d hd
     ·rcases List.mem_singleton.1 hd with rfl
      exact zA HNN
    ·exact (hgr5.block _ (by simp; omega) (Ne.symm (zA HOB))).trans (zD (zA HX3) k5)
    ·exact (hgr5.block _ (by simp; omega) (Ne.symm h0b)).trans (zD (zA HB3) k5)
    ·exact ((zA HK3).alloc _).grown hgr5 (fun q e hq => by have := ((zA HO3).lt q e).1; omega)
   case measure => simp [intOf]; omega
  ·have hce : ck = l.length := by omega
   have HEND : Hid ((pre ++ [(⟨ck, .slice tO cm.st.length tc, .slice qo cm.vals.length qc, cm⟩ : StC)]).map StC.pair = RR) := by
    show _ = _
    rw [← zA HRU, runS_end (by omega)]
    simp [StC.pair]
   have HROW : Hid (Ws wr u8 (pre ++ [(⟨ck, .slice tO cm.st.length tc, .slice qo cm.vals.length qc, cm⟩ : StC)]).length ((pre ++ [(⟨ck, .slice tO cm.st.length tc, .slice qo cm.vals.length qc, cm⟩ : StC)]).flatMap StC.cs)) := by
    have h := zG (zA HOW)
    show Ws _ _ _ _
    rw [show (pre ++ [(⟨ck, .slice tO cm.st.length tc, .slice qo cm.vals.length qc, cm⟩ : StC)]).length = pre.length + 1 by simp]
    exact h
   have HALL : Hid (∀ c ∈ pre ++ [(⟨ck, .slice tO cm.st.length tc, .slice qo cm.vals.length qc, cm⟩ : StC)], (Wr wr c.tv c.m.st ∧ Wr wr c.rv c.m.vals) ∧ ∀ q, fullBlock c.rv = some q → w.heap.size ≤ q) := fun c hc => ⟨⟨((zA HOK) c hc).st, ((zA HOK) c hc).row⟩, zA HNW c hc⟩
   have i2 : ¬ (ck : Int) < (l.length : Int) := by omega
   clear HOK HOW HHV HTY HRU okc hce
   by_cases hn : n < l.length
   ·have i1 : (n : Int) < (l.length : Int) := by omega
    go_wp2_with fail
    go_ret
    exact ⟨_, _, rfl, zA HROW, zA HALL, zA HEND, zA HKP⟩
   ·have i1 : ¬ (n : Int) < (l.length : Int) := by omega
    go_wp2_with fail
    go_ret
    exact ⟨_, _, rfl, zA HROW, zA HALL, zA HEND, zA HKP⟩
set_option maxHeartbeats 2000000
theorem checkRowR_v (S : List Wq) (sv u : Value) (hh : Bool) (vals : List ValA) (w : World) (hS : Wt w sv S) (hr : Wr w u vals) :
  Calls Tryz.prog 41 #[.agg #[sv], .agg #[.bool hh, u]] w fun e w' => e = .returned (.int .i64 (if errS S ≠ 0 then errS S else rowE S hh vals)) ∧ Wp (fun _ => False) w w' := by
 obtain ⟨so, sc, rfl⟩ := Ws.form hS
 obtain ⟨uo, uc, rfl⟩ := Ws.form hr
 obtain ⟨W, hW, hkW, g0, g1⟩ := boxes2 w #[.slice so S.length sc] #[.bool hh, .slice uo vals.length uc] 24 27
 have p0 := cl1 g0
 have HQ := zB (checkSchema_any S _ W (hS.keepF hkW))
 have HC := zB (fun (W2 : World) (h : Wp (fun _ => False) W W2) => check_any S _ vals _ W2 ((hS.keepF hkW).keepF h) ((hr.keepF hkW).keepF h))
 obtain ⟨RES, HRES⟩ : ∃ RES, Hid ((if errS S ≠ 0 then errS S else rowE S hh vals) = RES) := ⟨_, rfl⟩
 rw [zA HRES]
 have HE : Hid (rowE S hh vals = if hh then errR S vals else if vals = [] then 0 else 61) := rfl
 generalize rowE S hh vals = RO at *
 generalize errR S vals = ER at *
 generalize errS S = ES at *
 have HV0 : Hid (vals = [] ↔ vals.length = 0) := List.length_eq_zero_iff.symm
 have HKW := zB hkW
 have G0 := zB g0
 have G1 := zB g1
 clear g0 g1 hkW hS hr
 go_enter Tryz.func41, Tryz.ntmps41
 go_wp2_with fail
 refine (zA HQ).mono ?_
 rintro e w1 ⟨rfl, hk1⟩
 have h0 := zD (zA G0) hk1
 have h1 := zD (zA G1) hk1
 have a0 := cl1 h0
 obtain ⟨c0, c1⟩ := cl2 h1
 have HK1 := zB ((zA HKW).trans hk1)
 have HKX := zB hk1
 clear hk1 h0 h1 HQ
 by_cases hes : ES = 0
 ·subst hes
  rw [if_neg (by simp)] at HRES
  cases hh with
  | false =>
   rw [if_neg (by decide)] at HE
   by_cases hv : vals = []
   ·have hlen : vals.length = 0 := (zA HV0).1 hv
    have i1 : ¬ (0 : Int) < (vals.length : Int) := by omega
    have HZ : Hid (RES = 0) := by show _ = _; rw [← zA HRES, zA HE, if_pos hv]
    clear HE HRES HV0 hv hlen HC
    go_wp2_with fail
    go_ret
    exact ⟨ret_int (zA HZ).symm, zA HK1⟩
   ·have hlen : ¬ vals.length = 0 := fun q => hv ((zA HV0).2 q)
    have i1 : (0 : Int) < (vals.length : Int) := by omega
    have i2 : 0 < vals.length := by omega
    have HZ : Hid (RES = 61) := by show _ = _; rw [← zA HRES, zA HE, if_neg hv]
    clear HE HRES HV0 hv hlen HC
    go_wp2_with fail
    go_ret
    exact ⟨ret_int (zA HZ).symm, zA HK1⟩
  | true =>
   rw [if_pos rfl] at HE
   have HZ : Hid (RES = ER) := by show _ = _; rw [← zA HRES, zA HE]
   have HQ2 := zB ((zA HC) w1 (zA HKX))
   clear HE HRES HV0 HC
   go_wp2_with fail
   refine (zA HQ2).mono ?_
   rintro e w2 ⟨rfl, hk2⟩
   go_wp2_with fail
   go_ret
   exact ⟨ret_int (zA HZ).symm, (zA HK1).trans hk2⟩
 ·rw [if_pos hes] at HRES
  have hes' : (ES == 0) = false := by simpa using hes
  have hes2 : (ES != 0) = true := by simpa using hes
  clear HC HE HV0
  go_wp2_with fail
  go_ret
  exact ⟨ret_int (zA HRES), zA HK1⟩
theorem checkR_v (S : List Wq) (sv u v : Value) (l : List ValA) (hh : Bool) (vals : List ValA) (w : World) (hS : Wt w sv S) (hl : Wr w v l) (hI : InR l) (hr : Wr w u vals) :
  Calls Tryz.prog 25 #[.agg #[sv], v, .agg #[.bool hh, u]] w fun e w' => e = .returned (.int .i64 (if (verifyA S l).2.2 ≠ 0 then (verifyA S l).2.2 else rowE S hh vals)) ∧ Wp (fun _ => False) w w' := by
 obtain ⟨so, sc, rfl⟩ := Ws.form hS
 obtain ⟨lo, lc, rfl⟩ := Ws.form hl
 obtain ⟨uo, uc, rfl⟩ := Ws.form hr
 obtain ⟨W, hW, hkW, g0, g1⟩ := boxes2 w #[.slice so S.length sc] #[.bool hh, .slice uo vals.length uc] 24 27
 have p0 := cl1 g0
 have HQ := zB (refVerify_v S so sc l _ W (hS.keepF hkW) (hl.keepF hkW) hI)
 rw [← verify_ref] at HQ
 have HC := zB (fun (W2 : World) (h : Wp (fun _ => False) W W2) => checkRowR_v S _ _ hh vals W2 ((hS.keepF hkW).keepF h) ((hr.keepF hkW).keepF h))
 have HES : Hid ((verifyA S l).2.2 = 0 → errS S = 0) := ver_schema
 obtain ⟨RES, HRES⟩ : ∃ RES, Hid ((if (verifyA S l).2.2 ≠ 0 then (verifyA S l).2.2 else rowE S hh vals) = RES) := ⟨_, rfl⟩
 rw [zA HRES]
 obtain ⟨CR, HCR⟩ : ∃ CR, Hid ((if errS S ≠ 0 then errS S else rowE S hh vals) = CR) := ⟨_, rfl⟩
 simp only [zA HCR] at HC
 generalize (verifyA S l).2.2 = V at *
 generalize (verifyA S l).1 = V1 at *
 generalize (verifyA S l).2.1 = V2 at *
 have HKW := zB hkW
 have G0 := zB g0
 have G1 := zB g1
 clear g0 g1 hkW hS hr hl
 go_enter Tryz.func25, Tryz.ntmps25
 go_wp2_with fail
 refine (zA HQ).mono ?_
 rintro e w1 ⟨rfl, hk1⟩
 have h0 := zD (zA G0) hk1
 have h1 := zD (zA G1) hk1
 have a0 := cl1 h0
 obtain ⟨c0, c1⟩ := cl2 h1
 have HK1 := zB ((zA HKW).trans hk1)
 have HQ2 := zB ((zA HC) w1 hk1)
 clear hk1 h0 h1 HQ HC
 by_cases hV : V = 0
 ·have hs := (zA HES) hV
  have HZ : Hid (CR = RES) := by show _ = _; rw [← zA HRES, ← zA HCR, hs, hV]
  clear HRES HCR HES hs
  subst hV
  go_wp2_with fail
  refine (zA HQ2).mono ?_
  rintro e w2 ⟨rfl, hk2⟩
  go_wp2_with fail
  go_ret
  exact ⟨ret_int (zA HZ), (zA HK1).trans hk2⟩
 ·rw [if_pos hV] at HRES
  have hV' : (V == 0) = false := by simpa using hV
  have hV2 : (V != 0) = true := by simpa using hV
  clear HQ2 HES HCR
  go_wp2_with fail
  go_ret
  exact ⟨ret_int (zA HRES), zA HK1⟩
set_option maxHeartbeats 6000000
theorem runR_v (S : List Wq) (sv u v : Value) (l : List ValA) (hh : Bool) (vals : List ValA) (w : World) (hS : Wt w sv S) (hl : Wr w v l) (hI : InR l) (hr : Wr w u vals) :
  Calls Tryz.prog 9 #[.agg #[sv], v, .agg #[.bool hh, u]] w fun e w' => ∃ ro rc, e = .returned (.tuple #[.agg #[.bool (runO S l hh vals).here, .slice ro (runO S l hh vals).vals.length rc, .int .i64 ((runO S l hh vals).steps : Int), .int .i64 ((runO S l hh vals).deep : Int)], .int .i64 (runO S l hh vals).e]) ∧ Wr w' (.slice ro (runO S l hh vals).vals.length rc) (runO S l hh vals).vals ∧ (∀ q, fullBlock (.slice ro (runO S l hh vals).vals.length rc) = some q → w.heap.size ≤ q) ∧ Wp (fun _ => False) w w' := by
 obtain ⟨so, sc, rfl⟩ := Ws.form hS
 obtain ⟨lo, lc, rfl⟩ := Ws.form hl
 obtain ⟨uo, uc, rfl⟩ := Ws.form hr
 obtain ⟨W, hW, hkW, g0, g1, g2⟩ := boxes3 w #[.slice so S.length sc] #[.bool hh, .slice uo vals.length uc] #[.bool false, .slice none 0 0, .int .i64 0, .int .i64 0] 24 27 38
 have p0 := cl1 g0
 obtain ⟨r0, r1⟩ := cl2 g1
 have HQ := zB (checkR_v S _ _ _ l hh vals W (hS.keepF hkW) (hl.keepF hkW) hI (hr.keepF hkW))
 have HKW := zB hkW
 have G0 := zB g0
 have G1 := zB g1
 have G2 := zB g2
 by_cases hok : (verifyA S l).2.2 = 0 ∧ rowE S hh vals = 0
 ·obtain ⟨hV, hR⟩ := hok
  obtain ⟨ps, _, _, l96, _, _, _, _, _, hst0, _, hJ⟩ := run_bounds hV hR
  have hTy : TyM S ⟨[], hh, vals⟩ [] := ⟨rfl, fun v hv => by simp at hv, rowE_ok hR⟩
  have hs := ver_schema hV
  have h' : (lookA S l).2.2 = 0 := hV
  obtain ⟨hv, hH, hF⟩ : ∃ hv, HvOK S l hv ∧ ∀ i ∈ l, formB i = 0 ∧ rightF S i = true := by
   rcases look_tells S l with ⟨_, _, q, r⟩ | ⟨ps, qa, _, ok, ln, l96, hSK, hF, hT⟩
   ·rw [q] at h'; exact absurd h' r
   ·exact ⟨_, ok, hF⟩
  have hro : runO S l hh vals = ⟨0, (playM S l l.length 0 ⟨[], hh, vals⟩).2.here, (playM S l l.length 0 ⟨[], hh, vals⟩).2.vals, (playM S l l.length 0 ⟨[], hh, vals⟩).1.length, deepD (playM S l l.length 0 ⟨[], hh, vals⟩).1⟩ := by
   unfold runO outO
   rw [hV, hR, if_neg (by simp), if_neg (by simp)]
  rw [hro]
  rw [hV, hR, if_neg (by simp)] at HQ
  have HSTS := zB (fun (W2 : World) (h : Wp (fun _ => False) W W2) => statesR_v S _ _ _ l hh vals hv W2 ((hS.keepF hkW).keepF h) ((hl.keepF hkW).keepF h) ((hr.keepF hkW).keepF h) hs l96 hF hJ hH hTy)
  have HTELL : Hid (∀ C : List StC, C.map StC.pair = runS S l l.length 0 ⟨[], hh, vals⟩ → C.length = (playM S l l.length 0 ⟨[], hh, vals⟩).1.length + 1 ∧ deepC C = deepD (playM S l l.length 0 ⟨[], hh, vals⟩).1 ∧ (∃ c, C[C.length - 1]? = some c ∧ c.m = (playM S l l.length 0 ⟨[], hh, vals⟩).2)) := fun C hC => by
   obtain ⟨a, b, c, _⟩ := sts_tell hC hst0
   exact ⟨a, b, c⟩
  have HT96 : Hid ((playM S l l.length 0 ⟨[], hh, vals⟩).1.length ≤ 96) := Nat.le_trans (playM_len _ _ _) l96
  obtain ⟨TT, HTT⟩ : ∃ TT, Hid (playM S l l.length 0 ⟨[], hh, vals⟩ = TT) := ⟨_, rfl⟩
  rw [zA HTT] at HTELL HT96
  rw [zA HTT]
  obtain ⟨T1, Tst, TH, TV⟩ := TT
  simp only at HTELL HT96 ⊢
  clear hV hR hst0 hJ hTy hs h' hH hF hro g0 g1 g2 hkW hS hl hr HTT
  go_enter Tryz.func9, Tryz.ntmps9
  go_wp2_with fail
  refine (zA HQ).mono ?_
  rintro e w1 ⟨rfl, hk1⟩
  have h0 := zD (zA G0) hk1
  have h1 := zD (zA G1) hk1
  have HQ2 := zB ((zA HSTS) w1 hk1)
  have HK1 := zB hk1
  have a0 := cl1 h0
  obtain ⟨c0, c1⟩ := cl2 h1
  clear hk1 h0 h1 HQ HSTS
  go_wp2_with fail
  refine (zA HQ2).mono ?_
  rintro e w2 ⟨sv2, C, rfl, hrow, hall, hmap, hk2⟩
  obtain ⟨t1, t2, cl, t3, t4⟩ := (zA HTELL) C hmap
  obtain ⟨sb, sof, scp, e, hsb, hcl⟩ := sts_cells hrow (by omega)
  subst e
  have HK2 := zB ((zA HK1).trans hk2)
  have HALL := zB hall
  have HCL := zB hcl
  have hclen : C.length ≤ 97 := by have := zA HT96; omega
  have hcpos : 0 < C.length := by omega
  have HT1 := zB t1
  have HT2 := zB t2
  have HT3 := zB t3
  have HT4 := zB t4
  clear HQ2 HTELL hmap hk2 hrow hall hcl t1 t2 t3 t4
  go_wp2_with fail
  go_loopw [10, 11] (fun d i wr => ∃ k : Nat, k ≤ C.length ∧ i = .int .i64 (k : Int) ∧ d = .int .i64 (deepC (C.take k) : Int) ∧ wr = w2) (fun _ i _ => C.length - (intOf i).toNat)
  case atStart => exact ⟨0, Nat.zero_le _, rfl, rfl, rfl⟩
  case round =>
   obtain ⟨k, hk, rfl, rfl, rfl⟩ := hrel
   by_cases hlt : k < C.length
   ·obtain ⟨c, hc⟩ : ∃ c, C[k]? = some c := ⟨_, List.getElem?_eq_getElem hlt⟩
    obtain ⟨tO, tc, e1⟩ := Ws.form ((zA HALL) c (List.mem_of_getElem? hc)).1.1
    have c1 := ((zA HCL) k c hc).2.1
    rw [e1] at c1
    have HN : Hid (deepC (C.take (k + 1)) = max (deepC (C.take k)) c.m.st.length) := by show _ = _; rw [take_snoc _ _ _ hc, deepC_snoc]
    have i1 : (k : Int) < (C.length : Int) := by omega
    have i0 : (0 : Int) ≤ (k : Int) := by omega
    generalize deepC (C.take k) = DK at *
    generalize c.m.st.length = SL at *
    clear hc e1
    go_wp2_with fail
    all_goals go_roundw
    all_goals first
     | (exact ⟨k + 1, by omega, by go_num, by rw [zA HN]; congr 1; split <;> omega, trivial⟩)
     | (simp [intOf]; omega)
   ·have hke : k = C.length := by omega
    have i1 : ¬ (k : Int) < (C.length : Int) := by omega
    obtain ⟨qo, qc, e2⟩ := Ws.form ((zA HALL) cl (List.mem_of_getElem? (zA HT3))).1.2
    obtain ⟨p, hp⟩ : ∃ p : Nat, C.length - 1 = p := ⟨_, rfl⟩
    have d2 := ((zA HCL) p cl (hp ▸ zA HT3)).2.2.1
    have d3 := ((zA HCL) p cl (hp ▸ zA HT3)).2.2.2
    rw [e2] at d3
    have HLV := zB ((zA HALL) cl (List.mem_of_getElem? (zA HT3))).1.2
    have HNW := zB ((zA HALL) cl (List.mem_of_getElem? (zA HT3))).2
    rw [e2, zA HT4] at HNW
    simp only at HNW
    rw [e2] at HLV
    rw [zA HT4] at d2 d3 HLV
    simp only at d2 d3 HLV
    have ep : (C.length : Int) - 1 = (p : Int) := by omega
    have ip : (p : Int) < (C.length : Int) := by omega
    have ip0 : (0 : Int) ≤ (p : Int) := by omega
    have HPE : Hid ((p : Int) = (T1.length : Int)) := by have := zA HT1; show _ = _; omega
    have HDE : Hid (deepC (C.take k) = deepD T1) := by show _ = _; rw [hke, List.take_length]; exact zA HT2
    have h2b := zD (zA G2) (zA HK2)
    obtain ⟨f0, f1, f2, f3, y0, y1, y2, y3⟩ := set4o h2b
    have HB2 := zB h2b
    rw [zA HDE]
    clear hke hp HCL HALL h2b
    go_wp2_with fail
    rw [zA HPE]
    obtain ⟨s0, s1, s2, s3⟩ := set4c (zA HB2) (.bool TH) (.slice qo TV.length qc) (.int .i64 (T1.length : Int)) (.int .i64 (deepD T1 : Int))
    refine bodyPost_ret (v := .tuple #[.agg #[.bool TH, .slice qo TV.length qc, .int .i64 (T1.length : Int), .int .i64 (deepD T1 : Int)], .int .i64 0]) (by simp [results, go_sem, s0, s1, s2, s3]) rfl ?_
    have k4 := Wu wr (w.heap.size + 1 + 1) (.bool TH) (.slice qo TV.length qc) (.int .i64 (T1.length : Int)) (.int .i64 (deepD T1 : Int))
    exact ⟨qo, qc, rfl, vO (zA HLV) (zA HB2) (offO (by simp)) k4, fun q hq => by have h1 := zA HNW q hq; have h2 := (zA HKW).size; have h3 := (zA HK1).size; omega, ((zA HKW).trans (zA HK2)).fresh (by omega) k4⟩
 ·have hE : (if (verifyA S l).2.2 ≠ 0 then (verifyA S l).2.2 else rowE S hh vals) ≠ 0 := by
   by_cases hV : (verifyA S l).2.2 = 0
   ·rw [if_neg (by simp [hV])]
    exact fun q => hok ⟨hV, q⟩
   ·rw [if_pos hV]; exact hV
  have hro : runO S l hh vals = ⟨if (verifyA S l).2.2 ≠ 0 then (verifyA S l).2.2 else rowE S hh vals, false, [], 0, 0⟩ := by
   unfold runO outO
   by_cases hV : (verifyA S l).2.2 = 0
   ·have hR : ¬ rowE S hh vals = 0 := fun q => hok ⟨hV, q⟩
    simp [hV, hR]
   ·simp [hV]
  rw [hro]
  simp only [List.length_nil]
  generalize (if (verifyA S l).2.2 ≠ 0 then (verifyA S l).2.2 else rowE S hh vals) = EE at *
  have e1 : (EE == 0) = false := by simpa using hE
  have e2 : (EE != 0) = true := by simpa using hE
  clear hok hro hE g0 g1 g2 hkW hS hl hr
  go_enter Tryz.func9, Tryz.ntmps9
  go_wp2_with fail
  refine (zA HQ).mono ?_
  rintro e w1 ⟨rfl, hk1⟩
  have h2b := zD (zA G2) hk1
  obtain ⟨f0, f1, f2, f3, y0, y1, y2, y3⟩ := set4o h2b
  obtain ⟨s0, s1, s2, s3⟩ := set4c h2b (.bool false) (.slice none 0 0) (.int .i64 0) (.int .i64 0)
  have HK := zB (((zA HKW).trans hk1).fresh (by omega) (Wu w1 (w.heap.size + 1 + 1) (.bool false) (.slice none 0 0) (.int .i64 0) (.int .i64 0)))
  clear hk1 h2b HQ
  go_wp2_with fail
  refine bodyPost_ret (v := .tuple #[.agg #[.bool false, .slice none 0 0, .int .i64 0, .int .i64 0], .int .i64 EE]) (by simp [results, go_sem, s0, s1, s2, s3]) rfl ?_
  exact ⟨none, 0, rfl, nil_vals _, fun q hq => by simp [fullBlock] at hq, zA HK⟩
end Go.Proofs.YtbdlcaamanhapaaGreatDoor
namespace Go.Proofs.YtbdlcaamanhapaaGreatDoor
open Go.RowKit Go.Maps
def spareT : Txt := [115, 112, 97, 114, 101]
def markV (i : Nat) : List Value := [.int .i64 (-77), .int .i64 (i : Int), str spareT]
def markC (i : Nat) : List Value := [.int .i64 (-77 - (i : Int)), .int .i64 0, str spareT]
def markF (i : Nat) : List Value := [str spareT, .int .i64 (-77 - (i : Int)), .bool false]
def markB (i : Nat) : List Value := [.int .u8 (165 + (i : Int))]
def marks (f : Nat → List Value) (n : Nat) : List Value := (List.range n).flatMap f
theorem marks_snoc (f : Nat → List Value) (n : Nat) : marks f (n + 1) = marks f n ++ f n := by simp [marks, List.range_succ]
def Wide (w : World) (v : Value) (sz n : Nat) (xs : List Value) (f : Nat → List Value) : Prop :=
 ∃ (g cap : Nat) (cur : Array Value) (e : TypeId), v = .slice (some ⟨g, 0, none⟩) n cap ∧ n + 16 ≤ cap ∧ cap ≤ maxLen ∧ w.heap[g]? = some (.cells cur e (0, 0)) ∧ xs.length = n * sz ∧ cur.toList.take ((n + 16) * sz) = xs ++ marks f 16
theorem Wide.keepF {w w' : World} {v : Value} {sz n : Nat} {xs : List Value} {f : Nat → List Value} (h : Wide w v sz n xs f) (hk : Wp (fun _ => False) w w') : Wide w' v sz n xs f := by
 obtain ⟨g, cap, cur, e, h1, h2, h3, h4, h5, h6⟩ := h
 exact ⟨g, cap, cur, e, h1, h2, h3, zD h4 hk, h5, h6⟩
theorem Wide.keep {w w' : World} {g cap sz n b : Nat} {xs : List Value} {f : Nat → List Value} (h : Wide w (.slice (some ⟨g, 0, none⟩) n cap) sz n xs f) (hk : Wp (fun q => q = b) w w') (hb : g ≠ b) : Wide w' (.slice (some ⟨g, 0, none⟩) n cap) sz n xs f := by
 obtain ⟨g', cap', cur, e, h1, h2, h3, h4, h5, h6⟩ := h
 simp only [Value.slice.injEq, Option.some.injEq, Addr.mk.injEq, and_true, true_and] at h1
 obtain ⟨rfl, rfl⟩ := h1
 exact ⟨g, cap, cur, e, rfl, h2, h3, (hk.block _ (zE h4) hb).trans h4, h5, h6⟩
theorem set1c {w : World} {b : Nat} {c0 : Value} {t : TypeId} (h : w.heap[b]? = some (.cells #[c0] t (0, 0))) (x : Value) : (w.setCell ⟨b, 0, none⟩ x).cell? ⟨b, 0, none⟩ = some x := by
 have h1 := zH (o := 0) h x
 rw [zC h1]; rfl
theorem Wide.cell {w : World} {g n sz : Nat} {xs : List Value} {f : Nat → List Value} {cur : Array Value} {e : TypeId} (h4 : w.heap[g]? = some (.cells cur e (0, 0))) (h6 : cur.toList.take ((n + 16) * sz) = xs ++ marks f 16) {j : Nat} {x : Value} (hx : (xs ++ marks f 16)[j]? = some x) : w.cell? ⟨g, j, none⟩ = some x := by
 rw [zC h4]
 rw [← h6, List.getElem?_take] at hx
 split at hx
 ·rw [← Array.getElem?_toList]; exact hx
 ·cases hx
theorem Wide.row {w : World} {v : Value} {sz n : Nat} {xs : List Value} {f : Nat → List Value} (h : Wide w v sz n xs f) : Ws w v n xs := by
 obtain ⟨g, cap, cur, e, rfl, h2, h3, h4, h5, h6⟩ := h
 have ho : Ws w (.slice (some ⟨g, 0, none⟩) n cap) n xs := by
  refine ⟨⟨_, _, rfl⟩, fun h0 => ⟨g, 0, cap, rfl, zE h4, fun j x hx => ?_⟩, fun ao m c e => by simp at e; omega⟩
  rw [Nat.zero_add]
  exact Wide.cell h4 h6 (by rw [List.getElem?_append_left (List.getElem?_eq_some_iff.1 hx).1]; exact hx)
 exact ho
theorem wide_of {w : World} {B el sz n cap g : Nat} {xs : List Value} {f : Nat → List Value} (hxs : xs.length = n * sz) (h : w.ownsRow B el sz (.slice (some ⟨g, 0, none⟩) (n + 16) cap) (n + 16) (xs ++ marks f 16)) : Wide w (.slice (some ⟨g, 0, none⟩) n cap) sz n xs f := by
 rcases h.2 with ⟨e, _⟩ | ⟨g', cap', cur, e, _, hb, hc, hm, hs, ht⟩
 ·cases e
 ·simp only [Value.slice.injEq, Option.some.injEq, Addr.mk.injEq, and_true, true_and] at e
  obtain ⟨rfl, rfl⟩ := e
  exact ⟨g, cap, cur, el, rfl, hc, hm, hb, hxs, ht⟩
end Go.Proofs.YtbdlcaamanhapaaGreatDoor
