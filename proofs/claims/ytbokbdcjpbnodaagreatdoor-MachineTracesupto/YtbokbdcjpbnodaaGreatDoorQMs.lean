import Derived.Test.YtbokbdcjpbnodaaGreatDoorQKb
import Derived.Test.YtbokbdcjpbnodaaGreatDoorQJn
import Derived.Test.YtbokbdcjpbnodaaGreatDoorQJh
import Derived.Deep.RegionLaw
import Derived.Deep.AppendLies
namespace Go.Proofs.YtbokbdcjpbnodaaGreatDoor
open Go.RowKit Go.Maps
set_option maxRecDepth 100000
set_option maxHeartbeats 40000000
def rowE (S : List FieldA) (h : Bool) (vals : List ValA) : Int := if h then errR S vals else if vals = [] then 0 else 61
theorem checkRow_v (S : List FieldA) (sv u : Value) (hh : Bool) (vals : List ValA) (w : World) (hT : Types w) (hS : FldsAt w sv S) (hr : ValsAt w u vals) :
  Calls Tryz.prog 66 #[.agg #[sv], .agg #[.bool hh, u]] w fun e w' => e = .returned (.int .i64 (rowE S hh vals)) ∧ Keeps (fun _ => False) w w' := by
 obtain ⟨so, sc, rfl⟩ := RowAt.form hS
 obtain ⟨uo, uc, rfl⟩ := RowAt.form hr
 have HKA := hide ((kAlloc w (.cells #[.slice so S.length sc] 24)).alloc (.cells #[.bool hh, .slice uo vals.length uc] 28))
 have HQ := hide (val_check S _ vals _ _ (hT.keepF (uh HKA)) (hS.keepF (uh HKA)) (hr.keepF (uh HKA)))
 have HE : Hid (rowE S hh vals = if hh then errR S vals else if vals = [] then 0 else 61) := rfl
 generalize rowE S hh vals = R at *
 clear hT hS hr
 cases hh with
 | true =>
  rw [if_pos rfl] at HE
  go_enter Tryz.func66, Tryz.ntmps66
  go_wp2_with fail
  refine (uh HQ).mono ?_
  rintro e w1 ⟨rfl, hk1⟩
  have HK := hide ((uh HKA).trans hk1)
  clear hk1 HQ HKA
  go_wp2_with fail
  go_ret
  exact ⟨ret_int (uh HE).symm, uh HK⟩
 | false =>
  rw [if_neg (by decide)] at HE
  clear HQ
  cases vals with
  | nil =>
   rw [if_pos rfl] at HE
   go_enter Tryz.func66, Tryz.ntmps66
   go_wp2_with fail
   go_ret
   exact ⟨ret_int (uh HE).symm, uh HKA⟩
  | cons a r =>
   rw [if_neg (by simp)] at HE
   generalize hN : (a :: r).length = N at *
   have hN1 : (0 : Int) < (N : Int) := by rw [← hN]; simp
   go_enter Tryz.func66, Tryz.ntmps66
   go_wp2_with fail
   go_ret
   exact ⟨ret_int (uh HE).symm, uh HKA⟩
theorem rowE_len {S : List FieldA} {vals : List ValA} (h : rowE S true vals = 0) : vals.length ≤ 8 := by
 unfold rowE at h
 rw [if_pos rfl] at h
 unfold errR at h
 split at h
 ·rename_i hs
  split at h
  ·rename_i hr
   have := (schemaB_len hs).2
   unfold recB at hr
   simp at hr
   omega
  ·cases h
 ·cases h
theorem rowE_nil {S : List FieldA} {vals : List ValA} (h : rowE S false vals = 0) : vals = [] := by
 unfold rowE at h
 rw [if_neg (by decide)] at h
 split at h
 ·assumption
 ·cases h
theorem step_appendV {w : World} {ops : Array Oper} {o : Oper} {a : Act} {K : Act → World → Prop} {Q : Exit → Act → World → Prop} {E : Prop} (hgd : o.guard = none) (s x : Operand)
  (ho : o.op = .call { callee := .builtin .append, args := #[s, x], argTypes := #[26, 26] }) (base : Nat) (v : Value) (n : Nat) (xs : List Value) (hs : a.eval s = v) (hown : w.ownsRow base 74 3 v n xs)
  (u : Value) (G : List ValA) (hx : a.eval x = u) (hu : ValsAt w u G) (h63 : n + G.length ≤ maxLen) (hbytes : n + G.length ≤ 4398046511104) (hbase : base ≤ w.heap.size)
  (h : ∀ ao c w', w'.ownsRow base 74 3 (.slice ao (n + G.length) c) (n + G.length) (xs ++ vcs G) → w.grownBy w' v.ownBlock → K (a.put o.dst (.slice ao (n + G.length) c)) w') : if Region.wanted o (yielded ops a.tmps) = true then Oper.wp Tryz.prog o a w K Q else E := by
 have hw : Region.wanted o (yielded ops a.tmps) = true := by simp [Region.wanted, hgd]
 rw [if_pos hw]
 obtain ⟨v', w', hr, h2, h3⟩ := run_appendV_any w o.type base v n xs hown u G hu h63 hbytes hbase
 obtain ⟨ao, c, rfl⟩ := RowAt.form (rowAt_own h2)
 unfold Oper.wp execOp
 simp only [ho, resolve, invoke, builtin, Sem.run_bind, Sem.run_pure, Result.andThen_ok, List.map_toArray, List.map_cons, List.map_nil, hs, hx, hr]
 exact h ao c w' h2 h3
theorem own_none (w : World) (base : Nat) (hb : base ≤ w.heap.size) : (w.alloc (.cells #[] 74)).ownsRow base 74 3 (.slice (some ⟨w.heap.size, 0, none⟩) 0 0) 0 [] :=
 World.ownsRow_lit (base := base) (e := 74) (size := 3) w #[] 0 hb (by unfold maxLen; omega) rfl
theorem blk28a {w2 w5 : World} (hg : (((w2.alloc (.cells #[] 74)).alloc (.cells #[.bool false, .slice none 0 0] 28)).drew).grownBy w5 (Value.slice (some ⟨w2.heap.size, 0, none⟩) 0 0).ownBlock) : w5.heap[w2.heap.size + 1]? = some (.cells #[.bool false, .slice none 0 0] 28 (0, 0)) := by
 rw [hg.block (w2.heap.size + 1) (by simp [World.drew]) (by simp [Value.ownBlock])]
 have := heap_alloc_new (w2.alloc (.cells #[] 74)) (.cells #[.bool false, .slice none 0 0] 28)
 rw [show (w2.alloc (.cells #[] 74)).heap.size = w2.heap.size + 1 by simp] at this
 exact this
theorem own_noneb (w2 : World) (base : Nat) (hb : base ≤ w2.heap.size) : ((w2.alloc (.cells #[.bool false, .slice none 0 0] 28)).alloc (.cells #[] 74)).ownsRow base 74 3 (.slice (some ⟨w2.heap.size + 1, 0, none⟩) 0 0) 0 [] := by
 have := own_none (w2.alloc (.cells #[.bool false, .slice none 0 0] 28)) base (by simp; omega)
 rwa [show (w2.alloc (.cells #[.bool false, .slice none 0 0] 28)).heap.size = w2.heap.size + 1 by simp] at this
theorem blk28b {w2 w5 : World} (hg : (((w2.alloc (.cells #[.bool false, .slice none 0 0] 28)).alloc (.cells #[] 74)).drew).grownBy w5 (Value.slice (some ⟨w2.heap.size + 1, 0, none⟩) 0 0).ownBlock) : w5.heap[w2.heap.size]? = some (.cells #[.bool false, .slice none 0 0] 28 (0, 0)) := by
 rw [hg.block w2.heap.size (by simp [World.drew]; omega) (by simp [Value.ownBlock])]
 exact ((kAlloc (w2.alloc (.cells #[.bool false, .slice none 0 0] 28)) (.cells #[] 74)).block w2.heap.size (by simp) id).trans (heap_alloc_new w2 (.cells #[.bool false, .slice none 0 0] 28))
theorem grown_cell {W w5 : World} {q k o : Nat} {v : Value} (hg : W.grownBy w5 (Value.slice (some ⟨q, 0, none⟩) 0 0).ownBlock) (hk : k < W.heap.size) (hne : q ≠ k) (h : W.cell? ⟨k, o, none⟩ = some v) : w5.cell? ⟨k, o, none⟩ = some v := by
 have := hg.block k hk (by simp [Value.ownBlock]; exact Ne.symm hne)
 simp only [World.cell?] at h ⊢
 rw [this]
 exact h
theorem fin28 {w w5 : World} {hh : Bool} {ao : Option Addr} {n c : Nat} {s : Value} {xs : List Value} (hk : Keeps (fun _ => False) w w5) (x1 : w5.cell? ⟨w.heap.size, 0, none⟩ = some s) (ho : w5.ownsRow w.heap.size 74 3 (.slice ao n c) n xs) :
  (w5.alloc (.cells #[.bool hh, .slice ao n c] 28)).cell? ⟨w.heap.size, 0, none⟩ = some s ∧ (w5.alloc (.cells #[.bool hh, .slice ao n c] 28)).cell? ⟨w5.heap.size, 0, none⟩ = some (.bool hh) ∧ (w5.alloc (.cells #[.bool hh, .slice ao n c] 28)).cell? ⟨w5.heap.size, 1, none⟩ = some (.slice ao n c) ∧ (w5.alloc (.cells #[.bool hh, .slice ao n c] 28)).ownsRow w.heap.size 74 3 (.slice ao n c) n xs ∧ Keeps (fun _ => False) w (w5.alloc (.cells #[.bool hh, .slice ao n c] 28)) := by
 have hb := heap_alloc_new w5 (.cells #[.bool hh, .slice ao n c] 28)
 have hlt := World.block_lt_of_cell? w5 ⟨w.heap.size, 0, none⟩ x1
 exact ⟨((kAlloc w5 _).cell hlt id).trans x1, (cell_of_blk hb _).trans rfl, (cell_of_blk hb _).trans rfl, ho.alloc _, hk.alloc _⟩
theorem fin28s {w w5 : World} {hh : Bool} {ao : Option Addr} {n c B : Nat} {s : Value} {xs : List Value} (hk : Keeps (fun _ => False) w w5) (x1 : w5.cell? ⟨w.heap.size, 0, none⟩ = some s) (ho : w5.ownsRow w.heap.size 74 3 (.slice ao n c) n xs) (hB : w5.heap[B]? = some (.cells #[.bool false, .slice none 0 0] 28 (0, 0))) (hlt : w.heap.size < B) :
  ((w5.setCell ⟨B, 0, none⟩ (.bool hh)).setCell ⟨B, 1, none⟩ (.slice ao n c)).cell? ⟨w.heap.size, 0, none⟩ = some s ∧ ((w5.setCell ⟨B, 0, none⟩ (.bool hh)).setCell ⟨B, 1, none⟩ (.slice ao n c)).cell? ⟨B, 0, none⟩ = some (.bool hh) ∧ ((w5.setCell ⟨B, 0, none⟩ (.bool hh)).setCell ⟨B, 1, none⟩ (.slice ao n c)).cell? ⟨B, 1, none⟩ = some (.slice ao n c) ∧ ((w5.setCell ⟨B, 0, none⟩ (.bool hh)).setCell ⟨B, 1, none⟩ (.slice ao n c)).ownsRow w.heap.size 74 3 (.slice ao n c) n xs ∧ Keeps (fun _ => False) w ((w5.setCell ⟨B, 0, none⟩ (.bool hh)).setCell ⟨B, 1, none⟩ (.slice ao n c)) := by
 have ko : Keeps (fun q => q = B) w5 ((w5.setCell ⟨B, 0, none⟩ (.bool hh)).setCell ⟨B, 1, none⟩ (.slice ao n c)) := Keeps.setCell (F := fun q => q = B) (p := ⟨B, 1, none⟩) (Keeps.setCell (F := fun q => q = B) (p := ⟨B, 0, none⟩) (Keeps.refl (fun q => q = B) w5) (fun _ => rfl) _) (fun _ => rfl) _
 have hE := heap_setCell_at (o := 1) (heap_setCell_at (o := 0) hB (.bool hh)) (.slice ao n c)
 have hl := World.block_lt_of_cell? w5 ⟨w.heap.size, 0, none⟩ x1
 refine ⟨(ko.cell hl (by simp; omega)).trans x1, (cell_of_blk hE _).trans rfl, (cell_of_blk hE _).trans rfl, ownsRow_kept ho ko (fun q e hq => ownsRow_ne ho hB (by decide) (by rw [e, hq])), hk.then ko (fun i hi e => by omega)⟩
def OnlyN (R : Act → World → Prop) : Exit → Act → World → Prop
 | .normal, a, w => R a w
 | _, _, _ => False
theorem OnlyN.mk {R : Act → World → Prop} {a : Act} {w : World} (h : R a w) : OnlyN R .normal a w := h
def Begun (w : World) (sv : Value) (V R : Int) (m : MS) (e : Ending) (w' : World) : Prop :=
 (V ≠ 0 ∧ e = .returned (.tuple #[.pointer none, .int .i64 V]) ∧ Keeps (fun _ => False) w w') ∨
 (V = 0 ∧ R ≠ 0 ∧ e = .returned (.tuple #[.pointer none, .int .i64 R]) ∧ Keeps (fun _ => False) w w') ∨
 (V = 0 ∧ R = 0 ∧ ∃ b rv, e = .returned (.tuple #[.pointer (some ⟨b, 0, none⟩), .int .i64 0]) ∧ MR w w' b sv rv m)
theorem begin_v (S : List FieldA) (sv u v : Value) (l : List ValA) (hh : Bool) (vals : List ValA) (w : World) (hE : Env w) (hS : FldsAt w sv S) (hl : ValsAt w v l) (hI : InR l) (hr : ValsAt w u vals) :
  Calls Tryz.prog 37 #[.agg #[sv], v, .agg #[.bool hh, u]] w fun e w' => Begun w sv (verifyA S l).2.2 (rowE S hh vals) ⟨[], hh, vals⟩ e w' := by
 obtain ⟨so, sc, rfl⟩ := RowAt.form hS
 obtain ⟨uo, uc, rfl⟩ := RowAt.form hr
 obtain ⟨vo, vc, rfl⟩ := RowAt.form hl
 have HKA := hide ((kAlloc w (.cells #[.slice so S.length sc] 24)).alloc (.cells #[.bool hh, .slice uo vals.length uc] 28))
 have hX1 := heap_alloc_new w (.cells #[.slice so S.length sc] 24)
 have hX2 := heap_alloc_new (w.alloc (.cells #[.slice so S.length sc] 24)) (.cells #[.bool hh, .slice uo vals.length uc] 28)
 rw [show (w.alloc (.cells #[.slice so S.length sc] 24)).heap.size = w.heap.size + 1 by simp] at hX2
 have hX3 := ((kAlloc (w.alloc (.cells #[.slice so S.length sc] 24)) (.cells #[.bool hh, .slice uo vals.length uc] 28)).block w.heap.size (lt_of_block hX1) id).trans hX1
 have HQ := hide (verify_v S so sc l _ _ (hE.ops.keepF (uh HKA)) (hE.types.keepF (uh HKA)) (hS.keepF (uh HKA)) (hl.keepF (uh HKA)) hI)
 have HC := hide (fun (W : World) (hk : Keeps (fun _ => False) w W) => checkRow_v S (.slice so S.length sc) (.slice uo vals.length uc) hh vals W (hE.types.keepF hk) (hS.keepF hk) (hr.keepF hk))
 have HRV := hide hr
 generalize verifyA S l = V at *
 obtain ⟨va, vb, ve⟩ := V
 simp only at *
 clear hX1 hE hS hl hI hr
 go_enter Tryz.func37, Tryz.ntmps37
 go_wp2_with fail
 refine (uh HQ).mono ?_
 rintro e w1 ⟨rfl, hk1⟩
 have p1 := lt_of_block hX3
 have p2 := lt_of_block hX2
 have y1 : w1.cell? ⟨w.heap.size, 0, none⟩ = some (.slice so S.length sc) := (hk1.cell p1 id).trans ((cell_of_blk hX3 _).trans rfl)
 have y2 : w1.cell? ⟨w.heap.size + 1, 0, none⟩ = some (.bool hh) := (hk1.cell p2 id).trans ((cell_of_blk hX2 _).trans rfl)
 have y3 : w1.cell? ⟨w.heap.size + 1, 1, none⟩ = some (.slice uo vals.length uc) := (hk1.cell p2 id).trans ((cell_of_blk hX2 _).trans rfl)
 have HK1 := hide ((uh HKA).trans hk1)
 have q1 := Nat.lt_of_lt_of_le p1 hk1.size
 have q2 := Nat.lt_of_lt_of_le p2 hk1.size
 clear hk1 HQ HKA hX2 hX3
 by_cases h0 : ve = 0
 ·subst h0
  have HQ := hide ((uh HC) w1 (uh HK1))
  obtain ⟨R, HRE⟩ : ∃ R, Hid (rowE S hh vals = R) := ⟨_, rfl⟩
  rw [uh HRE] at HQ
  clear HC
  go_wp2_with fail
  refine (uh HQ).mono ?_
  rintro e w2 ⟨rfl, hk2⟩
  have z1 := (hk2.cell q1 id).trans y1
  have z2 := (hk2.cell q2 id).trans y2
  have z3 := (hk2.cell q2 id).trans y3
  have HK2 := hide ((uh HK1).trans hk2)
  have r1 := Nat.lt_of_lt_of_le q1 hk2.size
  have r2 := Nat.lt_of_lt_of_le q2 hk2.size
  clear hk2 HQ HK1 y1 y2 y3
  by_cases hR : R = 0
  ·have HR0 := hide hR
   subst hR
   have HL8 : vals.length ≤ 8 := by
    have := uh HRE
    cases hh with
    | true => exact rowE_len this
    | false => have := rowE_nil this; simp [this]
   have HV2 := hide ((uh HRV).keepF (uh HK2))
   have hbz : w.heap.size ≤ w2.heap.size := (uh HK2).size
   clear HRV
   go_wp2_with fail
   refine Code.wp_mono (Q := OnlyN fun a W6 => ∃ (ob q : Nat) (ao : Option Addr) (ac : Nat), a = ⟨#[.agg #[.slice so S.length sc], .slice vo l.length vc, .agg #[.bool hh, .slice uo vals.length uc], .pointer (some ⟨w.heap.size, 0, none⟩), undef, .pointer (some ⟨w.heap.size + 1, 0, none⟩), .pointer none, .int .i64 0, .int .i64 (va : Int), .int .i64 (vb : Int), .int .i64 0, .int .i64 0, .pointer (some ⟨ob, 0, none⟩), .tuple #[.int .i64 (va : Int), .int .i64 (vb : Int), .int .i64 0], .agg #[.slice so S.length sc], .slice vo l.length vc, .tuple #[.int .i64 (va : Int), .int .i64 (vb : Int), .int .i64 0], .int .i64 (va : Int), .int .i64 (vb : Int), .int .i64 0, .int .i64 0, .bool false, undef, .agg #[.slice so S.length sc], .agg #[.bool hh, .slice uo vals.length uc], .int .i64 0, .int .i64 0, .bool false, undef, .pointer (some ⟨w.heap.size + 1, 0, none⟩), .bool hh, .slice (some ⟨q, 0, none⟩) 0 0, .pointer (some ⟨w.heap.size + 1, 1, none⟩), .slice uo vals.length uc, .slice ao vals.length ac, .agg #[.bool hh, .slice ao vals.length ac], undef, undef, undef, undef], []⟩ ∧ W6.cell? ⟨w.heap.size, 0, none⟩ = some (.slice so S.length sc) ∧ W6.cell? ⟨ob, 0, none⟩ = some (.bool hh) ∧ W6.cell? ⟨ob, 1, none⟩ = some (.slice ao vals.length ac) ∧ W6.ownsRow w.heap.size 74 3 (.slice ao vals.length ac) vals.length (vcs vals) ∧ Keeps (fun _ => False) w W6) ?imp ?reg
   case reg =>
    go_region_law (first
     | (refine step_appendV (by rfl) _ _ (by rfl) w.heap.size _ 0 [] (by rfl) ((own_none w2 w.heap.size hbz).drew) _ vals (by rfl) ((uh HV2).keepF ((kAlloc w2 (.cells #[] 74)).drew)) (by unfold maxLen; omega) (by omega) (Nat.le_trans hbz ((kAlloc w2 (.cells #[] 74)).drew).size) ?_; intro ao ac w5 hown5 hgrow5; simp only [Nat.zero_add, List.nil_append] at hown5; have x2 := grown_cell (o := 0) hgrow5 (Nat.lt_of_lt_of_le r2 ((kAlloc w2 (.cells #[] 74)).drew).size) (by omega) ((((kAlloc w2 (.cells #[] 74)).drew).cell r2 id).trans z2); have x3 := grown_cell (o := 1) hgrow5 (Nat.lt_of_lt_of_le r2 ((kAlloc w2 (.cells #[] 74)).drew).size) (by omega) ((((kAlloc w2 (.cells #[] 74)).drew).cell r2 id).trans z3); have x1 := grown_cell (o := 0) hgrow5 (Nat.lt_of_lt_of_le r1 ((kAlloc w2 (.cells #[] 74)).drew).size) (by omega) ((((kAlloc w2 (.cells #[] 74)).drew).cell r1 id).trans z1); have r5 : w.heap.size + 1 < w5.heap.size := World.block_lt_of_cell? w5 ⟨w.heap.size + 1, 0, none⟩ x2; have hk5 : Keeps (fun _ => False) w w5 := ((uh HK2).trans ((kAlloc w2 (.cells #[] 74)).drew)).grown hgrow5 (fun k e hk => by simp [Value.ownBlock] at e; omega))
     | (refine step_appendV (by rfl) _ _ (by rfl) w.heap.size _ 0 [] (by rfl) (((own_none w2 w.heap.size hbz).alloc _).drew) _ vals (by rfl) ((uh HV2).keepF (((kAlloc w2 (.cells #[] 74)).alloc (.cells #[.bool false, .slice none 0 0] 28)).drew)) (by unfold maxLen; omega) (by omega) (Nat.le_trans hbz (((kAlloc w2 (.cells #[] 74)).alloc (.cells #[.bool false, .slice none 0 0] 28)).drew).size) ?_; intro ao ac w5 hown5 hgrow5; simp only [Nat.zero_add, List.nil_append] at hown5; have x2 := grown_cell (o := 0) hgrow5 (Nat.lt_of_lt_of_le r2 (((kAlloc w2 (.cells #[] 74)).alloc (.cells #[.bool false, .slice none 0 0] 28)).drew).size) (by omega) (((((kAlloc w2 (.cells #[] 74)).alloc (.cells #[.bool false, .slice none 0 0] 28)).drew).cell r2 id).trans z2); have x3 := grown_cell (o := 1) hgrow5 (Nat.lt_of_lt_of_le r2 (((kAlloc w2 (.cells #[] 74)).alloc (.cells #[.bool false, .slice none 0 0] 28)).drew).size) (by omega) (((((kAlloc w2 (.cells #[] 74)).alloc (.cells #[.bool false, .slice none 0 0] 28)).drew).cell r2 id).trans z3); have x1 := grown_cell (o := 0) hgrow5 (Nat.lt_of_lt_of_le r1 (((kAlloc w2 (.cells #[] 74)).alloc (.cells #[.bool false, .slice none 0 0] 28)).drew).size) (by omega) (((((kAlloc w2 (.cells #[] 74)).alloc (.cells #[.bool false, .slice none 0 0] 28)).drew).cell r1 id).trans z1); have r5 : w.heap.size + 1 < w5.heap.size := World.block_lt_of_cell? w5 ⟨w.heap.size + 1, 0, none⟩ x2; have hk5 : Keeps (fun _ => False) w w5 := ((uh HK2).trans (((kAlloc w2 (.cells #[] 74)).alloc (.cells #[.bool false, .slice none 0 0] 28)).drew)).grown hgrow5 (fun k e hk => by simp [Value.ownBlock] at e; omega); have hB5 := blk28a hgrow5; have u0 := frozen_of_blk hB5 0; have u1 := frozen_of_blk hB5 1; have u2 := (cell_of_blk hB5 0).trans rfl; have u3 := (cell_of_blk hB5 1).trans rfl)
     | (refine step_appendV (by rfl) _ _ (by rfl) w.heap.size _ 0 [] (by rfl) ((own_noneb w2 w.heap.size hbz).drew) _ vals (by rfl) ((uh HV2).keepF (((kAlloc w2 (.cells #[.bool false, .slice none 0 0] 28)).alloc (.cells #[] 74)).drew)) (by unfold maxLen; omega) (by omega) (Nat.le_trans hbz (((kAlloc w2 (.cells #[.bool false, .slice none 0 0] 28)).alloc (.cells #[] 74)).drew).size) ?_; intro ao ac w5 hown5 hgrow5; simp only [Nat.zero_add, List.nil_append] at hown5; have x2 := grown_cell (o := 0) hgrow5 (Nat.lt_of_lt_of_le r2 (((kAlloc w2 (.cells #[.bool false, .slice none 0 0] 28)).alloc (.cells #[] 74)).drew).size) (by omega) (((((kAlloc w2 (.cells #[.bool false, .slice none 0 0] 28)).alloc (.cells #[] 74)).drew).cell r2 id).trans z2); have x3 := grown_cell (o := 1) hgrow5 (Nat.lt_of_lt_of_le r2 (((kAlloc w2 (.cells #[.bool false, .slice none 0 0] 28)).alloc (.cells #[] 74)).drew).size) (by omega) (((((kAlloc w2 (.cells #[.bool false, .slice none 0 0] 28)).alloc (.cells #[] 74)).drew).cell r2 id).trans z3); have x1 := grown_cell (o := 0) hgrow5 (Nat.lt_of_lt_of_le r1 (((kAlloc w2 (.cells #[.bool false, .slice none 0 0] 28)).alloc (.cells #[] 74)).drew).size) (by omega) (((((kAlloc w2 (.cells #[.bool false, .slice none 0 0] 28)).alloc (.cells #[] 74)).drew).cell r1 id).trans z1); have r5 : w.heap.size + 1 < w5.heap.size := World.block_lt_of_cell? w5 ⟨w.heap.size + 1, 0, none⟩ x2; have hk5 : Keeps (fun _ => False) w w5 := ((uh HK2).trans (((kAlloc w2 (.cells #[.bool false, .slice none 0 0] 28)).alloc (.cells #[] 74)).drew)).grown hgrow5 (fun k e hk => by simp [Value.ownBlock] at e; omega); have hB5 := blk28b hgrow5; have u0 := frozen_of_blk hB5 0; have u1 := frozen_of_blk hB5 1; have u2 := (cell_of_blk hB5 0).trans rfl; have u3 := (cell_of_blk hB5 1).trans rfl))
    all_goals
     refine OnlyN.mk ⟨_, _, ao, ac, rfl, ?_⟩
     first
      | with_reducible exact fin28 hk5 x1 hown5
      | with_reducible exact fin28s hk5 x1 hown5 hB5 (by omega)
   case imp =>
    intro ex a W6 hN
    cases ex with
    | normal => ?_
    | _ => exact hN.elim
    obtain ⟨ob, q, ao, ac, rfl, c1, c2, c3, hown6, hk6⟩ := (hN : ∃ _, _)
    have s1 := World.block_lt_of_cell? W6 ⟨w.heap.size, 0, none⟩ c1
    have s2 := World.block_lt_of_cell? W6 ⟨ob, 0, none⟩ c2
    have HO6 := hide hown6
    have HK6 := hide hk6
    clear hown6 hk6 z1 z2 z3 r1 r2 HK2 HV2
    go_wp2_with fail
    go_ret2
    have hb80 := heap_alloc_new W6 (.cells #[.slice so S.length sc, .bool hh, .slice ao vals.length ac, .int .i64 0, .int .i64 0, .string ⟨#[]⟩, .int .i64 0, .int .i64 0, .string ⟨#[]⟩, .int .i64 0, .int .i64 0, .string ⟨#[]⟩, .int .i64 0, .int .i64 0, .string ⟨#[]⟩, .int .i64 0, .int .i64 0, .string ⟨#[]⟩, .int .i64 0, .int .i64 0, .string ⟨#[]⟩, .int .i64 0, .int .i64 0, .string ⟨#[]⟩, .int .i64 0, .int .i64 0, .string ⟨#[]⟩, .int .i64 0, .int .i64 0, .string ⟨#[]⟩, .int .i64 0, .int .i64 0, .string ⟨#[]⟩, .int .i64 0, .int .i64 0, .string ⟨#[]⟩, .int .i64 0, .int .i64 0, .string ⟨#[]⟩, .int .i64 0, .int .i64 0, .string ⟨#[]⟩, .int .i64 0, .int .i64 0, .string ⟨#[]⟩, .int .i64 0, .int .i64 0, .string ⟨#[]⟩, .int .i64 0, .int .i64 0, .string ⟨#[]⟩, .int .i64 0] 77)
    refine Or.inr (Or.inr ⟨rfl, uh HRE, W6.heap.size, .slice ao vals.length ac, rfl, ?_⟩)
    have ho7 := (uh HO6).alloc (.cells #[.slice so S.length sc, .bool hh, .slice ao vals.length ac, .int .i64 0, .int .i64 0, .string ⟨#[]⟩, .int .i64 0, .int .i64 0, .string ⟨#[]⟩, .int .i64 0, .int .i64 0, .string ⟨#[]⟩, .int .i64 0, .int .i64 0, .string ⟨#[]⟩, .int .i64 0, .int .i64 0, .string ⟨#[]⟩, .int .i64 0, .int .i64 0, .string ⟨#[]⟩, .int .i64 0, .int .i64 0, .string ⟨#[]⟩, .int .i64 0, .int .i64 0, .string ⟨#[]⟩, .int .i64 0, .int .i64 0, .string ⟨#[]⟩, .int .i64 0, .int .i64 0, .string ⟨#[]⟩, .int .i64 0, .int .i64 0, .string ⟨#[]⟩, .int .i64 0, .int .i64 0, .string ⟨#[]⟩, .int .i64 0, .int .i64 0, .string ⟨#[]⟩, .int .i64 0, .int .i64 0, .string ⟨#[]⟩, .int .i64 0, .int .i64 0, .string ⟨#[]⟩, .int .i64 0, .int .i64 0, .string ⟨#[]⟩, .int .i64 0] 77)
    refine ⟨⟨⟨_, hb80, rfl⟩, (cell_of_blk hb80 _).trans rfl, (cell_of_blk hb80 _).trans rfl, (cell_of_blk hb80 _).trans rfl, (cell_of_blk hb80 _).trans rfl, fun i v hv => by simp at hv, Nat.zero_le _⟩, (uh HK6).alloc _, (uh HK6).size, fun _ => ho7, fun hf => ?_, ownsRow_lt ho7⟩
    have hv0 : vals = [] := by
     have hf' : hh = false := hf
     have := uh HRE
     rw [hf'] at this
     exact rowE_nil this
    subst hv0
    exact ⟨rfl, rowAt_own ho7⟩
  ·go_wp2_with fail
   go_ret2
   exact Or.inr (Or.inl ⟨rfl, by rw [uh HRE]; exact hR, by rw [uh HRE]; rfl, uh HK2⟩)
 ·go_wp2_with fail
  go_ret2
  exact Or.inl ⟨h0, rfl, uh HK1⟩
end Go.Proofs.YtbokbdcjpbnodaaGreatDoor
