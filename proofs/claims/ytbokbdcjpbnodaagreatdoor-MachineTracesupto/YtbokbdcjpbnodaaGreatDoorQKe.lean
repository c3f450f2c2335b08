import Derived.Test.YtbokbdcjpbnodaaGreatDoorQMs
import Derived.Test.YtbokbdcjpbnodaaGreatDoorQKd
import Derived.Deep.RegionLaw
import Derived.Deep.AppendLies
namespace Go.Proofs.YtbokbdcjpbnodaaGreatDoor
open Go.RowKit Go.Maps
set_option maxRecDepth 100000
set_option maxHeartbeats 4000000
theorem playM_len {S : List FieldA} {l : List ValA} : ∀ (fu k : Nat) (m : MS), (playM S l fu k m).1.length ≤ fu
 | 0, _, _ => Nat.le_refl _
 | f + 1, k, m => by
  rw [playM]
  split
  ·exact Nat.zero_le _
  ·simp only [List.length_cons]
   have := playM_len (S := S) (l := l) f
   exact Nat.succ_le_succ (this _ _)
def Ran (w : World) (V R : Int) (T : List (Nat × List ValA) × MS) (e : Ending) (w' : World) : Prop :=
 ((V ≠ 0 ∨ R ≠ 0) ∧ e = .returned (.tuple #[.agg #[.bool false, .slice none 0 0, .int .i64 0, .int .i64 0], .int .i64 (if V ≠ 0 then V else R)]) ∧ Keeps (fun _ => False) w w') ∨
 (V = 0 ∧ R = 0 ∧ ∃ rv, e = .returned (.tuple #[.agg #[.bool T.2.here, rv, .int .i64 (T.1.length : Int), .int .i64 (deepD T.1 : Int)], .int .i64 0]) ∧ ValsAt w' rv T.2.vals ∧ (∀ q, rv.ownBlock = some q → w.heap.size ≤ q) ∧ Keeps (fun _ => False) w w')
theorem keeps_set4 (w : World) (b : Nat) (x y z u : Value) : Keeps (fun q => q = b) w ((((w.setCell ⟨b, 0, none⟩ x).setCell ⟨b, 1, none⟩ y).setCell ⟨b, 2, none⟩ z).setCell ⟨b, 3, none⟩ u) :=
 Keeps.setCell (F := fun q => q = b) (p := ⟨b, 3, none⟩) (Keeps.setCell (F := fun q => q = b) (p := ⟨b, 2, none⟩) (Keeps.setCell (F := fun q => q = b) (p := ⟨b, 1, none⟩) (Keeps.setCell (F := fun q => q = b) (p := ⟨b, 0, none⟩) (Keeps.refl (fun q => q = b) w) (fun _ => rfl) x) (fun _ => rfl) y) (fun _ => rfl) z) (fun _ => rfl) u
theorem set4c {w : World} {b : Nat} {c0 c1 c2 c3 : Value} {t : TypeId} (h : w.heap[b]? = some (.cells #[c0, c1, c2, c3] t (0, 0))) (x y z u : Value) :
  ((((w.setCell ⟨b, 0, none⟩ x).setCell ⟨b, 1, none⟩ y).setCell ⟨b, 2, none⟩ z).setCell ⟨b, 3, none⟩ u).cell? ⟨b, 0, none⟩ = some x ∧ ((((w.setCell ⟨b, 0, none⟩ x).setCell ⟨b, 1, none⟩ y).setCell ⟨b, 2, none⟩ z).setCell ⟨b, 3, none⟩ u).cell? ⟨b, 1, none⟩ = some y ∧ ((((w.setCell ⟨b, 0, none⟩ x).setCell ⟨b, 1, none⟩ y).setCell ⟨b, 2, none⟩ z).setCell ⟨b, 3, none⟩ u).cell? ⟨b, 2, none⟩ = some z ∧ ((((w.setCell ⟨b, 0, none⟩ x).setCell ⟨b, 1, none⟩ y).setCell ⟨b, 2, none⟩ z).setCell ⟨b, 3, none⟩ u).cell? ⟨b, 3, none⟩ = some u := by
 have hb := heap_setCell_at (o := 3) (heap_setCell_at (o := 2) (heap_setCell_at (o := 1) (heap_setCell_at (o := 0) h x) y) z) u
 refine ⟨?_, ?_, ?_, ?_⟩ <;> (rw [cell_of_blk hb]; rfl)
theorem look_parts' {S : List FieldA} {l : List ValA} {ps : List PlA} (h : lookA S l = (some ps, 0, 0)) : errS S = 0 := by
 unfold lookA at h
 by_cases h1 : errS S = 0
 ·exact h1
 ·rw [if_pos h1] at h; cases h
theorem rowE_ok {S : List FieldA} {hh : Bool} {vals : List ValA} (h : rowE S hh vals = 0) : rowOK S hh vals := by
 unfold rowOK
 cases hh with
 | false => rw [if_neg (by decide)]; exact rowE_nil h
 | true =>
  rw [if_pos rfl]
  unfold rowE at h
  rw [if_pos rfl] at h
  unfold errR at h
  split at h
  ·split at h
   ·rename_i hr
    unfold recB at hr
    simp only [Bool.and_eq_true, decide_eq_true_eq] at hr
    refine ⟨hr.1, fun k f v hf hv => ?_⟩
    have := hr.2
    unfold fitAll at this
    exact List.all_eq_true.1 this (f, v) (List.mem_of_getElem? (zip_get hf hv))
   ·cases h
  ·cases h
theorem out_facts {w : World} {b : Nat} (h : w.heap[b]? = some (.cells #[.bool false, .slice none 0 0, .int .i64 0, .int .i64 0] 32 (0, 0))) : w.frozen? ⟨b, 0, none⟩ = false ∧ w.frozen? ⟨b, 1, none⟩ = false ∧ w.frozen? ⟨b, 2, none⟩ = false ∧ w.frozen? ⟨b, 3, none⟩ = false ∧ w.cell? ⟨b, 0, none⟩ = some (.bool false) ∧ w.cell? ⟨b, 1, none⟩ = some (.slice none 0 0) ∧ w.cell? ⟨b, 2, none⟩ = some (.int .i64 0) ∧ w.cell? ⟨b, 3, none⟩ = some (.int .i64 0) :=
 ⟨frozen_of_blk h 0, frozen_of_blk h 1, frozen_of_blk h 2, frozen_of_blk h 3, (cell_of_blk h _).trans rfl, (cell_of_blk h _).trans rfl, (cell_of_blk h _).trans rfl, (cell_of_blk h _).trans rfl⟩
theorem machRun_v (S : List FieldA) (sv u v : Value) (l : List ValA) (hh : Bool) (vals : List ValA) (w : World) (hE : Env w) (hS : FldsAt w sv S) (hl : ValsAt w v l) (hI : InR l) (hr : ValsAt w u vals) :
  Calls Tryz.prog 10 #[.agg #[sv], v, .agg #[.bool hh, u]] w fun e w' => Ran w (verifyA S l).2.2 (rowE S hh vals) (playM S l l.length 0 ⟨[], hh, vals⟩) e w' := by
 obtain ⟨so, sc, rfl⟩ := RowAt.form hS
 obtain ⟨uo, uc, rfl⟩ := RowAt.form hr
 obtain ⟨vo, vc, rfl⟩ := RowAt.form hl
 have HB := hide (fun (W : World) (hk : Keeps (fun _ => False) w W) => begin_v S (.slice so S.length sc) (.slice uo vals.length uc) (.slice vo l.length vc) l hh vals W (hE.keepF hk) (hS.keepF hk) (hl.keepF hk) hI (hr.keepF hk))
 have HKA := hide (((kAlloc w (.cells #[.slice so S.length sc] 24)).alloc (.cells #[.bool hh, .slice uo vals.length uc] 28)).alloc (.cells #[.bool false, .slice none 0 0, .int .i64 0, .int .i64 0] 32))
 have hX := heap_alloc_new ((w.alloc (.cells #[.slice so S.length sc] 24)).alloc (.cells #[.bool hh, .slice uo vals.length uc] 28)) (.cells #[.bool false, .slice none 0 0, .int .i64 0, .int .i64 0] 32)
 rw [show ((w.alloc (.cells #[.slice so S.length sc] 24)).alloc (.cells #[.bool hh, .slice uo vals.length uc] 28)).heap.size = w.heap.size + 1 + 1 by simp] at hX
 have HX := hide hX
 have HEE := hide hE
 have HSS := hide hS
 have HLL := hide hl
 have HLT := hide (look_tells S l)
 have HVA : Hid ((verifyA S l).2.2 = (lookA S l).2.2) := rfl
 generalize hV : (verifyA S l).2.2 = V at *
 generalize hR : rowE S hh vals = R at *
 obtain ⟨T, HTT⟩ : ∃ T, Hid (playM S l l.length 0 ⟨[], hh, vals⟩ = T) := ⟨_, rfl⟩
 rw [uh HTT]
 clear hE hS hl hr hX
 go_enter Tryz.func10, Tryz.ntmps10
 go_wp2_with fail
 refine ((uh HB) _ (uh HKA)).mono ?_
 rintro e w1 hbg
 generalize ((w.alloc (.cells #[.slice so S.length sc] 24)).alloc (.cells #[.bool hh, .slice uo vals.length uc] 28)).alloc (.cells #[.bool false, .slice none 0 0, .int .i64 0, .int .i64 0] 32) = W0 at *
 rcases hbg with ⟨hV0, rfl, hk1⟩ | ⟨hV0, hR0, rfl, hk1⟩ | ⟨hV0, hR0, b, rv, rfl, hm1⟩
 ·have hk2 := hk1.alloc (.cells #[.pointer none] 69)
  have hX1 := (hk2.block _ (lt_of_block (uh HX)) id).trans (uh HX)
  obtain ⟨z0, z1, z2, z3, y0, y1, y2, y3⟩ := out_facts hX1
  obtain ⟨s0, s1, s2, s3⟩ := set4c hX1 (.bool false) (.slice none 0 0) (.int .i64 0) (.int .i64 0)
  have HK := hide (((uh HKA).trans hk2).fresh (by omega) (keeps_set4 (w1.alloc (.cells #[.pointer none] 69)) (w.heap.size + 1 + 1) (.bool false) (.slice none 0 0) (.int .i64 0) (.int .i64 0)))
  clear hX1 hk1 hk2
  go_wp2_with fail
  refine bodyPost_ret (v := .tuple #[.agg #[.bool false, .slice none 0 0, .int .i64 0, .int .i64 0], .int .i64 V]) (by simp [results, go_sem, s0, s1, s2, s3]) rfl ?_
  exact Or.inl ⟨Or.inl hV0, by rw [if_pos hV0], uh HK⟩
 ·have hk2 := hk1.alloc (.cells #[.pointer none] 69)
  have hX1 := (hk2.block _ (lt_of_block (uh HX)) id).trans (uh HX)
  obtain ⟨z0, z1, z2, z3, y0, y1, y2, y3⟩ := out_facts hX1
  obtain ⟨s0, s1, s2, s3⟩ := set4c hX1 (.bool false) (.slice none 0 0) (.int .i64 0) (.int .i64 0)
  have HK := hide (((uh HKA).trans hk2).fresh (by omega) (keeps_set4 (w1.alloc (.cells #[.pointer none] 69)) (w.heap.size + 1 + 1) (.bool false) (.slice none 0 0) (.int .i64 0) (.int .i64 0)))
  clear hX1 hk1 hk2
  go_wp2_with fail
  refine bodyPost_ret (v := .tuple #[.agg #[.bool false, .slice none 0 0, .int .i64 0, .int .i64 0], .int .i64 R]) (by simp [results, go_sem, s0, s1, s2, s3]) rfl ?_
  exact Or.inl ⟨Or.inr hR0, by rw [if_neg (by rw [hV0]; decide)], uh HK⟩
 ·have HM1 := hide hm1
  have hkr := kAlloc w1 (.cells #[.pointer (some ⟨b, 0, none⟩)] 69)
  have hko := kAlloc (w1.alloc (.cells #[.pointer (some ⟨b, 0, none⟩)] 69)) (.cells #[.bool false, .slice none 0 0, .int .i64 0, .int .i64 0] 32)
  have hR1 := heap_alloc_new w1 (.cells #[.pointer (some ⟨b, 0, none⟩)] 69)
  have hO1 := heap_alloc_new (w1.alloc (.cells #[.pointer (some ⟨b, 0, none⟩)] 69)) (.cells #[.bool false, .slice none 0 0, .int .i64 0, .int .i64 0] 32)
  rw [show (w1.alloc (.cells #[.pointer (some ⟨b, 0, none⟩)] 69)).heap.size = w1.heap.size + 1 by simp] at hO1
  have hR2 := (hko.block _ (lt_of_block hR1) id).trans hR1
  have hm2 := hm1.keepF (hkr.trans hko)
  have HKW := hide (hkr.trans hko)
  have hP0 : RunP W0 ((w1.alloc (.cells #[.pointer (some ⟨b, 0, none⟩)] 69)).alloc (.cells #[.bool false, .slice none 0 0, .int .i64 0, .int .i64 0] 32)) b (w1.heap.size + 1) w1.heap.size [] := ⟨hO1, hR2, ⟨Nat.le_trans hm1.kept.size (by omega), hm1.kept.size⟩, by simp [deepD]⟩
  obtain ⟨ps, hlk, _, hH, _, hL96, hSK, hF, hJ⟩ := (uh HLT).resolve_left (fun ⟨k', e', hle, hne⟩ => hne (by have := uh HVA; rw [hle] at this; simp only at this; omega))
  have hz : errS S = 0 := by
   have := look_parts' hlk
   exact this
  have hTy : TyM S ⟨[], hh, vals⟩ [] := ⟨rfl, fun v hv => by simp at hv, rowE_ok (by rw [hR]; exact hR0)⟩
  have HQ := hide (play24_v S l (.slice vo l.length vc) _ (.pointer (some ⟨w1.heap.size + 1, 0, none⟩)) (.pointer (some ⟨w1.heap.size, 0, none⟩)) (fun D W => RunP W0 W b (w1.heap.size + 1) w1.heap.size D) (fun D k m rv W hk hdk _ hp hm => run1_v D k hp hm (by omega)) (fun D W W' rv m hm hp hk => hp.stays hm hk) hm2 hP0 ((uh HEE).keepF (uh HKA)).types ((uh HSS).keepF (uh HKA)) hz ((uh HLL).keepF (uh HKA)) hL96 hF hJ hH hTy)
  subst hV0
  subst hR0
  have hsz1 : w.heap.size + 1 + 1 < w1.heap.size := Nat.lt_of_lt_of_le (lt_of_block (uh HX)) (uh HM1).kept.size
  clear hR1 hO1 hR2 hm1 hm2 hP0 hF hJ hH hSK hlk hz hTy hkr hko HLT
  rw [uh HTT] at HQ
  go_wp2_with fail
  refine (uh HQ).mono ?_
  rintro e w2 ⟨rfl, hp2, ⟨rv2, hm2⟩, _⟩
  have hvals2 := hm2.vals
  obtain ⟨xo, xc, rfl⟩ := RowAt.form hvals2
  have hX2 := (hm2.kept.block _ (lt_of_block (uh HX)) id).trans (uh HX)
  obtain ⟨z0, z1, z2, z3, y0, y1, y2, y3⟩ := out_facts hX2
  obtain ⟨curb, hBb, _⟩ := hm2.run.blk
  have hob : ¬ w1.heap.size + 1 = b := fun q => by have := hp2.o; rw [q, hBb] at this; simp at this
  have hrb : ¬ w.heap.size + 1 + 1 = b := fun q => by rw [q, hBb] at hX2; simp at hX2
  have c1 := hm2.run.c1
  have c2 := hm2.run.c2
  have a0 := frozen_of_blk hp2.o 0
  have a1 := frozen_of_blk hp2.o 1
  have e0 : w2.cell? ⟨w1.heap.size + 1, 0, none⟩ = some (.bool false) := (cell_of_blk hp2.o _).trans rfl
  have e1 : w2.cell? ⟨w1.heap.size + 1, 1, none⟩ = some (.slice none 0 0) := (cell_of_blk hp2.o _).trans rfl
  have e2 : w2.cell? ⟨w1.heap.size + 1, 2, none⟩ = some (.int .i64 (T.1.length : Int)) := (cell_of_blk hp2.o _).trans rfl
  have e3 : w2.cell? ⟨w1.heap.size + 1, 3, none⟩ = some (.int .i64 (deepD T.1 : Int)) := (cell_of_blk hp2.o _).trans rfl
  have r0 : w2.cell? ⟨w1.heap.size, 0, none⟩ = some (.pointer (some ⟨b, 0, none⟩)) := (cell_of_blk hp2.r _).trans rfl
  have HP2 := hide hp2
  have HM2 := hide hm2
  have HX2 := hide hX2
  generalize hOB : w1.heap.size + 1 = ob at *
  have hres : ¬ w.heap.size + 1 + 1 = ob := by omega
  clear HQ hBb hX2 hp2 hm2 hvals2
  have hP := uh HP2
  have hM2 := uh HM2
  have ko : Keeps (fun q => q = ob) w2 ((w2.setCell ⟨ob, 0, none⟩ (.bool T.2.here)).setCell ⟨ob, 1, none⟩ (.slice xo T.2.vals.length xc)) := Keeps.setCell (F := fun q => q = ob) (p := ⟨ob, 1, none⟩) (Keeps.setCell (F := fun q => q = ob) (p := ⟨ob, 0, none⟩) (Keeps.refl (fun q => q = ob) w2) (fun _ => rfl) _) (fun _ => rfl) _
  have hX3 := (ko.block _ (lt_of_block (uh HX2)) hres).trans (uh HX2)
  obtain ⟨s0, s1, s2, s3⟩ := set4c hX3 (.bool T.2.here) (.slice xo T.2.vals.length xc) (.int .i64 (T.1.length : Int)) (.int .i64 (deepD T.1 : Int))
  have kr := keeps_set4 ((w2.setCell ⟨ob, 0, none⟩ (.bool T.2.here)).setCell ⟨ob, 1, none⟩ (.slice xo T.2.vals.length xc)) (w.heap.size + 1 + 1) (.bool T.2.here) (.slice xo T.2.vals.length xc) (.int .i64 (T.1.length : Int)) (.int .i64 (deepD T.1 : Int))
  have hvf : ∀ q, (Value.slice xo T.2.vals.length xc).ownBlock = some q → ¬ q = ob ∧ ¬ q = w.heap.size + 1 + 1 := fun q e => by
   obtain ⟨_, cur, hc⟩ := hM2.rty q e
   refine ⟨fun h => ?_, fun h => ?_⟩
   ·have := hP.o; rw [← h, hc] at this; simp at this
   ·have := uh HX2; rw [← h, hc] at this; simp at this
  have hv3 := ((hM2.vals.kept ko (fun q e => (hvf q e).1)).kept kr (fun q e => (hvf q e).2))
  have hkf := ((((uh HKA).trans hM2.kept).then ko (fun i hi e => by omega)).then kr (fun i hi e => by omega) : Keeps (fun _ => False) w _)
  have HNW : Hid (∀ q, (Value.slice xo T.2.vals.length xc).ownBlock = some q → w.heap.size ≤ q) := fun q e => Nat.le_trans (uh HKA).size (hM2.rty q e).1
  have HV3 := hide hv3
  have HKF := hide hkf
  clear ko kr hX3 hvf hv3 hkf hP hM2
  go_wp2_with fail
  refine bodyPost_ret (v := .tuple #[.agg #[.bool T.2.here, .slice xo T.2.vals.length xc, .int .i64 (T.1.length : Int), .int .i64 (deepD T.1 : Int)], .int .i64 0]) (by simp [results, go_sem, s0, s1, s2, s3]) rfl ?_
  exact Or.inr ⟨rfl, rfl, .slice xo T.2.vals.length xc, rfl, uh HV3, uh HNW, uh HKF⟩
end Go.Proofs.YtbokbdcjpbnodaaGreatDoor
namespace Go.Proofs.YtbokbdcjpbnodaaGreatDoor
open Go.RowKit Go.Maps
set_option maxRecDepth 100000
set_option maxHeartbeats 4000000
def typT (st : List ValA) : Txt := (st.map ValA.kind).map letR
def stepCs (D : List (Nat × List ValA)) : List Value := D.flatMap fun z => [.int .i64 (z.1 : Int), str (typT z.2)]
theorem stepCs_snoc (D : List (Nat × List ValA)) (z : Nat × List ValA) : stepCs (D ++ [z]) = stepCs D ++ [.int .i64 (z.1 : Int), str (typT z.2)] := by simp [stepCs]
theorem Tryz.info92 : (Tryz.prog.info? 92).map (fun i => (i.zero, i.size, i.bytes)) = some (some (.agg #[.int .i64 0, .string ⟨#[]⟩]), 2, 24) := by kernel_rfl
structure TraceP (w0 w : World) (b tb rb : Nat) (D : List (Nat × List ValA)) : Prop where
 t : ∃ sl, w.heap[tb]? = some (.cells #[sl] 42 (0, 0)) ∧ w.ownsRow w0.heap.size 92 2 sl D.length (stepCs D)
 r : w.heap[rb]? = some (.cells #[.pointer (some ⟨b, 0, none⟩)] 69 (0, 0))
 new : w0.heap.size ≤ tb ∧ w0.heap.size ≤ rb
theorem step_appendS {w : World} {ops : Array Oper} {o : Oper} {a : Act} {K : Act → World → Prop} {Q : Exit → Act → World → Prop} {E : Prop} (hgd : o.guard = none) (s x : Operand)
  (ho : o.op = .call { callee := .builtin .append, args := #[s, x], argTypes := #[42, 42] }) (base : Nat) (ao : Option Addr) (n c : Nat) (xs : List Value) (hs : a.eval s = .slice ao n c) (hown : w.ownsRow base 92 2 (.slice ao n c) n xs)
  (q : Nat) (k : Int) (tx : Txt) (hx : a.eval x = .slice (some ⟨q, 0, none⟩) 1 1) (hq : w.heap[q]? = some (.cells #[.int .i64 k, str tx] 92 (0, 0))) (hn : n ≤ 1000) (hbase : base ≤ w.heap.size)
  (h : ∀ g cap w', w'.ownsRow base 92 2 (.slice (some ⟨g, 0, none⟩) (n + 1) cap) (n + 1) (xs ++ [.int .i64 k, str tx]) → w.grownBy w' (Value.slice ao n c).ownBlock → K (a.put o.dst (.slice (some ⟨g, 0, none⟩) (n + 1) cap)) w') : if Region.wanted o (yielded ops a.tmps) = true then Oper.wp Tryz.prog o a w K Q else E := by
 obtain ⟨i0, hi, hz0, hz1, hz2⟩ := info_parts Tryz.info92
 refine step_append_lies w hgd s x 42 ho base 92 i0 _ 2 24 Tryz.underlying42 hi hz0 hz1 hz2 rfl (by omega) (.slice ao n c) n xs hs hown ⟨q, 0, none⟩ 1 1 [.int .i64 k, str tx] hx rfl (World.news_of_block (cs := #[.int .i64 k, str tx]) (t := 92) (fr := (0, 0)) hq) (fun u hu => ?_) (by omega) (by unfold maxLen; omega) (by omega) hbase w.heap.size rfl (fun g cap w' h1 h2 _ _ => h g cap w' h1 h2)
 simp only [List.mem_cons, List.not_mem_nil, or_false] at hu
 rcases hu with rfl | rfl <;> rfl
theorem trace_post {w0 W w5 : World} {b tb rb g cap k c : Nat} {ao : Option Addr} {sv rv : Value} {m : MS} {D : List (Nat × List ValA)} {TX : Txt} (hp : TraceP w0 W b tb rb D) (hm : MR w0 W b sv rv m) (hsl : W.heap[tb]? = some (.cells #[.slice ao D.length c] 42 (0, 0))) (hown : W.ownsRow w0.heap.size 92 2 (.slice ao D.length c) D.length (stepCs D))
  (k1 : Keeps (fun q => (Value.slice ao D.length c).ownBlock = some q) W w5) (k2 : Keeps (fun q => q = tb) w5 (w5.setCell ⟨tb, 0, none⟩ (.slice (some ⟨g, 0, none⟩) (D.length + 1) cap))) (hown5 : w5.ownsRow w0.heap.size 92 2 (.slice (some ⟨g, 0, none⟩) (D.length + 1) cap) (D.length + 1) (stepCs D ++ [.int .i64 (k : Int), str TX])) (hTX : typT m.st = TX) :
  TraceP w0 (w5.setCell ⟨tb, 0, none⟩ (.slice (some ⟨g, 0, none⟩) (D.length + 1) cap)) b tb rb (D ++ [(k, m.st)]) ∧ MR w0 (w5.setCell ⟨tb, 0, none⟩ (.slice (some ⟨g, 0, none⟩) (D.length + 1) cap)) b sv rv m := by
 have nT : ¬ (Value.slice ao D.length c).ownBlock = some tb := ownsRow_ne hown hsl (by decide)
 have nR : ¬ (Value.slice ao D.length c).ownBlock = some rb := ownsRow_ne hown hp.r (by decide)
 have hT5 := (k1.block tb (lt_of_block hsl) nT).trans hsl
 have hR5 := (k1.block rb (lt_of_block hp.r) nR).trans hp.r
 have nRT : ¬ rb = tb := fun q => by have := hp.r; rw [q, hsl] at this; simp at this
 have e1 : (D ++ [(k, m.st)]).length = D.length + 1 := by simp
 obtain ⟨curb, hBb, _⟩ := hm.run.blk
 have nB : ¬ (Value.slice ao D.length c).ownBlock = some b := ownsRow_ne hown hBb (by decide)
 have nBT : ¬ b = tb := fun q => by rw [q, hsl] at hBb; simp at hBb
 have hm5 : MR w0 w5 b sv rv m := hm.keep k1 nB (fun q e hq => by
  obtain ⟨_, cur, hc⟩ := hm.rty q e
  exact ownsRow_ne hown hc (by decide) hq) (fun q hq e => by have := (ownsRow_lt hown q e).1; omega)
 refine ⟨⟨⟨_, heap_setCell_at hT5 _, ?_⟩, (k2.block rb (lt_of_block hR5) nRT).trans hR5, hp.new⟩, hm5.keep k2 nBT (fun q e hq => ?_) (fun q hq e => by have := hp.new.1; omega)⟩
 ·rw [e1, stepCs_snoc, hTX]
  exact ownsRow_kept hown5 k2 (fun q e hq => ownsRow_ne hown5 hT5 (by decide) (by rw [e, hq]))
 ·obtain ⟨_, cur, hc⟩ := hm5.rty q e
  rw [hq, hT5] at hc
  simp at hc
theorem TraceP.stays {w0 W W' : World} {b tb rb : Nat} {sv rv : Value} {m : MS} {D : List (Nat × List ValA)} (hp : TraceP w0 W b tb rb D) (hm : MR w0 W b sv rv m) (hk : Keeps (Own b rv) W W') : TraceP w0 W' b tb rb D := by
 obtain ⟨curb, hBb, _⟩ := hm.run.blk
 obtain ⟨sl, hsl, hown⟩ := hp.t
 have ne : ∀ {i : Nat} {c : Array Value} {t : TypeId}, W.heap[i]? = some (.cells c t (0, 0)) → t ≠ 77 → t ≠ 74 → ¬ Own b rv i := fun hi h8 h6 q => q.elim
  (fun q => by rw [q, hBb] at hi; simp at hi; exact h8 hi.2.symm)
  (fun q => by obtain ⟨_, cur, hc⟩ := hm.rty _ q; rw [hc] at hi; simp at hi; exact h6 hi.2.symm)
 refine ⟨⟨sl, (hk.block tb (lt_of_block hsl) (ne hsl (by decide) (by decide))).trans hsl, ownsRow_kept hown hk (fun q e => ?_)⟩, (hk.block rb (lt_of_block hp.r) (ne hp.r (by decide) (by decide))).trans hp.r, hp.new⟩
 obtain ⟨_, cur, hc⟩ := ownsRow_lt hown q e
 exact ne hc (by decide) (by decide)
theorem trace1_v {w0 W : World} {b tb rb : Nat} {sv rv : Value} {m : MS} (D : List (Nat × List ValA)) (k : Nat) (hp : TraceP w0 W b tb rb D) (hm : MR w0 W b sv rv m) (hK : ∀ v ∈ m.st, goodV v) (hd : D.length < 96) :
  Calls Tryz.prog 48 #[.int .i64 (k : Int), .pointer (some ⟨tb, 0, none⟩), .pointer (some ⟨rb, 0, none⟩)] W fun e W' => e = .returned (.tuple #[]) ∧ TraceP w0 W' b tb rb (D ++ [(k, m.st)]) ∧ MR w0 W' b sv rv m := by
 obtain ⟨sl, hsl, hown⟩ := hp.t
 obtain ⟨ao, c, rfl⟩ := RowAt.form (rowAt_own hown)
 have y0 : W.cell? ⟨tb, 0, none⟩ = some (.slice ao D.length c) := (cell_of_blk hsl _).trans rfl
 have y2 : W.cell? ⟨rb, 0, none⟩ = some (.pointer (some ⟨b, 0, none⟩)) := (cell_of_blk hp.r _).trans rfl
 have z0 := frozen_of_blk hsl 0
 have HQ : Hid (∀ (W' : World), MR w0 W' b sv rv m → Calls Tryz.prog 49 #[.pointer (some ⟨b, 0, none⟩)] W' fun e w' => e = .returned (str (typT m.st)) ∧ Keeps (fun _ => False) W' w') := fun W' q => types26_v q (fun v hv => by rcases hK v hv with h | h | h; exact Or.inl h.1; exact Or.inr (Or.inl h.1); exact Or.inr (Or.inr h.1))
 obtain ⟨TX, HTX⟩ : ∃ TX, Hid (typT m.st = TX) := ⟨_, rfl⟩
 rw [uh HTX] at HQ
 have HP := hide hp
 have HM := hide hm
 have HOW := hide hown
 have HSL := hide hsl
 clear hp hm hown hsl
 go_enter Tryz.func48, Tryz.ntmps48
 go_wp2_with fail
 have HD := hide (Keeps.refl (fun _ => False) W).drew
 have p0 : tb < W.heap.size := lt_of_block (uh HSL)
 have p1 : rb < W.heap.size := lt_of_block (uh HP).r
 obtain ⟨i0, hi, hz0, hz1, hz2⟩ := info_parts Tryz.info92
 have hdK := (uh HD).size
 have HY0 := hide (((uh HD).cell (o := 0) p0 id).trans y0)
 have HY2 := hide (((uh HD).cell (o := 0) p1 id).trans y2)
 have p0' := Nat.lt_of_lt_of_le p0 hdK
 have p1' := Nat.lt_of_lt_of_le p1 hdK
 have hrt : ¬ rb = tb := fun q => by have := (uh HP).r; rw [q, uh HSL] at this; simp at this
 have yD := uh HY0
 have HNE := hide (ownsRow_ne (uh HOW) (uh HSL) (by decide))
 have HNR := hide (ownsRow_ne (uh HOW) (uh HP).r (by decide))
 go_region_law (first
   | (rw [if_pos (by rfl)]; go_simp; go_at_call 49; refine ((uh HQ) _ ((uh HM).keepF (uh HD))).mono ?_; rintro e w2 ⟨rfl, hk2⟩; have f0 := (hk2.cell (o := 0) p0' id).trans (uh HY0); have f2 := (hk2.cell (o := 0) p1' id).trans (uh HY2); have hs2 := hk2.size; have r0 := Nat.lt_of_lt_of_le p0' hs2; have r1 := Nat.lt_of_lt_of_le p1' hs2; have g0 := ((kAlloc w2 (.cells #[.int .i64 (k : Int), str TX] 92)).cell (o := 0) r0 id).trans f0; have g2 := ((kAlloc w2 (.cells #[.int .i64 (k : Int), str TX] 92)).cell (o := 0) r1 id).trans f2; have hOW2 := (ownsRow_kept (uh HOW) ((uh HD).trans hk2) (fun _ _ => id)).alloc (.cells #[.int .i64 (k : Int), str TX] 92); have hBS2 : w0.heap.size ≤ (w2.alloc (.cells #[.int .i64 (k : Int), str TX] 92)).heap.size := (by have := (uh HM).kept.size; simp; omega); have hT2a := (((uh HD).trans hk2).alloc (.cells #[.int .i64 (k : Int), str TX] 92)).block tb p0 id |>.trans (uh HSL); have hR2a := (((uh HD).trans hk2).alloc (.cells #[.int .i64 (k : Int), str TX] 92)).block rb p1 id |>.trans (uh HP).r)
   | (refine step_appendS (by rfl) _ _ (by rfl) w0.heap.size ao D.length c (stepCs D) (by rfl) hOW2 w2.heap.size (k : Int) _ (by rfl) (heap_alloc_new w2 _) (by omega) hBS2 ?_; intro g cap' w5 hown5 hgrow5; have hT5 := (hgrow5.block tb (by simp; omega) (Ne.symm (uh HNE))).trans hT2a; have u0 := frozen_of_blk hT5 0; have x0 : w5.cell? ⟨tb, 0, none⟩ = some (.slice ao D.length c) := (cell_of_blk hT5 _).trans rfl; have x2 : w5.cell? ⟨rb, 0, none⟩ = some (.pointer (some ⟨b, 0, none⟩)) := (cell_of_blk ((hgrow5.block rb (by simp; omega) (Ne.symm (uh HNR))).trans hR2a) _).trans rfl; have x3 : (w5.setCell ⟨tb, 0, none⟩ (.slice (some ⟨g, 0, none⟩) (D.length + 1) cap')).cell? ⟨rb, 0, none⟩ = some (.pointer (some ⟨b, 0, none⟩)) := ((Keeps.setCell (F := fun q => q = tb) (p := ⟨tb, 0, none⟩) (Keeps.refl (fun q => q = tb) w5) (fun _ => rfl) (.slice (some ⟨g, 0, none⟩) (D.length + 1) cap')).cell (World.block_lt_of_cell? w5 ⟨rb, 0, none⟩ x2) hrt).trans x2))
 all_goals
  go_end0
  have k1 : Keeps (fun q => (Value.slice ao D.length c).ownBlock = some q) W w5 := (((uh HD).trans hk2).alloc (.cells #[.int .i64 (k : Int), str TX] 92)).any.grown hgrow5 (fun q e _ => e)
  have k2 : Keeps (fun q => q = tb) w5 (w5.setCell ⟨tb, 0, none⟩ (.slice (some ⟨g, 0, none⟩) (D.length + 1) cap')) := Keeps.setCell (F := fun q => q = tb) (p := ⟨tb, 0, none⟩) (Keeps.refl (fun q => q = tb) w5) (fun _ => rfl) _
  refine ⟨rfl, trace_post (uh HP) (uh HM) (uh HSL) (uh HOW) k1 k2 hown5 (uh HTX)⟩
end Go.Proofs.YtbokbdcjpbnodaaGreatDoor
namespace Go.Proofs.YtbokbdcjpbnodaaGreatDoor
open Go.RowKit Go.Maps
set_option maxRecDepth 100000
set_option maxHeartbeats 4000000
def Traced (w : World) (V R : Int) (T : List (Nat × List ValA) × MS) (e : Ending) (w' : World) : Prop :=
 ((V ≠ 0 ∨ R ≠ 0) ∧ e = .returned (.tuple #[.slice none 0 0, .int .i64 (if V ≠ 0 then V else R)]) ∧ Keeps (fun _ => False) w w') ∨
 (V = 0 ∧ R = 0 ∧ ∃ sl, e = .returned (.tuple #[sl, .int .i64 0]) ∧ w'.ownsRow w.heap.size 92 2 sl T.1.length (stepCs T.1) ∧ Keeps (fun _ => False) w w')
theorem machTrace_v (S : List FieldA) (sv u v : Value) (l : List ValA) (hh : Bool) (vals : List ValA) (w : World) (hE : Env w) (hS : FldsAt w sv S) (hl : ValsAt w v l) (hI : InR l) (hr : ValsAt w u vals) :
  Calls Tryz.prog 14 #[.agg #[sv], v, .agg #[.bool hh, u]] w fun e w' => Traced w (verifyA S l).2.2 (rowE S hh vals) (playM S l l.length 0 ⟨[], hh, vals⟩) e w' := by
 obtain ⟨so, sc, rfl⟩ := RowAt.form hS
 obtain ⟨uo, uc, rfl⟩ := RowAt.form hr
 obtain ⟨vo, vc, rfl⟩ := RowAt.form hl
 have HB := hide (fun (W : World) (hk : Keeps (fun _ => False) w W) => begin_v S (.slice so S.length sc) (.slice uo vals.length uc) (.slice vo l.length vc) l hh vals W (hE.keepF hk) (hS.keepF hk) (hl.keepF hk) hI (hr.keepF hk))
 have HKA := hide ((kAlloc w (.cells #[.slice so S.length sc] 24)).alloc (.cells #[.bool hh, .slice uo vals.length uc] 28))
 have HEE := hide hE
 have HSS := hide hS
 have HLL := hide hl
 have HLT := hide (look_tells S l)
 have HVA : Hid ((verifyA S l).2.2 = (lookA S l).2.2) := rfl
 generalize hV : (verifyA S l).2.2 = V at *
 generalize hR : rowE S hh vals = R at *
 obtain ⟨T, HTT⟩ : ∃ T, Hid (playM S l l.length 0 ⟨[], hh, vals⟩ = T) := ⟨_, rfl⟩
 rw [uh HTT]
 clear hE hS hl hr
 go_enter Tryz.func14, Tryz.ntmps14
 go_wp2_with fail
 refine ((uh HB) _ (uh HKA)).mono ?_
 rintro e w1 hbg
 generalize (w.alloc (.cells #[.slice so S.length sc] 24)).alloc (.cells #[.bool hh, .slice uo vals.length uc] 28) = W0 at *
 rcases hbg with ⟨hV0, rfl, hk1⟩ | ⟨hV0, hR0, rfl, hk1⟩ | ⟨hV0, hR0, b, rv, rfl, hm1⟩
 ·have HK := hide ((uh HKA).trans (hk1.alloc (.cells #[.pointer none] 69)))
  clear hk1
  go_wp2_with fail
  go_ret2
  exact Or.inl ⟨Or.inl hV0, by rw [if_pos hV0]; rfl, uh HK⟩
 ·have HK := hide ((uh HKA).trans (hk1.alloc (.cells #[.pointer none] 69)))
  clear hk1
  go_wp2_with fail
  go_ret2
  exact Or.inl ⟨Or.inr hR0, by rw [if_neg (by rw [hV0]; decide)]; rfl, uh HK⟩
 ·have HM1 := hide hm1
  have hkr := kAlloc w1 (.cells #[.pointer (some ⟨b, 0, none⟩)] 69)
  have hko := kAlloc (w1.alloc (.cells #[.pointer (some ⟨b, 0, none⟩)] 69)) (.cells #[.slice none 0 0] 42)
  have hR1 := heap_alloc_new w1 (.cells #[.pointer (some ⟨b, 0, none⟩)] 69)
  have hO1 := heap_alloc_new (w1.alloc (.cells #[.pointer (some ⟨b, 0, none⟩)] 69)) (.cells #[.slice none 0 0] 42)
  rw [show (w1.alloc (.cells #[.pointer (some ⟨b, 0, none⟩)] 69)).heap.size = w1.heap.size + 1 by simp] at hO1
  have hR2 := (hko.block _ (lt_of_block hR1) id).trans hR1
  have hm2 := hm1.keepF (hkr.trans hko)
  have hP0 : TraceP W0 ((w1.alloc (.cells #[.pointer (some ⟨b, 0, none⟩)] 69)).alloc (.cells #[.slice none 0 0] 42)) b (w1.heap.size + 1) w1.heap.size [] := ⟨⟨_, hO1, World.ownsRow_nil _ W0.heap.size 92 2⟩, hR2, ⟨Nat.le_trans hm1.kept.size (by omega), hm1.kept.size⟩⟩
  obtain ⟨ps, hlk, _, hH, _, hL96, hSK, hF, hJ⟩ := (uh HLT).resolve_left (fun ⟨k', e', hle, hne⟩ => hne (by have := uh HVA; rw [hle] at this; simp only at this; omega))
  have hz : errS S = 0 := look_parts' hlk
  have hTy : TyM S ⟨[], hh, vals⟩ [] := ⟨rfl, fun v hv => by simp at hv, rowE_ok (by rw [hR]; exact hR0)⟩
  have HQ := hide (play25_v S l (.slice vo l.length vc) _ (.pointer (some ⟨w1.heap.size + 1, 0, none⟩)) (.pointer (some ⟨w1.heap.size, 0, none⟩)) (fun D W => TraceP W0 W b (w1.heap.size + 1) w1.heap.size D) (fun D k m rv W hk hdk hg hp hm => trace1_v D k hp hm hg (by omega)) (fun D W W' rv m hm hp hk => hp.stays hm hk) hm2 hP0 ((uh HEE).keepF (uh HKA)).types ((uh HSS).keepF (uh HKA)) hz ((uh HLL).keepF (uh HKA)) hL96 hF hJ hH hTy)
  subst hV0
  subst hR0
  rw [uh HTT] at HQ
  clear hR1 hO1 hR2 hm1 hm2 hP0 hF hJ hH hSK hlk hz hTy hkr hko HLT
  go_wp2_with fail
  refine (uh HQ).mono ?_
  rintro e w2 ⟨rfl, hp2, ⟨rv2, hm2⟩, _⟩
  obtain ⟨sl, hsl, hown⟩ := hp2.t
  have y0 : w2.cell? ⟨w1.heap.size + 1, 0, none⟩ = some sl := (cell_of_blk hsl _).trans rfl
  obtain ⟨xo, xc, rfl⟩ := RowAt.form (rowAt_own hown)
  have HO := hide (ownsRow_base hown (uh HKA).size)
  have HK := hide ((uh HKA).trans hm2.kept)
  clear HQ hp2 hm2 hsl hown
  go_wp2_with fail
  go_ret2
  exact Or.inr ⟨rfl, rfl, _, rfl, uh HO, uh HK⟩
end Go.Proofs.YtbokbdcjpbnodaaGreatDoor
