import Derived.Test.YtbokbdcjpbnodaaGreatDoorQMo
import Derived.Test.YtbokbdcjpbnodaaGreatDoorQKc
import Derived.Deep.LoopGhost
namespace Go.Proofs.YtbokbdcjpbnodaaGreatDoor
open Go.RowKit Go.Maps
set_option maxRecDepth 100000
set_option maxHeartbeats 8000000
theorem playM_step {S : List FieldA} {l : List ValA} {k fu : Nat} {m : MS} {x : ValA} (hx : l[k]? = some x) : playM S l (fu + 1) k m = ((k, m.st) :: (playM S l fu (nextM x k m) (stepM S x m)).1, (playM S l fu (nextM x k m) (stepM S x m)).2) := by
 rw [playM, hx]
theorem playM_end {S : List FieldA} {l : List ValA} {k fu : Nat} {m : MS} (hk : l.length ≤ k) : playM S l fu k m = ([], m) := by
 cases fu with
 | zero => rfl
 | succ f => rw [playM, List.getElem?_eq_none hk]
theorem next_ok {S : List FieldA} {l : List ValA} {hv : List (Bool × List Int)} (hH : HvOK S l hv) (hJ : ∀ k i, l[k]? = some i → (opA i.kind).opd = 6 → k + 1 + i.n.toNat ≤ l.length) {k : Nat} {x : ValA} {m : MS} {ts ts' : List Int} (hx : l[k]? = some x) (hh : hv[k]? = some (true, ts)) (hb : behB S x ts = some ts') : k < nextM x k m ∧ nextM x k m ≤ l.length ∧ hv[nextM x k m]? = some (true, ts') := by
 have hk := (List.getElem?_eq_some_iff.1 hx).1
 have key : leadsB k x (nextM x k m) = true ∧ nextM x k m ≤ l.length ∧ k < nextM x k m := by
  unfold nextM
  split
  ·rename_i hc
   have ho : (opA x.kind).opd = 6 := by rcases hc with h | h <;> simp [h] <;> rfl
   have := hJ k x hx ho
   refine ⟨?_, this, by omega⟩
   unfold leadsB
   simp
   exact Or.inl (hc.elim Or.inl (fun h => Or.inr h.1))
  ·rename_i hc
   have h25 : x.kind ≠ 25 := fun q => hc (Or.inl q)
   refine ⟨?_, by omega, by omega⟩
   unfold leadsB
   simp [h25]
 exact ⟨key.2.2, key.2.1, hH.next hh hx hb key.1 key.2.1⟩
theorem play24_v {w0 w : World} {b : Nat} {sv rv : Value} {m0 : MS} (S : List FieldA) (l : List ValA) (v : Value) (hv : List (Bool × List Int)) (c1 c2 : Value) (P : List (Nat × List ValA) → World → Prop)
  (hC : ∀ (D : List (Nat × List ValA)) (k : Nat) (m : MS) (rv : Value) (W : World), k < l.length → D.length ≤ k → (∀ v ∈ m.st, goodV v) → P D W → MR w0 W b sv rv m → Calls Tryz.prog 39 #[.int .i64 (k : Int), c1, c2] W fun e W' => e = .returned (.tuple #[]) ∧ P (D ++ [(k, m.st)]) W' ∧ MR w0 W' b sv rv m)
  (hP : ∀ (D : List (Nat × List ValA)) (W W' : World) (rv : Value) (m : MS), MR w0 W b sv rv m → P D W → Keeps (Own b rv) W W' → P D W')
  (h : MR w0 w b sv rv m0) (h0 : P [] w) (hT : Types w0) (hS : FldsAt w0 sv S) (hz : errS S = 0) (hl : ValsAt w0 v l) (hL : l.length ≤ 96) (hF : ∀ i ∈ l, formB i = 0 ∧ rightF S i = true) (hJ : ∀ k i, l[k]? = some i → (opA i.kind).opd = 6 → k + 1 + i.n.toNat ≤ l.length) (hH : HvOK S l hv) (hM : TyM S m0 []) :
  Calls Tryz.prog 38 #[.pointer (some ⟨b, 0, none⟩), v, .func (.func 39) #[] #[c1, c2]] w fun e w' => e = .returned (.tuple #[]) ∧ P (playM S l l.length 0 m0).1 w' ∧ (∃ rv', MR w0 w' b sv rv' (playM S l l.length 0 m0).2) ∧ TyM S (playM S l l.length 0 m0).2 [] := by
 obtain ⟨vo, vc, rfl⟩ := RowAt.form hl
 have HV := hide hl
 have HC := hide hC
 have HP := hide hP
 have HM := hide h
 have H0 := hide h0
 clear hl hC hP h h0
 obtain ⟨TT, HTT⟩ : ∃ TT, Hid (playM S l l.length 0 m0 = TT) := ⟨_, rfl⟩
 rw [uh HTT]
 have HH := hide hH
 have HF := hide hF
 have HJ := hide hJ
 have HMT := hide hM
 have HSK := hide (schema_isK hz)
 clear hH hF hJ hM
 go_enter Tryz.func38, Tryz.ntmps38
 go_wp2
 go_step3
 go_wp2
 go_step3
 go_wp2
 go_loopg [6] (l.length) (fun fu i wr => ∃ (k : Nat) (D : List (Nat × List ValA)) (m : MS) (rv : Value) (ts : List Int), k ≤ l.length ∧ D.length ≤ k ∧ l.length ≤ k + fu ∧ i = .int .i64 (k : Int) ∧ Hid (hv[k]? = some (true, ts)) ∧ Hid (TyM S m ts) ∧ Hid (MR w0 wr b sv rv m) ∧ Hid (P D wr) ∧ Hid (D ++ (playM S l fu k m).1 = TT.1 ∧ (playM S l fu k m).2 = TT.2))
 case atStart => exact ⟨0, [], m0, rv, [], Nat.zero_le _, Nat.le_refl _, by omega, rfl, pullA_first (uh HH), uh HMT, uh HM, uh H0, by show _ ∧ _; rw [uh HTT]; exact ⟨rfl, rfl⟩⟩
 case round =>
  clear HM H0 HMT HTT
  obtain ⟨k, D, m, rv1, ts, hk, hdk, hf, rfl, HHV, HTY, HMR, HPD, HPL⟩ := hrel
  by_cases hlt : k < l.length
  ·obtain ⟨x, hx⟩ : ∃ x, l[k]? = some x := ⟨_, List.getElem?_eq_getElem hlt⟩
   obtain ⟨f, rfl⟩ : ∃ f', gk = f' + 1 := ⟨gk - 1, by omega⟩
   have HPL2 : Hid ((D ++ [(k, m.st)]) ++ (playM S l f (nextM x k m) (stepM S x m)).1 = TT.1 ∧ (playM S l f (nextM x k m) (stepM S x m)).2 = TT.2) := by
    have := uh HPL
    rw [playM_step hx] at this
    show _ ∧ _
    rw [List.append_assoc]
    exact this
   obtain ⟨x', ts', hx', hb⟩ := (uh HH).beh k ts hlt (uh HHV)
   obtain rfl := Option.some.inj (hx.symm.trans hx')
   obtain ⟨hff, hrr⟩ := (uh HF) x (List.mem_of_getElem? hx)
   obtain ⟨hn1, hn2, hn3⟩ := next_ok (m := m) (uh HH) (uh HJ) hx (uh HHV) hb
   have HTN := hide (step_ty (uh HSK) hff hrr (uh HTY) hb)
   have HN1 := hide hn1
   have HN2 := hide hn2
   have HN3 := hide hn3
   obtain ⟨vb, off, cc, e, hbl, hc⟩ := (uh HV).cells (by omega)
   simp at e
   obtain ⟨rfl, rfl⟩ := e
   have HCC := hide (hc k x hx)
   have HDL : Hid ((D ++ [(k, m.st)]).length ≤ k + 1) := by show _ ≤ _; simp; exact hdk
   have HQ := hide ((uh HC) D k m rv1 wr hlt hdk (uh HTY).good (uh HPD) (uh HMR))
   have i0 : (0 : Int) ≤ (k : Int) := by omega
   have i1 : (k : Int) < (l.length : Int) := by omega
   clear HPL HPD HMR hc hn1 hn2 hn3 hx'
   go_wp2_with fail
   refine (uh HQ).mono ?_
   rintro e w1 ⟨rfl, hp1, hm1⟩
   have d0 := (hm1.kept.cell hbl id).trans (uh HCC).1
   have d1 := (hm1.kept.cell hbl id).trans (uh HCC).2.1
   have d2 := (hm1.kept.cell hbl id).trans (uh HCC).2.2
   have HP1 := hide hp1
   have HM1 := hide hm1
   have hvb1 := Nat.lt_of_lt_of_le hbl hm1.kept.size
   clear hp1 hm1 HQ HCC
   obtain ⟨xo, xn, xs⟩ := x
   simp only at *
   by_cases h25 : xo = 25
   ·subst h25
    obtain ⟨j0, j1⟩ := form_jump hff rfl
    simp only at j0 j1
    obtain ⟨N, rfl⟩ := Int.eq_ofNat_of_zero_le j0
    have HNX : Hid (nextM ⟨25, (N : Int), xs⟩ k m = k + 1 + N) := by show _ = _; unfold nextM; simp
    have HST : Hid (stepM S ⟨25, (N : Int), xs⟩ m = m) := by
     show MS.mk (m.st.take (m.st.length - 0) ++ []) m.here m.vals = m
     rw [take_all, List.append_nil]
    have HKA := hide (kAlloc w1 (.cells #[.int .i64 25, .int .i64 (N : Int), str xs] 106))
    have HMA := hide (((uh HM1).keepF (uh HKA)).to (uh HST).symm)
    have HPA := hide ((uh HP) _ w1 _ rv1 m (uh HM1) (uh HP1) (uh HKA).any)
    rw [uh HNX] at HN1 HN2 HN3 HPL2
    have hkN := uh HN2
    have hN255 : (N : Int) ≤ 255 := j1
    clear hb hff hrr j0 j1 HM1 HP1 HTY HHV
    go_wp2_with fail
    go_roundg f
    case rel => exact ⟨k + 1 + N, _, _, rv1, ts', uh HN2, by have := uh HDL; omega, by omega, by go_num, uh HN3, uh HTN, uh HMA, uh HPA, uh HPL2⟩
    case measure => omega
   ·by_cases h26 : xo = 26
    ·subst h26
     obtain ⟨j0, j1⟩ := form_jump hff rfl
     simp only at j0 j1
     obtain ⟨N, rfl⟩ := Int.eq_ofNat_of_zero_le j0
     have hb1 : 1 ≤ ts.length := (beh_parts hb).1
     have hlen : ts.length = m.st.length := by rw [← (uh HTY).ty]; simp
     obtain ⟨j, hj⟩ : ∃ j, m.st.length = j + 1 := ⟨m.st.length - 1, by omega⟩
     have HKA := hide (kAlloc w1 (.cells #[.int .i64 26, .int .i64 (N : Int), str xs] 106))
     have HMA := hide ((uh HM1).keepF (uh HKA))
     have hXB := heap_alloc_new w1 (.cells #[.int .i64 26, .int .i64 (N : Int), str xs] 106)
     have HQ := hide (pop_v (uh HMA).run hj (top_get hj))
     have HST : Hid (stepM S ⟨26, (N : Int), xs⟩ m = ⟨m.st.take j, m.here, m.vals⟩) := by
      show MS.mk (m.st.take (m.st.length - 1) ++ []) m.here m.vals = _
      rw [hj, Nat.add_sub_cancel, List.append_nil]
     have HNY : Hid ((topV m.st).n = 1 → nextM ⟨26, (N : Int), xs⟩ k m = k + 1) := fun q => by unfold nextM; simp [q]
     have HNN : Hid (¬ (topV m.st).n = 1 → nextM ⟨26, (N : Int), xs⟩ k m = k + 1 + N) := fun q => by unfold nextM; simp [q]
     have HI := hide (fun (W : World) => isTrue_v (topV m.st) W)
     have hb5 : b < w1.heap.size := (uh HM1).run.lt
     generalize topV m.st = T at *
     clear hb hff hrr j0 hb1 hlen hj
     go_wp2_with fail
     refine (uh HQ).mono ?_
     rintro e w2 ⟨rfl, hr2, hk2⟩
     have hX2 := (hk2.block w1.heap.size (lt_of_block hXB) (by omega)).trans hXB
     have y1 : w2.cell? ⟨w1.heap.size, 1, none⟩ = some (.int .i64 (N : Int)) := (cell_of_blk hX2 _).trans rfl
     have HMB := hide ((uh HMA).stack hr2 hk2)
     have HKB := hide ((uh HKA).any.trans hk2 : Keeps (fun q => q = b) w1 w2)
     have hw2 := lt_of_block hX2
     clear hr2 hk2 HQ hXB hX2 HMA HKA
     go_wp2_with fail
     refine ((uh HI) _).mono ?_
     rintro e w3 ⟨rfl, hk3⟩
     have y3 := (hk3.cell (o := 1) hw2 id).trans y1
     have hw3 := Nat.lt_of_lt_of_le hw2 hk3.size
     have HMC := hide (((uh HMB).keepF hk3).to (uh HST).symm)
     have HPC := hide ((uh HP) _ w1 w3 rv1 m (uh HM1) (uh HP1) (((uh HKB).trans hk3.any).mono fun q _ e => Or.inl e))
     clear hk3 HMB HKB HI HM1 HP1 HTY HHV y1
     by_cases hT1 : T.n = 1
     ·rw [decide_eq_true hT1]
      rw [(uh HNY) hT1] at HN1 HN2 HN3 HPL2
      clear HNY HNN hT1
      go_wp2_with fail
      go_roundg f
      case rel => exact ⟨k + 1, _, _, rv1, ts', uh HN2, uh HDL, by omega, by go_num, uh HN3, uh HTN, uh HMC, uh HPC, uh HPL2⟩
      case measure => omega
     ·rw [decide_eq_false hT1]
      rw [(uh HNN) hT1] at HN1 HN2 HN3 HPL2
      have hkN := uh HN2
      have hN255 : (N : Int) ≤ 255 := j1
      clear HNY HNN hT1 j1
      go_wp2_with fail
      go_roundg f
      case rel => exact ⟨k + 1 + N, _, _, rv1, ts', uh HN2, by have := uh HDL; omega, by omega, by go_num, uh HN3, uh HTN, uh HMC, uh HPC, uh HPL2⟩
      case measure => omega
    ·have HKA := hide (kAlloc w1 (.cells #[.int .i64 xo, .int .i64 xn, str xs] 106))
     have hmA := (uh HM1).keepF (uh HKA)
     have HQ := hide (step_v S hmA hT hS hz ⟨xo, xn, xs⟩ (uh HTY) hb hff hrr ⟨h25, h26⟩)
     unfold ValA.v at HQ
     have HNX : Hid (nextM ⟨xo, xn, xs⟩ k m = k + 1) := by show _ = _; unfold nextM; simp [h25, h26]
     have n25 : (xo == 25) = false := by simpa using h25
     have n26 : (xo == 26) = false := by simpa using h26
     clear hb hff hrr hmA h25 h26
     go_wp2_with fail
     refine (uh HQ).mono ?_
     rintro e w2 ⟨rfl, ⟨rv2, hm2⟩, hk2⟩
     have HM2 := hide hm2
     have HP2 := hide ((uh HP) _ w1 w2 rv1 m (uh HM1) (uh HP1) ((uh HKA).any.trans hk2))
     rw [uh HNX] at HN1 HN2 HN3 HPL2
     clear hm2 hk2 HQ HM1 HP1 HTY HHV HKA
     go_wp2_with fail
     go_roundg f
     case rel => exact ⟨k + 1, _, _, rv2, ts', uh HN2, uh HDL, by omega, by go_num, uh HN3, uh HTN, uh HM2, uh HP2, uh HPL2⟩
     case measure => omega
  ·obtain rfl : k = l.length := by omega
   have HE := hide (uh HPL)
   rw [playM_end (Nat.le_refl _)] at HE
   simp only [List.append_nil] at HE
   have i1 : ¬ (l.length : Int) < (l.length : Int) := by omega
   clear HPL
   go_wp2_with fail
   go_end0
   have hts := (uh HH).last ts (uh HHV)
   have hty := uh HTY
   rw [hts] at hty
   exact ⟨rfl, (uh HE).1 ▸ uh HPD, ⟨rv1, (uh HMR).to (uh HE).2⟩, (uh HE).2 ▸ hty⟩
end Go.Proofs.YtbokbdcjpbnodaaGreatDoor
namespace Go.Proofs.YtbokbdcjpbnodaaGreatDoor
open Go.RowKit Go.Maps
set_option maxRecDepth 100000
set_option maxHeartbeats 4000000
def deepD (D : List (Nat × List ValA)) : Nat := D.foldl (fun d z => max d z.2.length) 0
theorem deepD_snoc (D : List (Nat × List ValA)) (z : Nat × List ValA) : deepD (D ++ [z]) = max (deepD D) z.2.length := by simp [deepD, List.foldl_append]
structure RunP (w0 w : World) (b ob rb : Nat) (D : List (Nat × List ValA)) : Prop where
 o : w.heap[ob]? = some (.cells #[.bool false, .slice none 0 0, .int .i64 (D.length : Int), .int .i64 (deepD D : Int)] 32 (0, 0))
 r : w.heap[rb]? = some (.cells #[.pointer (some ⟨b, 0, none⟩)] 69 (0, 0))
 new : w0.heap.size ≤ ob ∧ w0.heap.size ≤ rb
 len : D.length ≤ 96 ∧ deepD D ≤ 16
theorem run1_post {w0 W : World} {b ob rb : Nat} {sv rv : Value} {m : MS} {D : List (Nat × List ValA)} (k : Nat) (hp : RunP w0 W b ob rb D) (hm : MR w0 W b sv rv m) (hd : D.length < 96) {X : Nat} (hX : X = max (deepD D) m.st.length) :
  RunP w0 ((W.setCell ⟨ob, 2, none⟩ (.int .i64 ((D.length : Int) + 1))).setCell ⟨ob, 3, none⟩ (.int .i64 (X : Int))).drew b ob rb (D ++ [(k, m.st)]) ∧ MR w0 ((W.setCell ⟨ob, 2, none⟩ (.int .i64 ((D.length : Int) + 1))).setCell ⟨ob, 3, none⟩ (.int .i64 (X : Int))).drew b sv rv m := by
 have ko : Keeps (fun q => q = ob) W ((W.setCell ⟨ob, 2, none⟩ (.int .i64 ((D.length : Int) + 1))).setCell ⟨ob, 3, none⟩ (.int .i64 (X : Int))).drew := (Keeps.setCell (F := fun q => q = ob) (p := ⟨ob, 3, none⟩) (Keeps.setCell (F := fun q => q = ob) (p := ⟨ob, 2, none⟩) (Keeps.refl (fun q => q = ob) W) (fun _ => rfl) _) (fun _ => rfl) _).drew
 obtain ⟨curb, hBb, _⟩ := hm.run.blk
 have n1 : ¬ b = ob := fun q => by have := hp.o; rw [← q, hBb] at this; simp at this
 have n2 : ¬ rb = ob := fun q => by have := hp.o; rw [← q, hp.r] at this; simp at this
 have hl := hp.len
 have hsl := hm.run.len
 have e1 : (D ++ [(k, m.st)]).length = D.length + 1 := by simp
 have e2 : deepD (D ++ [(k, m.st)]) = X := by rw [deepD_snoc, hX]
 refine ⟨⟨?_, (ko.block rb (lt_of_block hp.r) n2).trans hp.r, hp.new, ?_⟩, ?_⟩
 ·have := heap_setCell_at (o := 3) (heap_setCell_at (o := 2) hp.o (.int .i64 ((D.length : Int) + 1))) (.int .i64 (X : Int))
  rw [e1, e2, show ((D.length + 1 : Nat) : Int) = (D.length : Int) + 1 by omega]
  exact this
 ·rw [e1, e2, hX]; omega
 ·refine hm.keep ko n1 (fun q e hq => ?_) (fun q hq e => by have := hp.new.1; omega)
  obtain ⟨_, cur, hc⟩ := hm.rty q e
  have := hp.o
  rw [← hq, hc] at this
  simp at this
theorem run1_v {w0 W : World} {b ob rb : Nat} {sv rv : Value} {m : MS} (D : List (Nat × List ValA)) (k : Nat) (hp : RunP w0 W b ob rb D) (hm : MR w0 W b sv rv m) (hd : D.length < 96) :
  Calls Tryz.prog 39 #[.int .i64 (k : Int), .pointer (some ⟨ob, 0, none⟩), .pointer (some ⟨rb, 0, none⟩)] W fun e W' => e = .returned (.tuple #[]) ∧ RunP w0 W' b ob rb (D ++ [(k, m.st)]) ∧ MR w0 W' b sv rv m := by
 have y0 : W.cell? ⟨ob, 2, none⟩ = some (.int .i64 (D.length : Int)) := (cell_of_blk hp.o _).trans rfl
 have y1 : W.cell? ⟨ob, 3, none⟩ = some (.int .i64 (deepD D : Int)) := (cell_of_blk hp.o _).trans rfl
 have y2 : W.cell? ⟨rb, 0, none⟩ = some (.pointer (some ⟨b, 0, none⟩)) := (cell_of_blk hp.r _).trans rfl
 have z0 := frozen_of_blk hp.o 2
 have z1 := frozen_of_blk hp.o 3
 have ch := hm.run.ch
 obtain ⟨curb, hBb, _⟩ := hm.run.blk
 have n1 : ob ≠ b := fun q => by subst q; rw [hp.o] at hBb; simp at hBb
 have HP := hide hp
 have HM := hide hm
 have hlen := hp.len
 have hsl := hm.run.len
 generalize hN : D.length = N at *
 generalize hE : deepD D = E at *
 generalize hL : m.st.length = L at *
 clear hp hm hBb
 obtain ⟨X, HX, hX⟩ : ∃ X : Nat, Hid (X = max E L) ∧ (((E : Int) < (L : Int) ∧ X = L) ∨ (¬ (E : Int) < (L : Int) ∧ X = E)) := by
  refine ⟨max E L, rfl, ?_⟩
  omega
 rcases hX with ⟨hlt, rfl⟩ | ⟨hlt, rfl⟩
 all_goals
  go_enter Tryz.func39, Tryz.ntmps39
  go_wp2_with fail
  go_region
  go_wp2_with fail
  go_end0
  refine ⟨rfl, ?_⟩
  have := run1_post k (uh HP) (uh HM) (by omega) (X := X) (by rw [hE, hL]; exact uh HX)
  rw [hN] at this
  exact this
theorem RunP.stays {w0 W W' : World} {b ob rb : Nat} {sv rv : Value} {m : MS} {D : List (Nat × List ValA)} (hp : RunP w0 W b ob rb D) (hm : MR w0 W b sv rv m) (hk : Keeps (Own b rv) W W') : RunP w0 W' b ob rb D := by
 obtain ⟨curb, hBb, _⟩ := hm.run.blk
 have ne : ∀ {i : Nat} {c : Array Value} {t : TypeId}, W.heap[i]? = some (.cells c t (0, 0)) → t ≠ 77 → t ≠ 74 → ¬ Own b rv i := fun hi h8 h6 q => q.elim
  (fun q => by rw [q, hBb] at hi; simp at hi; exact h8 hi.2.symm)
  (fun q => by obtain ⟨_, cur, hc⟩ := hm.rty _ q; rw [hc] at hi; simp at hi; exact h6 hi.2.symm)
 exact ⟨(hk.block ob (lt_of_block hp.o) (ne hp.o (by decide) (by decide))).trans hp.o, (hk.block rb (lt_of_block hp.r) (ne hp.r (by decide) (by decide))).trans hp.r, hp.new, hp.len⟩
end Go.Proofs.YtbokbdcjpbnodaaGreatDoor
namespace Go.Proofs.YtbokbdcjpbnodaaGreatDoor
open Go.RowKit Go.Maps
set_option maxRecDepth 100000
set_option maxHeartbeats 8000000
theorem play25_v {w0 w : World} {b : Nat} {sv rv : Value} {m0 : MS} (S : List FieldA) (l : List ValA) (v : Value) (hv : List (Bool × List Int)) (c1 c2 : Value) (P : List (Nat × List ValA) → World → Prop)
  (hC : ∀ (D : List (Nat × List ValA)) (k : Nat) (m : MS) (rv : Value) (W : World), k < l.length → D.length ≤ k → (∀ v ∈ m.st, goodV v) → P D W → MR w0 W b sv rv m → Calls Tryz.prog 48 #[.int .i64 (k : Int), c1, c2] W fun e W' => e = .returned (.tuple #[]) ∧ P (D ++ [(k, m.st)]) W' ∧ MR w0 W' b sv rv m)
  (hP : ∀ (D : List (Nat × List ValA)) (W W' : World) (rv : Value) (m : MS), MR w0 W b sv rv m → P D W → Keeps (Own b rv) W W' → P D W')
  (h : MR w0 w b sv rv m0) (h0 : P [] w) (hT : Types w0) (hS : FldsAt w0 sv S) (hz : errS S = 0) (hl : ValsAt w0 v l) (hL : l.length ≤ 96) (hF : ∀ i ∈ l, formB i = 0 ∧ rightF S i = true) (hJ : ∀ k i, l[k]? = some i → (opA i.kind).opd = 6 → k + 1 + i.n.toNat ≤ l.length) (hH : HvOK S l hv) (hM : TyM S m0 []) :
  Calls Tryz.prog 38 #[.pointer (some ⟨b, 0, none⟩), v, .func (.func 48) #[] #[c1, c2]] w fun e w' => e = .returned (.tuple #[]) ∧ P (playM S l l.length 0 m0).1 w' ∧ (∃ rv', MR w0 w' b sv rv' (playM S l l.length 0 m0).2) ∧ TyM S (playM S l l.length 0 m0).2 [] := by
 obtain ⟨vo, vc, rfl⟩ := RowAt.form hl
 have HV := hide hl
 have HC := hide hC
 have HP := hide hP
 have HM := hide h
 have H0 := hide h0
 clear hl hC hP h h0
 obtain ⟨TT, HTT⟩ : ∃ TT, Hid (playM S l l.length 0 m0 = TT) := ⟨_, rfl⟩
 rw [uh HTT]
 have HH := hide hH
 have HF := hide hF
 have HJ := hide hJ
 have HMT := hide hM
 have HSK := hide (schema_isK hz)
 clear hH hF hJ hM
 go_enter Tryz.func38, Tryz.ntmps38
 go_wp2
 go_step3
 go_wp2
 go_step3
 go_wp2
 go_loopg [6] (l.length) (fun fu i wr => ∃ (k : Nat) (D : List (Nat × List ValA)) (m : MS) (rv : Value) (ts : List Int), k ≤ l.length ∧ D.length ≤ k ∧ l.length ≤ k + fu ∧ i = .int .i64 (k : Int) ∧ Hid (hv[k]? = some (true, ts)) ∧ Hid (TyM S m ts) ∧ Hid (MR w0 wr b sv rv m) ∧ Hid (P D wr) ∧ Hid (D ++ (playM S l fu k m).1 = TT.1 ∧ (playM S l fu k m).2 = TT.2))
 case atStart => exact ⟨0, [], m0, rv, [], Nat.zero_le _, Nat.le_refl _, by omega, rfl, pullA_first (uh HH), uh HMT, uh HM, uh H0, by show _ ∧ _; rw [uh HTT]; exact ⟨rfl, rfl⟩⟩
 case round =>
  clear HM H0 HMT HTT
  obtain ⟨k, D, m, rv1, ts, hk, hdk, hf, rfl, HHV, HTY, HMR, HPD, HPL⟩ := hrel
  by_cases hlt : k < l.length
  ·obtain ⟨x, hx⟩ : ∃ x, l[k]? = some x := ⟨_, List.getElem?_eq_getElem hlt⟩
   obtain ⟨f, rfl⟩ : ∃ f', gk = f' + 1 := ⟨gk - 1, by omega⟩
   have HPL2 : Hid ((D ++ [(k, m.st)]) ++ (playM S l f (nextM x k m) (stepM S x m)).1 = TT.1 ∧ (playM S l f (nextM x k m) (stepM S x m)).2 = TT.2) := by
    have := uh HPL
    rw [playM_step hx] at this
    show _ ∧ _
    rw [List.append_assoc]
    exact this
   obtain ⟨x', ts', hx', hb⟩ := (uh HH).beh k ts hlt (uh HHV)
   obtain rfl := Option.some.inj (hx.symm.trans hx')
   obtain ⟨hff, hrr⟩ := (uh HF) x (List.mem_of_getElem? hx)
   obtain ⟨hn1, hn2, hn3⟩ := next_ok (m := m) (uh HH) (uh HJ) hx (uh HHV) hb
   have HTN := hide (step_ty (uh HSK) hff hrr (uh HTY) hb)
   have HN1 := hide hn1
   have HN2 := hide hn2
   have HN3 := hide hn3
   obtain ⟨vb, off, cc, e, hbl, hc⟩ := (uh HV).cells (by omega)
   simp at e
   obtain ⟨rfl, rfl⟩ := e
   have HCC := hide (hc k x hx)
   have HDL : Hid ((D ++ [(k, m.st)]).length ≤ k + 1) := by show _ ≤ _; simp; exact hdk
   have HQ := hide ((uh HC) D k m rv1 wr hlt hdk (uh HTY).good (uh HPD) (uh HMR))
   have i0 : (0 : Int) ≤ (k : Int) := by omega
   have i1 : (k : Int) < (l.length : Int) := by omega
   clear HPL HPD HMR hc hn1 hn2 hn3 hx'
   go_wp2_with fail
   refine (uh HQ).mono ?_
   rintro e w1 ⟨rfl, hp1, hm1⟩
   have d0 := (hm1.kept.cell hbl id).trans (uh HCC).1
   have d1 := (hm1.kept.cell hbl id).trans (uh HCC).2.1
   have d2 := (hm1.kept.cell hbl id).trans (uh HCC).2.2
   have HP1 := hide hp1
   have HM1 := hide hm1
   have hvb1 := Nat.lt_of_lt_of_le hbl hm1.kept.size
   clear hp1 hm1 HQ HCC
   obtain ⟨xo, xn, xs⟩ := x
   simp only at *
   by_cases h25 : xo = 25
   ·subst h25
    obtain ⟨j0, j1⟩ := form_jump hff rfl
    simp only at j0 j1
    obtain ⟨N, rfl⟩ := Int.eq_ofNat_of_zero_le j0
    have HNX : Hid (nextM ⟨25, (N : Int), xs⟩ k m = k + 1 + N) := by show _ = _; unfold nextM; simp
    have HST : Hid (stepM S ⟨25, (N : Int), xs⟩ m = m) := by
     show MS.mk (m.st.take (m.st.length - 0) ++ []) m.here m.vals = m
     rw [take_all, List.append_nil]
    have HKA := hide (kAlloc w1 (.cells #[.int .i64 25, .int .i64 (N : Int), str xs] 106))
    have HMA := hide (((uh HM1).keepF (uh HKA)).to (uh HST).symm)
    have HPA := hide ((uh HP) _ w1 _ rv1 m (uh HM1) (uh HP1) (uh HKA).any)
    rw [uh HNX] at HN1 HN2 HN3 HPL2
    have hkN := uh HN2
    have hN255 : (N : Int) ≤ 255 := j1
    clear hb hff hrr j0 j1 HM1 HP1 HTY HHV
    go_wp2_with fail
    go_roundg f
    case rel => exact ⟨k + 1 + N, _, _, rv1, ts', uh HN2, by have := uh HDL; omega, by omega, by go_num, uh HN3, uh HTN, uh HMA, uh HPA, uh HPL2⟩
    case measure => omega
   ·by_cases h26 : xo = 26
    ·subst h26
     obtain ⟨j0, j1⟩ := form_jump hff rfl
     simp only at j0 j1
     obtain ⟨N, rfl⟩ := Int.eq_ofNat_of_zero_le j0
     have hb1 : 1 ≤ ts.length := (beh_parts hb).1
     have hlen : ts.length = m.st.length := by rw [← (uh HTY).ty]; simp
     obtain ⟨j, hj⟩ : ∃ j, m.st.length = j + 1 := ⟨m.st.length - 1, by omega⟩
     have HKA := hide (kAlloc w1 (.cells #[.int .i64 26, .int .i64 (N : Int), str xs] 106))
     have HMA := hide ((uh HM1).keepF (uh HKA))
     have hXB := heap_alloc_new w1 (.cells #[.int .i64 26, .int .i64 (N : Int), str xs] 106)
     have HQ := hide (pop_v (uh HMA).run hj (top_get hj))
     have HST : Hid (stepM S ⟨26, (N : Int), xs⟩ m = ⟨m.st.take j, m.here, m.vals⟩) := by
      show MS.mk (m.st.take (m.st.length - 1) ++ []) m.here m.vals = _
      rw [hj, Nat.add_sub_cancel, List.append_nil]
     have HNY : Hid ((topV m.st).n = 1 → nextM ⟨26, (N : Int), xs⟩ k m = k + 1) := fun q => by unfold nextM; simp [q]
     have HNN : Hid (¬ (topV m.st).n = 1 → nextM ⟨26, (N : Int), xs⟩ k m = k + 1 + N) := fun q => by unfold nextM; simp [q]
     have HI := hide (fun (W : World) => isTrue_v (topV m.st) W)
     have hb5 : b < w1.heap.size := (uh HM1).run.lt
     generalize topV m.st = T at *
     clear hb hff hrr j0 hb1 hlen hj
     go_wp2_with fail
     refine (uh HQ).mono ?_
     rintro e w2 ⟨rfl, hr2, hk2⟩
     have hX2 := (hk2.block w1.heap.size (lt_of_block hXB) (by omega)).trans hXB
     have y1 : w2.cell? ⟨w1.heap.size, 1, none⟩ = some (.int .i64 (N : Int)) := (cell_of_blk hX2 _).trans rfl
     have HMB := hide ((uh HMA).stack hr2 hk2)
     have HKB := hide ((uh HKA).any.trans hk2 : Keeps (fun q => q = b) w1 w2)
     have hw2 := lt_of_block hX2
     clear hr2 hk2 HQ hXB hX2 HMA HKA
     go_wp2_with fail
     refine ((uh HI) _).mono ?_
     rintro e w3 ⟨rfl, hk3⟩
     have y3 := (hk3.cell (o := 1) hw2 id).trans y1
     have hw3 := Nat.lt_of_lt_of_le hw2 hk3.size
     have HMC := hide (((uh HMB).keepF hk3).to (uh HST).symm)
     have HPC := hide ((uh HP) _ w1 w3 rv1 m (uh HM1) (uh HP1) (((uh HKB).trans hk3.any).mono fun q _ e => Or.inl e))
     clear hk3 HMB HKB HI HM1 HP1 HTY HHV y1
     by_cases hT1 : T.n = 1
     ·rw [decide_eq_true hT1]
      rw [(uh HNY) hT1] at HN1 HN2 HN3 HPL2
      clear HNY HNN hT1
      go_wp2_with fail
      go_roundg f
      case rel => exact ⟨k + 1, _, _, rv1, ts', uh HN2, uh HDL, by omega, by go_num, uh HN3, uh HTN, uh HMC, uh HPC, uh HPL2⟩
      case measure => omega
     ·rw [decide_eq_false hT1]
      rw [(uh HNN) hT1] at HN1 HN2 HN3 HPL2
      have hkN := uh HN2
      have hN255 : (N : Int) ≤ 255 := j1
      clear HNY HNN hT1 j1
      go_wp2_with fail
      go_roundg f
      case rel => exact ⟨k + 1 + N, _, _, rv1, ts', uh HN2, by have := uh HDL; omega, by omega, by go_num, uh HN3, uh HTN, uh HMC, uh HPC, uh HPL2⟩
      case measure => omega
    ·have HKA := hide (kAlloc w1 (.cells #[.int .i64 xo, .int .i64 xn, str xs] 106))
     have hmA := (uh HM1).keepF (uh HKA)
     have HQ := hide (step_v S hmA hT hS hz ⟨xo, xn, xs⟩ (uh HTY) hb hff hrr ⟨h25, h26⟩)
     unfold ValA.v at HQ
     have HNX : Hid (nextM ⟨xo, xn, xs⟩ k m = k + 1) := by show _ = _; unfold nextM; simp [h25, h26]
     have n25 : (xo == 25) = false := by simpa using h25
     have n26 : (xo == 26) = false := by simpa using h26
     clear hb hff hrr hmA h25 h26
     go_wp2_with fail
     refine (uh HQ).mono ?_
     rintro e w2 ⟨rfl, ⟨rv2, hm2⟩, hk2⟩
     have HM2 := hide hm2
     have HP2 := hide ((uh HP) _ w1 w2 rv1 m (uh HM1) (uh HP1) ((uh HKA).any.trans hk2))
     rw [uh HNX] at HN1 HN2 HN3 HPL2
     clear hm2 hk2 HQ HM1 HP1 HTY HHV HKA
     go_wp2_with fail
     go_roundg f
     case rel => exact ⟨k + 1, _, _, rv2, ts', uh HN2, uh HDL, by omega, by go_num, uh HN3, uh HTN, uh HM2, uh HP2, uh HPL2⟩
     case measure => omega
  ·obtain rfl : k = l.length := by omega
   have HE := hide (uh HPL)
   rw [playM_end (Nat.le_refl _)] at HE
   simp only [List.append_nil] at HE
   have i1 : ¬ (l.length : Int) < (l.length : Int) := by omega
   clear HPL
   go_wp2_with fail
   go_end0
   have hts := (uh HH).last ts (uh HHV)
   have hty := uh HTY
   rw [hts] at hty
   exact ⟨rfl, (uh HE).1 ▸ uh HPD, ⟨rv1, (uh HMR).to (uh HE).2⟩, (uh HE).2 ▸ hty⟩
end Go.Proofs.YtbokbdcjpbnodaaGreatDoor
namespace Go.Proofs.YtbokbdcjpbnodaaGreatDoor
open Go.RowKit Go.Maps
set_option maxRecDepth 100000
set_option maxHeartbeats 2000000
theorem types26_v {w0 w : World} {b : Nat} {sv rv : Value} {m : MS} (h : MR w0 w b sv rv m) (hK : ∀ v ∈ m.st, isK v.kind) :
  Calls Tryz.prog 49 #[.pointer (some ⟨b, 0, none⟩)] w fun e w' => e = .returned (str ((m.st.map ValA.kind).map letR)) ∧ Keeps (fun _ => False) w w' := by
 obtain ⟨st, HST0⟩ : ∃ st, Hid (m.st.map ValA.kind = st) := ⟨_, rfl⟩
 rw [uh HST0]
 have hlen : m.st.length = st.length := by rw [← uh HST0]; simp
 have hl : st.length ≤ 16 := by have := h.run.len; omega
 have HC : Hid (∀ (i : Nat) (x : Int), st[i]? = some x → isK x ∧ w.cell? ⟨b, 3 + i * 3, none⟩ = some (.int .i64 x)) := fun i x hx => by
  rw [← uh HST0, List.getElem?_map] at hx
  cases hy : m.st[i]? with
  | none => rw [hy] at hx; cases hx
  | some y =>
   rw [hy] at hx
   cases hx
   exact ⟨hK y (List.mem_of_getElem? hy), (h.run.stk i y hy).1⟩
 have ch := h.run.ch
 rw [hlen] at ch
 have hb := h.run.lt
 clear h hK hlen HST0
 have hmk := run_mkb st.length st.length (Nat.le_refl _) (by omega)
 have HO := hide (owns_made w st.length st.length (Nat.le_refl _) (by omega))
 have HK0 := hide ((Keeps.refl (fun _ => False) w).alloc (.cells (madeCells #[.int .u8 0] st.length) 5))
 go_enter Tryz.func49, Tryz.ntmps49
 go_wp2_with fail
 clear hmk
 have hO0 : (w.alloc (.cells (madeCells #[.int .u8 0] st.length) 5)).ownsRow w.heap.size 5 1 (.slice (some ⟨w.heap.size, 0, none⟩) st.length st.length) st.length (rowK st 0) := by
  have := uh HO
  simpa [rowK] using this
 have HO0 := hide hO0
 clear hO0 HO
 generalize hg : w.heap.size = g at *
 generalize w.alloc (.cells (madeCells #[.int .u8 0] st.length) 5) = W1 at *
 go_loopw [12] (fun i wr => ∃ k : Nat, k ≤ st.length ∧ i = .int .i64 k ∧ wr.ownsRow g 5 1 (.slice (some ⟨g, 0, none⟩) st.length st.length) st.length (rowK st k) ∧ Keeps (fun _ => False) w wr) (fun i _ => st.length - (intOf i).toNat)
 case atStart => exact ⟨0, Nat.zero_le _, rfl, uh HO0, uh HK0⟩
 case round =>
  obtain ⟨k, hk, rfl, ho, hkp⟩ := hrel
  by_cases hlt : k < st.length
  ·obtain ⟨x, hx⟩ : ∃ x, st[k]? = some x := ⟨_, List.getElem?_eq_getElem hlt⟩
   have hb' : b < w.heap.size := by omega
   have c0 := (hkp.cell hb' id).trans ((uh HC) k x hx).2
   have f0 := ho.frozenAt k
   obtain ⟨dd, d0⟩ : ∃ dd, wr.cell? ⟨g, k, none⟩ = some dd := ⟨_, (ho.cellAt k (by omega)).trans (List.getElem?_eq_getElem (by rw [rowK_length hk]; exact hlt))⟩
   have HST := hide ((ho.stored k (.int .u8 (num (letR x)))).1)
   rw [rowK_set hx] at HST
   have HKS := hide (hkp.then (keeps_set wr g k (.int .u8 (num (letR x)))) (fun i hi q => by omega))
   have i2 : (k : Int) < (st.length : Int) := by omega
   have i0' : (0 : Int) ≤ (k : Int) := by omega
   have i3 : (k : Int) < 16 := by omega
   have hxK := ((uh HC) k x hx).1
   clear hx hkp ho
   rcases hxK with rfl | rfl | rfl
   all_goals
    go_wp2_with fail
    go_roundw
    case rel => exact ⟨k + 1, by omega, by go_num, uh HST, uh HKS⟩
    case measure => simp [intOf]; omega
  ·obtain rfl : k = st.length := by omega
   have i2 : ¬ (st.length : Int) < (st.length : Int) := by omega
   have hcv : (convert 36 9 (.slice (some ⟨g, 0, none⟩) st.length st.length)).run Tryz.prog wr = .ok (str (st.map letR)) wr := by
    have q := conv_bytes wr g st.length (st.map letR) (fun j ch hj => by
     have hjl := (List.getElem?_eq_some_iff.1 hj).1
     rw [List.length_map] at hjl
     rw [ho.cellAt j (by omega), rowK_end]
     simp only [bs, List.getElem?_map, hj, Option.map_some]
     )
    rwa [List.length_map] at q
   have HKE := hide hkp
   clear hlt ho hkp
   go_wp2_with fail
   go_ret
   exact ⟨rfl, uh HKE⟩
end Go.Proofs.YtbokbdcjpbnodaaGreatDoor
