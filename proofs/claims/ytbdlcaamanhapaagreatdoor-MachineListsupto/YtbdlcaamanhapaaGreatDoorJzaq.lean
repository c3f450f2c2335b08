import Derived.Test.YtbdlcaamanhapaaGreatDoorJzap
import Derived.Test.YtbdlcaamanhapaaGreatDoorJzao
import Derived.Deep.LoopGhost
import Derived.Test.YtbdlcaamanhapaaGreatDoorJzam
namespace Go.Proofs.YtbdlcaamanhapaaGreatDoor
open Go.RowKit Go.Maps
theorem runA_len {S : List Wq} : ∀ {rest : List ValA} {k : Nat} {ps : List PlA}, (∃ k', runA S k rest ps = (none, k', 112)) ∨ ∃ ps', runA S k rest ps = (some ps', 0, 0) ∧ ps'.length = ps.length
 | [], k, ps => by
  rw [runA]
  split
  ·exact Or.inl ⟨_, rfl⟩
  ·exact Or.inr ⟨_, rfl, rfl⟩
 | x :: rest, k, ps => by
  rw [runA]
  cases hs : stepA S k x ps with
  | none => exact Or.inl ⟨_, rfl⟩
  | some ps1 =>
   simp only
   have hl : ps1.length = ps.length := by
    unfold stepA at hs
    split at hs
    ·cases hs; rfl
    ·split at hs
     ·cases hs
     ·split at hs
      ·cases hs
      ·simp only [Option.some.injEq] at hs
       subst hs
       split <;> split <;> simp [bringAt_length]
   rcases runA_len (S := S) (rest := rest) (k := k + 1) (ps := ps1) with h | ⟨ps', h, h2⟩
   ·exact Or.inl h
   ·exact Or.inr ⟨ps', h, h2.trans hl⟩
theorem look_tells (S : List Wq) (l : List ValA) : (∃ k e, lookA S l = (none, k, e) ∧ e ≠ 0) ∨ ∃ ps, lookA S l = (some ps, 0, 0) ∧ pullA S l 0 l [] = (some (ps.map pairP), 0, 0) ∧ HvOK S l (ps.map pairP) ∧ ps.length = l.length + 1 ∧ l.length ≤ 96 ∧ (∀ f ∈ S, isK f.type) ∧ (∀ i ∈ l, formB i = 0 ∧ rightF S i = true) ∧ (∀ k i, l[k]? = some i → (opA i.kind).opd = 6 → k + 1 + i.n.toNat ≤ l.length) := by
 unfold lookA
 by_cases h1 : errS S = 0
 ·rw [if_neg (show ¬ errS S ≠ 0 from fun q => q h1)]
  by_cases h2 : (checkI S l).2 = 0
  ·rw [if_neg (show ¬ (checkI S l).2 ≠ 0 from fun q => q h2)]
   by_cases h3 : (checkT l).2 = 0
   ·rw [if_neg (show ¬ (checkT l).2 ≠ 0 from fun q => q h3)]
    obtain ⟨hl, hF⟩ := checkI_zero h2
    have hT := checkT_zero h3
    have hS := schema_isK h1
    obtain ⟨ha, hb⟩ := run_pull S l (fun i hi => (opd_kind _ (op_cases (formB_zero (hF i hi).1).1)).2.2.1) l 0 [] (startA l) rfl (Nat.zero_le _) rfl (by unfold startA; rw [bringAt_length, List.length_replicate]) (fun t ht => startA_get S l t ht) (fun j hj => absurd hj (Nat.not_lt_zero _))
    rcases runA_len (S := S) (rest := l) (k := 0) (ps := startA l) with ⟨k', h⟩ | ⟨ps, h, hps⟩
    ·exact Or.inl ⟨k', 112, h, by decide⟩
    ·rw [h] at ha hb
     have hpa : pullA S l 0 l [] = (some (ps.map pairP), 0, 0) := by
      apply Prod.ext
      ·exact hb.symm
      ·exact ha.symm
     refine Or.inr ⟨ps, h, hpa, pullA_ok hS hF l 0 [] _ rfl (Nat.zero_le _) rfl (fun k z q => by simp at q) (fun k z q => by simp at q) (fun k z q => by simp at q) hpa, ?_, hl, hS, hF, hT⟩
     rw [hps]; unfold startA; rw [bringAt_length, List.length_replicate]
   ·rw [if_pos h3]; exact Or.inl ⟨_, _, rfl, h3⟩
  ·rw [if_pos h2]; exact Or.inl ⟨_, _, rfl, h2⟩
 ·rw [if_pos h1]; exact Or.inl ⟨_, _, rfl, by decide⟩
end Go.Proofs.YtbdlcaamanhapaaGreatDoor
namespace Go.Proofs.YtbdlcaamanhapaaGreatDoor
open Go.RowKit Go.Maps
set_option maxRecDepth 100000
set_option maxHeartbeats 8000000
theorem playM_step {S : List Wq} {l : List ValA} {k fu : Nat} {m : MS} {x : ValA} (hx : l[k]? = some x) : playM S l (fu + 1) k m = ((k, m.st) :: (playM S l fu (nextM x k m) (stepM S x m)).1, (playM S l fu (nextM x k m) (stepM S x m)).2) := by
 rw [playM, hx]
theorem playM_end {S : List Wq} {l : List ValA} {k fu : Nat} {m : MS} (hk : l.length ≤ k) : playM S l fu k m = ([], m) := by
 cases fu with
 | zero => rfl
 | succ f => rw [playM, List.getElem?_eq_none hk]
theorem next_ok {S : List Wq} {l : List ValA} {hv : List (Bool × List Int)} (hH : HvOK S l hv) (hJ : ∀ k i, l[k]? = some i → (opA i.kind).opd = 6 → k + 1 + i.n.toNat ≤ l.length) {k : Nat} {x : ValA} {m : MS} {ts ts' : List Int} (hx : l[k]? = some x) (hh : hv[k]? = some (true, ts)) (hb : behB S x ts = some ts') : k < nextM x k m ∧ nextM x k m ≤ l.length ∧ hv[nextM x k m]? = some (true, ts') := by
 have hk := (List.getElem?_eq_some_iff.1 hx).1
 have key : leadsB k x (nextM x k m) = true ∧ nextM x k m ≤ l.length ∧ k < nextM x k m := by
  unfold nextM
  split
  ·rename_i hc
   have ho : (opA x.kind).opd = 6 := by rcases hc with h | h <;> simp [h] <;> rfl
   have := hJ k x hx ho
   refine ⟨?_, this, by omega⟩
   unfold leadsB
   simp
   exact Or.inl (hc.elim Or.inl (fun h => Or.inr h.1))
  ·rename_i hc
   have h25 : x.kind ≠ 25 := fun q => hc (Or.inl q)
   refine ⟨?_, by omega, by omega⟩
   unfold leadsB
   simp [h25]
 exact ⟨key.2.2, key.2.1, hH.next hh hx hb key.1 key.2.1⟩
theorem play24_v {w0 w : World} {b : Nat} {sv rv : Value} {m0 : MS} (S : List Wq) (l : List ValA) (v : Value) (hv : List (Bool × List Int)) (c1 c2 : Value) (P : List (Nat × List ValA) → World → Prop)
  (hC : ∀ (D : List (Nat × List ValA)) (k : Nat) (m : MS) (rv : Value) (W : World), k < l.length → D.length ≤ k → (∀ v ∈ m.st, goodV v) → P D W → MR w0 W b sv rv m → Calls Tryz.prog 24 #[.int .i64 (k : Int), c1, c2] W fun e W' => e = .returned (.tuple #[]) ∧ P (D ++ [(k, m.st)]) W' ∧ MR w0 W' b sv rv m)
  (hP : ∀ (D : List (Nat × List ValA)) (W W' : World) (rv : Value) (m : MS), MR w0 W b sv rv m → P D W → Wp (Own b rv) W W' → P D W')
  (h : MR w0 w b sv rv m0) (h0 : P [] w) (hT : Types w0) (hS : Wt w0 sv S) (hz : errS S = 0) (hl : Wr w0 v l) (hL : l.length ≤ 96) (hF : ∀ i ∈ l, formB i = 0 ∧ rightF S i = true) (hJ : ∀ k i, l[k]? = some i → (opA i.kind).opd = 6 → k + 1 + i.n.toNat ≤ l.length) (hH : HvOK S l hv) (hM : TyM S m0 []) :
  Calls Tryz.prog 23 #[.pointer (some ⟨b, 0, none⟩), v, .func (.func 24) #[] #[c1, c2]] w fun e w' => e = .returned (.tuple #[]) ∧ P (playM S l l.length 0 m0).1 w' ∧ (∃ rv', MR w0 w' b sv rv' (playM S l l.length 0 m0).2) ∧ TyM S (playM S l l.length 0 m0).2 [] := by
 obtain ⟨vo, vc, rfl⟩ := Ws.form hl
 have HV := zB hl
 have HC := zB hC
 have HP := zB hP
 have HM := zB h
 have H0 := zB h0
 clear hl hC hP h h0
 obtain ⟨TT, HTT⟩ : ∃ TT, Hid (playM S l l.length 0 m0 = TT) := ⟨_, rfl⟩
 rw [zA HTT]
 have HH := zB hH
 have HF := zB hF
 have HJ := zB hJ
 have HMT := zB hM
 have HSK := zB (schema_isK hz)
 clear hH hF hJ hM
 go_enter Tryz.func23, Tryz.ntmps23
 go_wp2
 go_step3
 go_wp2
 go_step3
 go_wp2
 go_loopg [6] (l.length) (fun fu i wr => ∃ (k : Nat) (D : List (Nat × List ValA)) (m : MS) (rv : Value) (ts : List Int), k ≤ l.length ∧ D.length ≤ k ∧ l.length ≤ k + fu ∧ i = .int .i64 (k : Int) ∧ Hid (hv[k]? = some (true, ts)) ∧ Hid (TyM S m ts) ∧ Hid (MR w0 wr b sv rv m) ∧ Hid (P D wr) ∧ Hid (D ++ (playM S l fu k m).1 = TT.1 ∧ (playM S l fu k m).2 = TT.2))
 case atStart => exact ⟨0, [], m0, rv, [], Nat.zero_le _, Nat.le_refl _, by omega, rfl, pullA_first (zA HH), zA HMT, zA HM, zA H0, by show _ ∧ _; rw [zA HTT]; exact ⟨rfl, rfl⟩⟩
 case round =>
  clear HM H0 HMT HTT
  obtain ⟨k, D, m, rv1, ts, hk, hdk, hf, rfl, HHV, HTY, HMR, HPD, HPL⟩ := hrel
  by_cases hlt : k < l.length
  ·obtain ⟨x, hx⟩ : ∃ x, l[k]? = some x := ⟨_, List.getElem?_eq_getElem hlt⟩
   obtain ⟨f, rfl⟩ : ∃ f', gk = f' + 1 := ⟨gk - 1, by omega⟩
   have HPL2 : Hid ((D ++ [(k, m.st)]) ++ (playM S l f (nextM x k m) (stepM S x m)).1 = TT.1 ∧ (playM S l f (nextM x k m) (stepM S x m)).2 = TT.2) := by
    have := zA HPL
    rw [playM_step hx] at this
    show _ ∧ _
    rw [List.append_assoc]
    exact this
   obtain ⟨x', ts', hx', hb⟩ := (zA HH).beh k ts hlt (zA HHV)
   obtain rfl := Option.some.inj (hx.symm.trans hx')
   obtain ⟨hff, hrr⟩ := (zA HF) x (List.mem_of_getElem? hx)
   obtain ⟨hn1, hn2, hn3⟩ := next_ok (m := m) (zA HH) (zA HJ) hx (zA HHV) hb
   have HTN := zB (step_ty (zA HSK) hff hrr (zA HTY) hb)
   have HN1 := zB hn1
   have HN2 := zB hn2
   have HN3 := zB hn3
   obtain ⟨vb, off, cc, e, hbl, hc⟩ := (zA HV).cells (by omega)
   simp at e
   obtain ⟨rfl, rfl⟩ := e
   have HCC := zB (hc k x hx)
   have HDL : Hid ((D ++ [(k, m.st)]).length ≤ k + 1) := by show _ ≤ _; simp; exact hdk
   have HQ := zB ((zA HC) D k m rv1 wr hlt hdk (zA HTY).good (zA HPD) (zA HMR))
   have i0 : (0 : Int) ≤ (k : Int) := by omega
   have i1 : (k : Int) < (l.length : Int) := by omega
   clear HPL HPD HMR hc hn1 hn2 hn3 hx'
   go_wp2_with fail
   refine (zA HQ).mono ?_
   rintro e w1 ⟨rfl, hp1, hm1⟩
   have d0 := (hm1.kept.cell hbl id).trans (zA HCC).1
   have d1 := (hm1.kept.cell hbl id).trans (zA HCC).2.1
   have d2 := (hm1.kept.cell hbl id).trans (zA HCC).2.2
   have HP1 := zB hp1
   have HM1 := zB hm1
   have hvb1 := Nat.lt_of_lt_of_le hbl hm1.kept.size
   clear hp1 hm1 HQ HCC
   obtain ⟨xo, xn, xs⟩ := x
   simp only at *
   by_cases h25 : xo = 25
   ·subst h25
    obtain ⟨j0, j1⟩ := form_jump hff rfl
    simp only at j0 j1
    obtain ⟨N, rfl⟩ := Int.eq_ofNat_of_zero_le j0
    have HNX : Hid (nextM ⟨25, (N : Int), xs⟩ k m = k + 1 + N) := by show _ = _; unfold nextM; simp
    have HST : Hid (stepM S ⟨25, (N : Int), xs⟩ m = m) := by
     show MS.mk (m.st.take (m.st.length - 0) ++ []) m.here m.vals = m
     rw [take_all, List.append_nil]
    have HKA := zB (kA w1 (.cells #[.int .i64 25, .int .i64 (N : Int), str xs] 60))
    have HMA := zB (((zA HM1).keepF (zA HKA)).to (zA HST).symm)
    have HPA := zB ((zA HP) _ w1 _ rv1 m (zA HM1) (zA HP1) (zA HKA).any)
    rw [zA HNX] at HN1 HN2 HN3 HPL2
    have hkN := zA HN2
    have hN255 : (N : Int) ≤ 255 := j1
    clear hb hff hrr j0 j1 HM1 HP1 HTY HHV
    go_wp2_with fail
    go_roundg f
    case rel => exact ⟨k + 1 + N, _, _, rv1, ts', zA HN2, by have := zA HDL; omega, by omega, by go_num, zA HN3, zA HTN, zA HMA, zA HPA, zA HPL2⟩
    case measure => omega
   ·by_cases h26 : xo = 26
    ·subst h26
     obtain ⟨j0, j1⟩ := form_jump hff rfl
     simp only at j0 j1
     obtain ⟨N, rfl⟩ := Int.eq_ofNat_of_zero_le j0
     have hb1 : 1 ≤ ts.length := (beh_parts hb).1
     have hlen : ts.length = m.st.length := by rw [← (zA HTY).ty]; simp
     obtain ⟨j, hj⟩ : ∃ j, m.st.length = j + 1 := ⟨m.st.length - 1, by omega⟩
     have HKA := zB (kA w1 (.cells #[.int .i64 26, .int .i64 (N : Int), str xs] 60))
     have HMA := zB ((zA HM1).keepF (zA HKA))
     have hXB := heap_alloc_new w1 (.cells #[.int .i64 26, .int .i64 (N : Int), str xs] 60)
     have HQ := zB (pop_v (zA HMA).run hj (top_get hj))
     have HST : Hid (stepM S ⟨26, (N : Int), xs⟩ m = ⟨m.st.take j, m.here, m.vals⟩) := by
      show MS.mk (m.st.take (m.st.length - 1) ++ []) m.here m.vals = _
      rw [hj, Nat.add_sub_cancel, List.append_nil]
     have HNY : Hid ((topV m.st).n = 1 → nextM ⟨26, (N : Int), xs⟩ k m = k + 1) := fun q => by unfold nextM; simp [q]
     have HNN : Hid (¬ (topV m.st).n = 1 → nextM ⟨26, (N : Int), xs⟩ k m = k + 1 + N) := fun q => by unfold nextM; simp [q]
     have HI := zB (fun (W : World) => isTrue_v (topV m.st) W)
     have hb5 : b < w1.heap.size := (zA HM1).run.lt
     generalize topV m.st = T at *
     clear hb hff hrr j0 hb1 hlen hj
     go_wp2_with fail
     refine (zA HQ).mono ?_
     rintro e w2 ⟨rfl, hr2, hk2⟩
     have hX2 := (hk2.block w1.heap.size (zE hXB) (by omega)).trans hXB
     have y1 : w2.cell? ⟨w1.heap.size, 1, none⟩ = some (.int .i64 (N : Int)) := (zC hX2 _).trans rfl
     have HMB := zB ((zA HMA).stack hr2 hk2)
     have HKB := zB ((zA HKA).any.trans hk2 : Wp (fun q => q = b) w1 w2)
     have hw2 := zE hX2
     clear hr2 hk2 HQ hXB hX2 HMA HKA
     go_wp2_with fail
     refine ((zA HI) _).mono ?_
     rintro e w3 ⟨rfl, hk3⟩
     have y3 := (hk3.cell (o := 1) hw2 id).trans y1
     have hw3 := Nat.lt_of_lt_of_le hw2 hk3.size
     have HMC := zB (((zA HMB).keepF hk3).to (zA HST).symm)
     have HPC := zB ((zA HP) _ w1 w3 rv1 m (zA HM1) (zA HP1) (((zA HKB).trans hk3.any).mono fun q _ e => Or.inl e))
     clear hk3 HMB HKB HI HM1 HP1 HTY HHV y1
     by_cases hT1 : T.n = 1
     ·rw [decide_eq_true hT1]
      rw [(zA HNY) hT1] at HN1 HN2 HN3 HPL2
      clear HNY HNN hT1
      go_wp2_with fail
      go_roundg f
      case rel => exact ⟨k + 1, _, _, rv1, ts', zA HN2, zA HDL, by omega, by go_num, zA HN3, zA HTN, zA HMC, zA HPC, zA HPL2⟩
      case measure => omega
     ·rw [decide_eq_false hT1]
      rw [(zA HNN) hT1] at HN1 HN2 HN3 HPL2
      have hkN := zA HN2
      have hN255 : (N : Int) ≤ 255 := j1
      clear HNY HNN hT1 j1
      go_wp2_with fail
      go_roundg f
      case rel => exact ⟨k + 1 + N, _, _, rv1, ts', zA HN2, by have := zA HDL; omega, by omega, by go_num, zA HN3, zA HTN, zA HMC, zA HPC, zA HPL2⟩
      case measure => omega
    ·have HKA := zB (kA w1 (.cells #[.int .i64 xo, .int .i64 xn, str xs] 60))
     have hmA := (zA HM1).keepF (zA HKA)
     have HQ := zB (step_v S hmA hT hS hz ⟨xo, xn, xs⟩ (zA HTY) hb hff hrr ⟨h25, h26⟩)
     unfold ValA.v at HQ
     have HNX : Hid (nextM ⟨xo, xn, xs⟩ k m = k + 1) := by show _ = _; unfold nextM; simp [h25, h26]
     have n25 : (xo == 25) = false := by simpa using h25
     have n26 : (xo == 26) = false := by simpa using h26
     clear hb hff hrr hmA h25 h26
     go_wp2_with fail
     refine (zA HQ).mono ?_
     rintro e w2 ⟨rfl, ⟨rv2, hm2⟩, hk2⟩
     have HM2 := zB hm2
     have HP2 := zB ((zA HP) _ w1 w2 rv1 m (zA HM1) (zA HP1) ((zA HKA).any.trans hk2))
     rw [zA HNX] at HN1 HN2 HN3 HPL2
     clear hm2 hk2 HQ HM1 HP1 HTY HHV HKA
     go_wp2_with fail
     go_roundg f
     case rel => exact ⟨k + 1, _, _, rv2, ts', zA HN2, zA HDL, by omega, by go_num, zA HN3, zA HTN, zA HM2, zA HP2, zA HPL2⟩
     case measure => omega
  ·obtain rfl : k = l.length := by omega
   have HE := zB (zA HPL)
   rw [playM_end (Nat.le_refl _)] at HE
   simp only [List.append_nil] at HE
   have i1 : ¬ (l.length : Int) < (l.length : Int) := by omega
   clear HPL
   go_wp2_with fail
   go_end0
   have hts := (zA HH).last ts (zA HHV)
   have hty := zA HTY
   rw [hts] at hty
   exact ⟨rfl, (zA HE).1 ▸ zA HPD, ⟨rv1, (zA HMR).to (zA HE).2⟩, (zA HE).2 ▸ hty⟩
set_option maxHeartbeats 4000000
def deepD (D : List (Nat × List ValA)) : Nat := D.foldl (fun d z => max d z.2.length) 0
theorem deepD_snoc (D : List (Nat × List ValA)) (z : Nat × List ValA) : deepD (D ++ [z]) = max (deepD D) z.2.length := by simp [deepD, List.foldl_append]
structure RunP (w0 w : World) (b ob rb : Nat) (D : List (Nat × List ValA)) : Prop where
 o : w.heap[ob]? = some (.cells #[.bool false, .slice none 0 0, .int .i64 (D.length : Int), .int .i64 (deepD D : Int)] 38 (0, 0))
 r : w.heap[rb]? = some (.cells #[.pointer (some ⟨b, 0, none⟩)] 66 (0, 0))
 new : w0.heap.size ≤ ob ∧ w0.heap.size ≤ rb
 len : D.length ≤ 96 ∧ deepD D ≤ 16
theorem run1_post {w0 W : World} {b ob rb : Nat} {sv rv : Value} {m : MS} {D : List (Nat × List ValA)} (k : Nat) (hp : RunP w0 W b ob rb D) (hm : MR w0 W b sv rv m) (hd : D.length < 96) {X : Nat} (hX : X = max (deepD D) m.st.length) :
  RunP w0 ((W.setCell ⟨ob, 2, none⟩ (.int .i64 ((D.length : Int) + 1))).setCell ⟨ob, 3, none⟩ (.int .i64 (X : Int))).drew b ob rb (D ++ [(k, m.st)]) ∧ MR w0 ((W.setCell ⟨ob, 2, none⟩ (.int .i64 ((D.length : Int) + 1))).setCell ⟨ob, 3, none⟩ (.int .i64 (X : Int))).drew b sv rv m := by
 have ko : Wp (fun q => q = ob) W ((W.setCell ⟨ob, 2, none⟩ (.int .i64 ((D.length : Int) + 1))).setCell ⟨ob, 3, none⟩ (.int .i64 (X : Int))).drew := (Wp.setCell (F := fun q => q = ob) (p := ⟨ob, 3, none⟩) (Wp.setCell (F := fun q => q = ob) (p := ⟨ob, 2, none⟩) (Wp.refl (fun q => q = ob) W) (fun _ => rfl) _) (fun _ => rfl) _).drew
 obtain ⟨curb, hBb, _⟩ := hm.run.blk
 have n1 : ¬ b = ob := fun q => by have := hp.o; rw [← q, hBb] at this; simp at this
 have n2 : ¬ rb = ob := fun q => by have := hp.o; rw [← q, hp.r] at this; simp at this
 have hl := hp.len
 have hsl := hm.run.len
 have e1 : (D ++ [(k, m.st)]).length = D.length + 1 := by simp
 have e2 : deepD (D ++ [(k, m.st)]) = X := by rw [deepD_snoc, hX]
 refine ⟨⟨?_, (ko.block rb (zE hp.r) n2).trans hp.r, hp.new, ?_⟩, ?_⟩
 ·have := zH (o := 3) (zH (o := 2) hp.o (.int .i64 ((D.length : Int) + 1))) (.int .i64 (X : Int))
  rw [e1, e2, show ((D.length + 1 : Nat) : Int) = (D.length : Int) + 1 by omega]
  exact this
 ·rw [e1, e2, hX]; omega
 ·refine hm.keep ko n1 (fun q e hq => ?_) (fun q hq e => by have := hp.new.1; omega)
  obtain ⟨_, cur, hc⟩ := hm.rty q e
  have := hp.o
  rw [← hq, hc] at this
  simp at this
theorem run1_v {w0 W : World} {b ob rb : Nat} {sv rv : Value} {m : MS} (D : List (Nat × List ValA)) (k : Nat) (hp : RunP w0 W b ob rb D) (hm : MR w0 W b sv rv m) (hd : D.length < 96) :
  Calls Tryz.prog 24 #[.int .i64 (k : Int), .pointer (some ⟨ob, 0, none⟩), .pointer (some ⟨rb, 0, none⟩)] W fun e W' => e = .returned (.tuple #[]) ∧ RunP w0 W' b ob rb (D ++ [(k, m.st)]) ∧ MR w0 W' b sv rv m := by
 have y0 : W.cell? ⟨ob, 2, none⟩ = some (.int .i64 (D.length : Int)) := (zC hp.o _).trans rfl
 have y1 : W.cell? ⟨ob, 3, none⟩ = some (.int .i64 (deepD D : Int)) := (zC hp.o _).trans rfl
 have y2 : W.cell? ⟨rb, 0, none⟩ = some (.pointer (some ⟨b, 0, none⟩)) := (zC hp.r _).trans rfl
 have z0 := zF hp.o 2
 have z1 := zF hp.o 3
 have ch := hm.run.ch
 obtain ⟨curb, hBb, _⟩ := hm.run.blk
 have n1 : ob ≠ b := fun q => by subst q; rw [hp.o] at hBb; simp at hBb
 have HP := zB hp
 have HM := zB hm
 have hlen := hp.len
 have hsl := hm.run.len
 generalize hN : D.length = N at *
 generalize hE : deepD D = E at *
 generalize hL : m.st.length = L at *
 clear hp hm hBb
 obtain ⟨X, HX, hX⟩ : ∃ X : Nat, Hid (X = max E L) ∧ (((E : Int) < (L : Int) ∧ X = L) ∨ (¬ (E : Int) < (L : Int) ∧ X = E)) := by
  refine ⟨max E L, rfl, ?_⟩
  omega
 rcases hX with ⟨hlt, rfl⟩ | ⟨hlt, rfl⟩
 all_goals
  go_enter Tryz.func24, Tryz.ntmps24
  go_wp2_with fail
  go_region
  go_wp2_with fail
  go_end0
  refine ⟨rfl, ?_⟩
  have := run1_post k (zA HP) (zA HM) (by omega) (X := X) (by rw [hE, hL]; exact zA HX)
  rw [hN] at this
  exact this
theorem RunP.stays {w0 W W' : World} {b ob rb : Nat} {sv rv : Value} {m : MS} {D : List (Nat × List ValA)} (hp : RunP w0 W b ob rb D) (hm : MR w0 W b sv rv m) (hk : Wp (Own b rv) W W') : RunP w0 W' b ob rb D := by
 obtain ⟨curb, hBb, _⟩ := hm.run.blk
 have ne : ∀ {i : Nat} {c : Array Value} {t : TypeId}, W.heap[i]? = some (.cells c t (0, 0)) → t ≠ 72 → t ≠ 51 → ¬ Own b rv i := fun hi h8 h6 q => q.elim
  (fun q => by rw [q, hBb] at hi; simp at hi; exact h8 hi.2.symm)
  (fun q => by obtain ⟨_, cur, hc⟩ := hm.rty _ q; rw [hc] at hi; simp at hi; exact h6 hi.2.symm)
 exact ⟨(hk.block ob (zE hp.o) (ne hp.o (by decide) (by decide))).trans hp.o, (hk.block rb (zE hp.r) (ne hp.r (by decide) (by decide))).trans hp.r, hp.new, hp.len⟩
theorem playM_len {S : List Wq} {l : List ValA} : ∀ (fu k : Nat) (m : MS), (playM S l fu k m).1.length ≤ fu
 | 0, _, _ => Nat.le_refl _
 | f + 1, k, m => by
  rw [playM]
  split
  ·exact Nat.zero_le _
  ·simp only [List.length_cons]
   have := playM_len (S := S) (l := l) f
   exact Nat.succ_le_succ (this _ _)
def Ran (w : World) (V R : Int) (T : List (Nat × List ValA) × MS) (e : Ending) (w' : World) : Prop :=
 ((V ≠ 0 ∨ R ≠ 0) ∧ e = .returned (.tuple #[.agg #[.bool false, .slice none 0 0, .int .i64 0, .int .i64 0], .int .i64 (if V ≠ 0 then V else R)]) ∧ Wp (fun _ => False) w w') ∨
 (V = 0 ∧ R = 0 ∧ ∃ rv, e = .returned (.tuple #[.agg #[.bool T.2.here, rv, .int .i64 (T.1.length : Int), .int .i64 (deepD T.1 : Int)], .int .i64 0]) ∧ w'.ownsRow w.heap.size 51 3 rv T.2.vals.length (vcs T.2.vals) ∧ (∀ q, rv.ownBlock = some q → w.heap.size ≤ q) ∧ Wp (fun _ => False) w w')
theorem Wu (w : World) (b : Nat) (x y z u : Value) : Wp (fun q => q = b) w ((((w.setCell ⟨b, 0, none⟩ x).setCell ⟨b, 1, none⟩ y).setCell ⟨b, 2, none⟩ z).setCell ⟨b, 3, none⟩ u) :=
 Wp.setCell (F := fun q => q = b) (p := ⟨b, 3, none⟩) (Wp.setCell (F := fun q => q = b) (p := ⟨b, 2, none⟩) (Wp.setCell (F := fun q => q = b) (p := ⟨b, 1, none⟩) (Wp.setCell (F := fun q => q = b) (p := ⟨b, 0, none⟩) (Wp.refl (fun q => q = b) w) (fun _ => rfl) x) (fun _ => rfl) y) (fun _ => rfl) z) (fun _ => rfl) u
theorem set4c {w : World} {b : Nat} {c0 c1 c2 c3 : Value} {t : TypeId} (h : w.heap[b]? = some (.cells #[c0, c1, c2, c3] t (0, 0))) (x y z u : Value) :
  ((((w.setCell ⟨b, 0, none⟩ x).setCell ⟨b, 1, none⟩ y).setCell ⟨b, 2, none⟩ z).setCell ⟨b, 3, none⟩ u).cell? ⟨b, 0, none⟩ = some x ∧ ((((w.setCell ⟨b, 0, none⟩ x).setCell ⟨b, 1, none⟩ y).setCell ⟨b, 2, none⟩ z).setCell ⟨b, 3, none⟩ u).cell? ⟨b, 1, none⟩ = some y ∧ ((((w.setCell ⟨b, 0, none⟩ x).setCell ⟨b, 1, none⟩ y).setCell ⟨b, 2, none⟩ z).setCell ⟨b, 3, none⟩ u).cell? ⟨b, 2, none⟩ = some z ∧ ((((w.setCell ⟨b, 0, none⟩ x).setCell ⟨b, 1, none⟩ y).setCell ⟨b, 2, none⟩ z).setCell ⟨b, 3, none⟩ u).cell? ⟨b, 3, none⟩ = some u := by
 have hb := zH (o := 3) (zH (o := 2) (zH (o := 1) (zH (o := 0) h x) y) z) u
 refine ⟨?_, ?_, ?_, ?_⟩ <;> (rw [zC hb]; rfl)
theorem look_parts' {S : List Wq} {l : List ValA} {ps : List PlA} (h : lookA S l = (some ps, 0, 0)) : errS S = 0 := by
 unfold lookA at h
 by_cases h1 : errS S = 0
 ·exact h1
 ·rw [if_pos h1] at h; cases h
theorem rowE_ok {S : List Wq} {hh : Bool} {vals : List ValA} (h : rowE S hh vals = 0) : rowOK S hh vals := by
 unfold rowOK
 cases hh with
 | false => rw [if_neg (by decide)]; exact rowE_nil h
 | true =>
  rw [if_pos rfl]
  unfold rowE at h
  rw [if_pos rfl] at h
  unfold errR at h
  split at h
  ·split at h
   ·rename_i hr
    unfold recB at hr
    simp only [Bool.and_eq_true, decide_eq_true_eq] at hr
    refine ⟨hr.1, fun k f v hf hv => ?_⟩
    have := hr.2
    unfold fitAll at this
    exact List.all_eq_true.1 this (f, v) (List.mem_of_getElem? (zip_get hf hv))
   ·cases h
  ·cases h
theorem out_facts {w : World} {b : Nat} (h : w.heap[b]? = some (.cells #[.bool false, .slice none 0 0, .int .i64 0, .int .i64 0] 38 (0, 0))) : w.frozen? ⟨b, 0, none⟩ = false ∧ w.frozen? ⟨b, 1, none⟩ = false ∧ w.frozen? ⟨b, 2, none⟩ = false ∧ w.frozen? ⟨b, 3, none⟩ = false ∧ w.cell? ⟨b, 0, none⟩ = some (.bool false) ∧ w.cell? ⟨b, 1, none⟩ = some (.slice none 0 0) ∧ w.cell? ⟨b, 2, none⟩ = some (.int .i64 0) ∧ w.cell? ⟨b, 3, none⟩ = some (.int .i64 0) :=
 ⟨zF h 0, zF h 1, zF h 2, zF h 3, (zC h _).trans rfl, (zC h _).trans rfl, (zC h _).trans rfl, (zC h _).trans rfl⟩
theorem machRun_v (S : List Wq) (sv u v : Value) (l : List ValA) (hh : Bool) (vals : List ValA) (w : World) (hE : Env w) (hS : Wt w sv S) (hl : Wr w v l) (hI : InR l) (hr : Wr w u vals) :
  Calls Tryz.prog 8 #[.agg #[sv], v, .agg #[.bool hh, u]] w fun e w' => Ran w (verifyA S l).2.2 (rowE S hh vals) (playM S l l.length 0 ⟨[], hh, vals⟩) e w' := by
 obtain ⟨so, sc, rfl⟩ := Ws.form hS
 obtain ⟨uo, uc, rfl⟩ := Ws.form hr
 obtain ⟨vo, vc, rfl⟩ := Ws.form hl
 have HB := zB (fun (W : World) (hk : Wp (fun _ => False) w W) => begin_v S (.slice so S.length sc) (.slice uo vals.length uc) (.slice vo l.length vc) l hh vals W (hE.keepF hk) (hS.keepF hk) (hl.keepF hk) hI (hr.keepF hk))
 have HKA := zB (((kA w (.cells #[.slice so S.length sc] 24)).alloc (.cells #[.bool hh, .slice uo vals.length uc] 27)).alloc (.cells #[.bool false, .slice none 0 0, .int .i64 0, .int .i64 0] 38))
 have hX := heap_alloc_new ((w.alloc (.cells #[.slice so S.length sc] 24)).alloc (.cells #[.bool hh, .slice uo vals.length uc] 27)) (.cells #[.bool false, .slice none 0 0, .int .i64 0, .int .i64 0] 38)
 rw [show ((w.alloc (.cells #[.slice so S.length sc] 24)).alloc (.cells #[.bool hh, .slice uo vals.length uc] 27)).heap.size = w.heap.size + 1 + 1 by simp] at hX
 have HX := zB hX
 have HEE := zB hE
 have HSS := zB hS
 have HLL := zB hl
 have HLT := zB (look_tells S l)
 have HVA : Hid ((verifyA S l).2.2 = (lookA S l).2.2) := rfl
 generalize hV : (verifyA S l).2.2 = V at *
 generalize hR : rowE S hh vals = R at *
 obtain ⟨T, HTT⟩ : ∃ T, Hid (playM S l l.length 0 ⟨[], hh, vals⟩ = T) := ⟨_, rfl⟩
 rw [zA HTT]
 clear hE hS hl hr hX
 go_enter Tryz.func8, Tryz.ntmps8
 go_wp2_with fail
 refine ((zA HB) _ (zA HKA)).mono ?_
 rintro e w1 hbg
 generalize ((w.alloc (.cells #[.slice so S.length sc] 24)).alloc (.cells #[.bool hh, .slice uo vals.length uc] 27)).alloc (.cells #[.bool false, .slice none 0 0, .int .i64 0, .int .i64 0] 38) = W0 at *
 rcases hbg with ⟨hV0, rfl, hk1⟩ | ⟨hV0, hR0, rfl, hk1⟩ | ⟨hV0, hR0, b, rv, rfl, hm1⟩
 ·have hk2 := hk1.alloc (.cells #[.pointer none] 66)
  have hX1 := (hk2.block _ (zE (zA HX)) id).trans (zA HX)
  obtain ⟨z0, z1, z2, z3, y0, y1, y2, y3⟩ := out_facts hX1
  obtain ⟨s0, s1, s2, s3⟩ := set4c hX1 (.bool false) (.slice none 0 0) (.int .i64 0) (.int .i64 0)
  have HK := zB (((zA HKA).trans hk2).fresh (by omega) (Wu (w1.alloc (.cells #[.pointer none] 66)) (w.heap.size + 1 + 1) (.bool false) (.slice none 0 0) (.int .i64 0) (.int .i64 0)))
  clear hX1 hk1 hk2
  go_wp2_with fail
  refine bodyPost_ret (v := .tuple #[.agg #[.bool false, .slice none 0 0, .int .i64 0, .int .i64 0], .int .i64 V]) (by simp [results, go_sem, s0, s1, s2, s3]) rfl ?_
  exact Or.inl ⟨Or.inl hV0, by rw [if_pos hV0], zA HK⟩
 ·have hk2 := hk1.alloc (.cells #[.pointer none] 66)
  have hX1 := (hk2.block _ (zE (zA HX)) id).trans (zA HX)
  obtain ⟨z0, z1, z2, z3, y0, y1, y2, y3⟩ := out_facts hX1
  obtain ⟨s0, s1, s2, s3⟩ := set4c hX1 (.bool false) (.slice none 0 0) (.int .i64 0) (.int .i64 0)
  have HK := zB (((zA HKA).trans hk2).fresh (by omega) (Wu (w1.alloc (.cells #[.pointer none] 66)) (w.heap.size + 1 + 1) (.bool false) (.slice none 0 0) (.int .i64 0) (.int .i64 0)))
  clear hX1 hk1 hk2
  go_wp2_with fail
  refine bodyPost_ret (v := .tuple #[.agg #[.bool false, .slice none 0 0, .int .i64 0, .int .i64 0], .int .i64 R]) (by simp [results, go_sem, s0, s1, s2, s3]) rfl ?_
  exact Or.inl ⟨Or.inr hR0, by rw [if_neg (by rw [hV0]; decide)], zA HK⟩
 ·have HM1 := zB hm1
  have hkr := kA w1 (.cells #[.pointer (some ⟨b, 0, none⟩)] 66)
  have hko := kA (w1.alloc (.cells #[.pointer (some ⟨b, 0, none⟩)] 66)) (.cells #[.bool false, .slice none 0 0, .int .i64 0, .int .i64 0] 38)
  have hR1 := heap_alloc_new w1 (.cells #[.pointer (some ⟨b, 0, none⟩)] 66)
  have hO1 := heap_alloc_new (w1.alloc (.cells #[.pointer (some ⟨b, 0, none⟩)] 66)) (.cells #[.bool false, .slice none 0 0, .int .i64 0, .int .i64 0] 38)
  rw [show (w1.alloc (.cells #[.pointer (some ⟨b, 0, none⟩)] 66)).heap.size = w1.heap.size + 1 by simp] at hO1
  have hR2 := (hko.block _ (zE hR1) id).trans hR1
  have hm2 := hm1.keepF (hkr.trans hko)
  have HKW := zB (hkr.trans hko)
  have hP0 : RunP W0 ((w1.alloc (.cells #[.pointer (some ⟨b, 0, none⟩)] 66)).alloc (.cells #[.bool false, .slice none 0 0, .int .i64 0, .int .i64 0] 38)) b (w1.heap.size + 1) w1.heap.size [] := ⟨hO1, hR2, ⟨Nat.le_trans hm1.kept.size (by omega), hm1.kept.size⟩, by simp [deepD]⟩
  obtain ⟨ps, hlk, _, hH, _, hL96, hSK, hF, hJ⟩ := (zA HLT).resolve_left (fun ⟨k', e', hle, hne⟩ => hne (by have := zA HVA; rw [hle] at this; simp only at this; omega))
  have hz : errS S = 0 := by
   have := look_parts' hlk
   exact this
  have hTy : TyM S ⟨[], hh, vals⟩ [] := ⟨rfl, fun v hv => by simp at hv, rowE_ok (by rw [hR]; exact hR0)⟩
  have HQ := zB (play24_v S l (.slice vo l.length vc) _ (.pointer (some ⟨w1.heap.size + 1, 0, none⟩)) (.pointer (some ⟨w1.heap.size, 0, none⟩)) (fun D W => RunP W0 W b (w1.heap.size + 1) w1.heap.size D) (fun D k m rv W hk hdk _ hp hm => run1_v D k hp hm (by omega)) (fun D W W' rv m hm hp hk => hp.stays hm hk) hm2 hP0 ((zA HEE).keepF (zA HKA)).types ((zA HSS).keepF (zA HKA)) hz ((zA HLL).keepF (zA HKA)) hL96 hF hJ hH hTy)
  subst hV0
  subst hR0
  have hsz1 : w.heap.size + 1 + 1 < w1.heap.size := Nat.lt_of_lt_of_le (zE (zA HX)) (zA HM1).kept.size
  clear hR1 hO1 hR2 hm1 hm2 hP0 hF hJ hH hSK hlk hz hTy hkr hko HLT
  rw [zA HTT] at HQ
  go_wp2_with fail
  refine (zA HQ).mono ?_
  rintro e w2 ⟨rfl, hp2, ⟨rv2, hm2⟩, _⟩
  have hvals2 := hm2.vals
  obtain ⟨xo, xc, rfl⟩ := Ws.form hvals2
  have hX2 := (hm2.kept.block _ (zE (zA HX)) id).trans (zA HX)
  obtain ⟨z0, z1, z2, z3, y0, y1, y2, y3⟩ := out_facts hX2
  obtain ⟨curb, hBb, _⟩ := hm2.run.blk
  have hob : ¬ w1.heap.size + 1 = b := fun q => by have := hp2.o; rw [q, hBb] at this; simp at this
  have hrb : ¬ w.heap.size + 1 + 1 = b := fun q => by rw [q, hBb] at hX2; simp at hX2
  have c1 := hm2.run.c1
  have c2 := hm2.run.c2
  have a0 := zF hp2.o 0
  have a1 := zF hp2.o 1
  have e0 : w2.cell? ⟨w1.heap.size + 1, 0, none⟩ = some (.bool false) := (zC hp2.o _).trans rfl
  have e1 : w2.cell? ⟨w1.heap.size + 1, 1, none⟩ = some (.slice none 0 0) := (zC hp2.o _).trans rfl
  have e2 : w2.cell? ⟨w1.heap.size + 1, 2, none⟩ = some (.int .i64 (T.1.length : Int)) := (zC hp2.o _).trans rfl
  have e3 : w2.cell? ⟨w1.heap.size + 1, 3, none⟩ = some (.int .i64 (deepD T.1 : Int)) := (zC hp2.o _).trans rfl
  have r0 : w2.cell? ⟨w1.heap.size, 0, none⟩ = some (.pointer (some ⟨b, 0, none⟩)) := (zC hp2.r _).trans rfl
  have HP2 := zB hp2
  have HM2 := zB hm2
  have HX2 := zB hX2
  generalize hOB : w1.heap.size + 1 = ob at *
  have hres : ¬ w.heap.size + 1 + 1 = ob := by omega
  clear HQ hBb hX2 hp2 hm2 hvals2
  have hP := zA HP2
  have hM2 := zA HM2
  have ko : Wp (fun q => q = ob) w2 ((w2.setCell ⟨ob, 0, none⟩ (.bool T.2.here)).setCell ⟨ob, 1, none⟩ (.slice xo T.2.vals.length xc)) := Wp.setCell (F := fun q => q = ob) (p := ⟨ob, 1, none⟩) (Wp.setCell (F := fun q => q = ob) (p := ⟨ob, 0, none⟩) (Wp.refl (fun q => q = ob) w2) (fun _ => rfl) _) (fun _ => rfl) _
  have hX3 := (ko.block _ (zE (zA HX2)) hres).trans (zA HX2)
  obtain ⟨s0, s1, s2, s3⟩ := set4c hX3 (.bool T.2.here) (.slice xo T.2.vals.length xc) (.int .i64 (T.1.length : Int)) (.int .i64 (deepD T.1 : Int))
  have kr := Wu ((w2.setCell ⟨ob, 0, none⟩ (.bool T.2.here)).setCell ⟨ob, 1, none⟩ (.slice xo T.2.vals.length xc)) (w.heap.size + 1 + 1) (.bool T.2.here) (.slice xo T.2.vals.length xc) (.int .i64 (T.1.length : Int)) (.int .i64 (deepD T.1 : Int))
  have hvf : ∀ q, (Value.slice xo T.2.vals.length xc).ownBlock = some q → ¬ q = ob ∧ ¬ q = w.heap.size + 1 + 1 := fun q e => by
   obtain ⟨_, cur, hc⟩ := hM2.rty q e
   refine ⟨fun h => ?_, fun h => ?_⟩
   ·have := hP.o; rw [← h, hc] at this; simp at this
   ·have := zA HX2; rw [← h, hc] at this; simp at this
  have hv3 := zI (zI (ownsRow_base hM2.ownR (zA HKA).size) ko (fun q e => (hvf q e).1)) kr (fun q e => (hvf q e).2)
  have hkf := ((((zA HKA).trans hM2.kept).then ko (fun i hi e => by omega)).then kr (fun i hi e => by omega) : Wp (fun _ => False) w _)
  have HNW : Hid (∀ q, (Value.slice xo T.2.vals.length xc).ownBlock = some q → w.heap.size ≤ q) := fun q e => Nat.le_trans (zA HKA).size (hM2.rty q e).1
  have HV3 := zB hv3
  have HKF := zB hkf
  clear ko kr hX3 hvf hv3 hkf hP hM2
  go_wp2_with fail
  refine bodyPost_ret (v := .tuple #[.agg #[.bool T.2.here, .slice xo T.2.vals.length xc, .int .i64 (T.1.length : Int), .int .i64 (deepD T.1 : Int)], .int .i64 0]) (by simp [results, go_sem, s0, s1, s2, s3]) rfl ?_
  exact Or.inr ⟨rfl, rfl, .slice xo T.2.vals.length xc, rfl, zA HV3, zA HNW, zA HKF⟩
set_option maxHeartbeats 8000000
theorem play25_v {w0 w : World} {b : Nat} {sv rv : Value} {m0 : MS} (S : List Wq) (l : List ValA) (v : Value) (hv : List (Bool × List Int)) (c1 c2 : Value) (P : List (Nat × List ValA) → World → Prop)
  (hC : ∀ (D : List (Nat × List ValA)) (k : Nat) (m : MS) (rv : Value) (W : World), k < l.length → D.length ≤ k → (∀ v ∈ m.st, goodV v) → P D W → MR w0 W b sv rv m → Calls Tryz.prog 27 #[.int .i64 (k : Int), c1, c2] W fun e W' => e = .returned (.tuple #[]) ∧ P (D ++ [(k, m.st)]) W' ∧ MR w0 W' b sv rv m)
  (hP : ∀ (D : List (Nat × List ValA)) (W W' : World) (rv : Value) (m : MS), MR w0 W b sv rv m → P D W → Wp (Own b rv) W W' → P D W')
  (h : MR w0 w b sv rv m0) (h0 : P [] w) (hT : Types w0) (hS : Wt w0 sv S) (hz : errS S = 0) (hl : Wr w0 v l) (hL : l.length ≤ 96) (hF : ∀ i ∈ l, formB i = 0 ∧ rightF S i = true) (hJ : ∀ k i, l[k]? = some i → (opA i.kind).opd = 6 → k + 1 + i.n.toNat ≤ l.length) (hH : HvOK S l hv) (hM : TyM S m0 []) :
  Calls Tryz.prog 23 #[.pointer (some ⟨b, 0, none⟩), v, .func (.func 27) #[] #[c1, c2]] w fun e w' => e = .returned (.tuple #[]) ∧ P (playM S l l.length 0 m0).1 w' ∧ (∃ rv', MR w0 w' b sv rv' (playM S l l.length 0 m0).2) ∧ TyM S (playM S l l.length 0 m0).2 [] := by
 obtain ⟨vo, vc, rfl⟩ := Ws.form hl
 have HV := zB hl
 have HC := zB hC
 have HP := zB hP
 have HM := zB h
 have H0 := zB h0
 clear hl hC hP h h0
 obtain ⟨TT, HTT⟩ : ∃ TT, Hid (playM S l l.length 0 m0 = TT) := ⟨_, rfl⟩
 rw [zA HTT]
 have HH := zB hH
 have HF := zB hF
 have HJ := zB hJ
 have HMT := zB hM
 have HSK := zB (schema_isK hz)
 clear hH hF hJ hM
 go_enter Tryz.func23, Tryz.ntmps23
 go_wp2
 go_step3
 go_wp2
 go_step3
 go_wp2
 go_loopg [6] (l.length) (fun fu i wr => ∃ (k : Nat) (D : List (Nat × List ValA)) (m : MS) (rv : Value) (ts : List Int), k ≤ l.length ∧ D.length ≤ k ∧ l.length ≤ k + fu ∧ i = .int .i64 (k : Int) ∧ Hid (hv[k]? = some (true, ts)) ∧ Hid (TyM S m ts) ∧ Hid (MR w0 wr b sv rv m) ∧ Hid (P D wr) ∧ Hid (D ++ (playM S l fu k m).1 = TT.1 ∧ (playM S l fu k m).2 = TT.2))
 case atStart => exact ⟨0, [], m0, rv, [], Nat.zero_le _, Nat.le_refl _, by omega, rfl, pullA_first (zA HH), zA HMT, zA HM, zA H0, by show _ ∧ _; rw [zA HTT]; exact ⟨rfl, rfl⟩⟩
 case round =>
  clear HM H0 HMT HTT
  obtain ⟨k, D, m, rv1, ts, hk, hdk, hf, rfl, HHV, HTY, HMR, HPD, HPL⟩ := hrel
  by_cases hlt : k < l.length
  ·obtain ⟨x, hx⟩ : ∃ x, l[k]? = some x := ⟨_, List.getElem?_eq_getElem hlt⟩
   obtain ⟨f, rfl⟩ : ∃ f', gk = f' + 1 := ⟨gk - 1, by omega⟩
   have HPL2 : Hid ((D ++ [(k, m.st)]) ++ (playM S l f (nextM x k m) (stepM S x m)).1 = TT.1 ∧ (playM S l f (nextM x k m) (stepM S x m)).2 = TT.2) := by
    have := zA HPL
    rw [playM_step hx] at this
    show _ ∧ _
    rw [List.append_assoc]
    exact this
   obtain ⟨x', ts', hx', hb⟩ := (zA HH).beh k ts hlt (zA HHV)
   obtain rfl := Option.some.inj (hx.symm.trans hx')
   obtain ⟨hff, hrr⟩ := (zA HF) x (List.mem_of_getElem? hx)
   obtain ⟨hn1, hn2, hn3⟩ := next_ok (m := m) (zA HH) (zA HJ) hx (zA HHV) hb
   have HTN := zB (step_ty (zA HSK) hff hrr (zA HTY) hb)
   have HN1 := zB hn1
   have HN2 := zB hn2
   have HN3 := zB hn3
   obtain ⟨vb, off, cc, e, hbl, hc⟩ := (zA HV).cells (by omega)
   simp at e
   obtain ⟨rfl, rfl⟩ := e
   have HCC := zB (hc k x hx)
   have HDL : Hid ((D ++ [(k, m.st)]).length ≤ k + 1) := by show _ ≤ _; simp; exact hdk
   have HQ := zB ((zA HC) D k m rv1 wr hlt hdk (zA HTY).good (zA HPD) (zA HMR))
   have i0 : (0 : Int) ≤ (k : Int) := by omega
   have i1 : (k : Int) < (l.length : Int) := by omega
   clear HPL HPD HMR hc hn1 hn2 hn3 hx'
   go_wp2_with fail
   refine (zA HQ).mono ?_
   rintro e w1 ⟨rfl, hp1, hm1⟩
   have d0 := (hm1.kept.cell hbl id).trans (zA HCC).1
   have d1 := (hm1.kept.cell hbl id).trans (zA HCC).2.1
   have d2 := (hm1.kept.cell hbl id).trans (zA HCC).2.2
   have HP1 := zB hp1
   have HM1 := zB hm1
   have hvb1 := Nat.lt_of_lt_of_le hbl hm1.kept.size
   clear hp1 hm1 HQ HCC
   obtain ⟨xo, xn, xs⟩ := x
   simp only at *
   by_cases h25 : xo = 25
   ·subst h25
    obtain ⟨j0, j1⟩ := form_jump hff rfl
    simp only at j0 j1
    obtain ⟨N, rfl⟩ := Int.eq_ofNat_of_zero_le j0
    have HNX : Hid (nextM ⟨25, (N : Int), xs⟩ k m = k + 1 + N) := by show _ = _; unfold nextM; simp
    have HST : Hid (stepM S ⟨25, (N : Int), xs⟩ m = m) := by
     show MS.mk (m.st.take (m.st.length - 0) ++ []) m.here m.vals = m
     rw [take_all, List.append_nil]
    have HKA := zB (kA w1 (.cells #[.int .i64 25, .int .i64 (N : Int), str xs] 60))
    have HMA := zB (((zA HM1).keepF (zA HKA)).to (zA HST).symm)
    have HPA := zB ((zA HP) _ w1 _ rv1 m (zA HM1) (zA HP1) (zA HKA).any)
    rw [zA HNX] at HN1 HN2 HN3 HPL2
    have hkN := zA HN2
    have hN255 : (N : Int) ≤ 255 := j1
    clear hb hff hrr j0 j1 HM1 HP1 HTY HHV
    go_wp2_with fail
    go_roundg f
    case rel => exact ⟨k + 1 + N, _, _, rv1, ts', zA HN2, by have := zA HDL; omega, by omega, by go_num, zA HN3, zA HTN, zA HMA, zA HPA, zA HPL2⟩
    case measure => omega
   ·by_cases h26 : xo = 26
    ·subst h26
     obtain ⟨j0, j1⟩ := form_jump hff rfl
     simp only at j0 j1
     obtain ⟨N, rfl⟩ := Int.eq_ofNat_of_zero_le j0
     have hb1 : 1 ≤ ts.length := (beh_parts hb).1
     have hlen : ts.length = m.st.length := by rw [← (zA HTY).ty]; simp
     obtain ⟨j, hj⟩ : ∃ j, m.st.length = j + 1 := ⟨m.st.length - 1, by omega⟩
     have HKA := zB (kA w1 (.cells #[.int .i64 26, .int .i64 (N : Int), str xs] 60))
     have HMA := zB ((zA HM1).keepF (zA HKA))
     have hXB := heap_alloc_new w1 (.cells #[.int .i64 26, .int .i64 (N : Int), str xs] 60)
     have HQ := zB (pop_v (zA HMA).run hj (top_get hj))
     have HST : Hid (stepM S ⟨26, (N : Int), xs⟩ m = ⟨m.st.take j, m.here, m.vals⟩) := by
      show MS.mk (m.st.take (m.st.length - 1) ++ []) m.here m.vals = _
      rw [hj, Nat.add_sub_cancel, List.append_nil]
     have HNY : Hid ((topV m.st).n = 1 → nextM ⟨26, (N : Int), xs⟩ k m = k + 1) := fun q => by unfold nextM; simp [q]
     have HNN : Hid (¬ (topV m.st).n = 1 → nextM ⟨26, (N : Int), xs⟩ k m = k + 1 + N) := fun q => by unfold nextM; simp [q]
     have HI := zB (fun (W : World) => isTrue_v (topV m.st) W)
     have hb5 : b < w1.heap.size := (zA HM1).run.lt
     generalize topV m.st = T at *
     clear hb hff hrr j0 hb1 hlen hj
     go_wp2_with fail
     refine (zA HQ).mono ?_
     rintro e w2 ⟨rfl, hr2, hk2⟩
     have hX2 := (hk2.block w1.heap.size (zE hXB) (by omega)).trans hXB
     have y1 : w2.cell? ⟨w1.heap.size, 1, none⟩ = some (.int .i64 (N : Int)) := (zC hX2 _).trans rfl
     have HMB := zB ((zA HMA).stack hr2 hk2)
     have HKB := zB ((zA HKA).any.trans hk2 : Wp (fun q => q = b) w1 w2)
     have hw2 := zE hX2
     clear hr2 hk2 HQ hXB hX2 HMA HKA
     go_wp2_with fail
     refine ((zA HI) _).mono ?_
     rintro e w3 ⟨rfl, hk3⟩
     have y3 := (hk3.cell (o := 1) hw2 id).trans y1
     have hw3 := Nat.lt_of_lt_of_le hw2 hk3.size
     have HMC := zB (((zA HMB).keepF hk3).to (zA HST).symm)
     have HPC := zB ((zA HP) _ w1 w3 rv1 m (zA HM1) (zA HP1) (((zA HKB).trans hk3.any).mono fun q _ e => Or.inl e))
     clear hk3 HMB HKB HI HM1 HP1 HTY HHV y1
     by_cases hT1 : T.n = 1
     ·rw [decide_eq_true hT1]
      rw [(zA HNY) hT1] at HN1 HN2 HN3 HPL2
      clear HNY HNN hT1
      go_wp2_with fail
      go_roundg f
      case rel => exact ⟨k + 1, _, _, rv1, ts', zA HN2, zA HDL, by omega, by go_num, zA HN3, zA HTN, zA HMC, zA HPC, zA HPL2⟩
      case measure => omega
     ·rw [decide_eq_false hT1]
      rw [(zA HNN) hT1] at HN1 HN2 HN3 HPL2
      have hkN := zA HN2
      have hN255 : (N : Int) ≤ 255 := j1
      clear HNY HNN hT1 j1
      go_wp2_with fail
      go_roundg f
      case rel => exact ⟨k + 1 + N, _, _, rv1, ts', zA HN2, by have := zA HDL; omega, by omega, by go_num, zA HN3, zA HTN, zA HMC, zA HPC, zA HPL2⟩
      case measure => omega
    ·have HKA := zB (kA w1 (.cells #[.int .i64 xo, .int .i64 xn, str xs] 60))
     have hmA := (zA HM1).keepF (zA HKA)
     have HQ := zB (step_v S hmA hT hS hz ⟨xo, xn, xs⟩ (zA HTY) hb hff hrr ⟨h25, h26⟩)
     unfold ValA.v at HQ
     have HNX : Hid (nextM ⟨xo, xn, xs⟩ k m = k + 1) := by show _ = _; unfold nextM; simp [h25, h26]
     have n25 : (xo == 25) = false := by simpa using h25
     have n26 : (xo == 26) = false := by simpa using h26
     clear hb hff hrr hmA h25 h26
     go_wp2_with fail
     refine (zA HQ).mono ?_
     rintro e w2 ⟨rfl, ⟨rv2, hm2⟩, hk2⟩
     have HM2 := zB hm2
     have HP2 := zB ((zA HP) _ w1 w2 rv1 m (zA HM1) (zA HP1) ((zA HKA).any.trans hk2))
     rw [zA HNX] at HN1 HN2 HN3 HPL2
     clear hm2 hk2 HQ HM1 HP1 HTY HHV HKA
     go_wp2_with fail
     go_roundg f
     case rel => exact ⟨k + 1, _, _, rv2, ts', zA HN2, zA HDL, by omega, by go_num, zA HN3, zA HTN, zA HM2, zA HP2, zA HPL2⟩
     case measure => omega
  ·obtain rfl : k = l.length := by omega
   have HE := zB (zA HPL)
   rw [playM_end (Nat.le_refl _)] at HE
   simp only [List.append_nil] at HE
   have i1 : ¬ (l.length : Int) < (l.length : Int) := by omega
   clear HPL
   go_wp2_with fail
   go_end0
   have hts := (zA HH).last ts (zA HHV)
   have hty := zA HTY
   rw [hts] at hty
   exact ⟨rfl, (zA HE).1 ▸ zA HPD, ⟨rv1, (zA HMR).to (zA HE).2⟩, (zA HE).2 ▸ hty⟩
set_option maxHeartbeats 2000000
theorem types26_v {w0 w : World} {b : Nat} {sv rv : Value} {m : MS} (h : MR w0 w b sv rv m) (hK : ∀ v ∈ m.st, isK v.kind) :
  Calls Tryz.prog 28 #[.pointer (some ⟨b, 0, none⟩)] w fun e w' => e = .returned (str ((m.st.map ValA.kind).map letR)) ∧ Wp (fun _ => False) w w' := by
 obtain ⟨st, HST0⟩ : ∃ st, Hid (m.st.map ValA.kind = st) := ⟨_, rfl⟩
 rw [zA HST0]
 have hlen : m.st.length = st.length := by rw [← zA HST0]; simp
 have hl : st.length ≤ 16 := by have := h.run.len; omega
 have HC : Hid (∀ (i : Nat) (x : Int), st[i]? = some x → isK x ∧ w.cell? ⟨b, 3 + i * 3, none⟩ = some (.int .i64 x)) := fun i x hx => by
  rw [← zA HST0, List.getElem?_map] at hx
  cases hy : m.st[i]? with
  | none => rw [hy] at hx; cases hx
  | some y =>
   rw [hy] at hx
   cases hx
   exact ⟨hK y (List.mem_of_getElem? hy), (h.run.stk i y hy).1⟩
 have ch := h.run.ch
 rw [hlen] at ch
 have hb := h.run.lt
 clear h hK hlen HST0
 have hmk := run_mkb st.length st.length (Nat.le_refl _) (by omega)
 have HO := zB (owns_made w st.length st.length (Nat.le_refl _) (by omega))
 have HK0 := zB ((Wp.refl (fun _ => False) w).alloc (.cells (madeCells #[.int .u8 0] st.length) 5))
 go_enter Tryz.func28, Tryz.ntmps28
 go_wp2_with fail
 clear hmk
 have hO0 : (w.alloc (.cells (madeCells #[.int .u8 0] st.length) 5)).ownsRow w.heap.size 5 1 (.slice (some ⟨w.heap.size, 0, none⟩) st.length st.length) st.length (rowK st 0) := by
  have := zA HO
  simpa [rowK] using this
 have HO0 := zB hO0
 clear hO0 HO
 generalize hg : w.heap.size = g at *
 generalize w.alloc (.cells (madeCells #[.int .u8 0] st.length) 5) = W1 at *
 go_loopw [12] (fun i wr => ∃ k : Nat, k ≤ st.length ∧ i = .int .i64 k ∧ wr.ownsRow g 5 1 (.slice (some ⟨g, 0, none⟩) st.length st.length) st.length (rowK st k) ∧ Wp (fun _ => False) w wr) (fun i _ => st.length - (intOf i).toNat)
 case atStart => exact ⟨0, Nat.zero_le _, rfl, zA HO0, zA HK0⟩
 case round =>
  obtain ⟨k, hk, rfl, ho, hkp⟩ := hrel
  by_cases hlt : k < st.length
  ·obtain ⟨x, hx⟩ : ∃ x, st[k]? = some x := ⟨_, List.getElem?_eq_getElem hlt⟩
   have hb' : b < w.heap.size := by omega
   have c0 := (hkp.cell hb' id).trans ((zA HC) k x hx).2
   have f0 := ho.frozenAt k
   obtain ⟨dd, d0⟩ : ∃ dd, wr.cell? ⟨g, k, none⟩ = some dd := ⟨_, (ho.cellAt k (by omega)).trans (List.getElem?_eq_getElem (by rw [rowK_length hk]; exact hlt))⟩
   have HST := zB ((ho.stored k (.int .u8 (num (letR x)))).1)
   rw [rowK_set hx] at HST
   have HKS := zB (hkp.then (keeps_set wr g k (.int .u8 (num (letR x)))) (fun i hi q => by omega))
   have i2 : (k : Int) < (st.length : Int) := by omega
   have i0' : (0 : Int) ≤ (k : Int) := by omega
   have i3 : (k : Int) < 16 := by omega
   have hxK := ((zA HC) k x hx).1
   clear hx hkp ho
   rcases hxK with rfl | rfl | rfl
   all_goals
    go_wp2_with fail
    go_roundw
    case rel => exact ⟨k + 1, by omega, by go_num, zA HST, zA HKS⟩
    case measure => simp [intOf]; omega
  ·obtain rfl : k = st.length := by omega
   have i2 : ¬ (st.length : Int) < (st.length : Int) := by omega
   have hcv : (convert 42 9 (.slice (some ⟨g, 0, none⟩) st.length st.length)).run Tryz.prog wr = .ok (str (st.map letR)) wr := by
    have q := conv_bytes wr g st.length (st.map letR) (fun j ch hj => by
     have hjl := (List.getElem?_eq_some_iff.1 hj).1
     rw [List.length_map] at hjl
     rw [ho.cellAt j (by omega), rowK_end]
     simp only [bs, List.getElem?_map, hj, Option.map_some]
     )
    rwa [List.length_map] at q
   have HKE := zB hkp
   clear hlt ho hkp
   go_wp2_with fail
   go_ret
   exact ⟨rfl, zA HKE⟩
end Go.Proofs.YtbdlcaamanhapaaGreatDoor
