import Derived.Test.YtonodcmbbgpjjaaDoorJx
import Derived.Test.YtonodcmbbgpjjaaDoorMo
import Derived.Test.YtonodcmbbgpjjaaDoorJw
namespace Go.Proofs.YtonodcmbbgpjjaaDoor
open Go.RowKit Go.Maps
set_option maxRecDepth 100000 in
set_option maxHeartbeats 8000000 in
theorem play25_v {w0 w : World} {b : Nat} {sv rv : Value} {m0 : MS} (S : List FieldA) (l : List ValA) (v : Value) (hv : List (Bool × List Int)) (c1 c2 : Value) (P : List (Nat × List ValA) → World → Prop)
    (hC : ∀ (D : List (Nat × List ValA)) (k : Nat) (m : MS) (rv : Value) (W : World), k < l.length → D.length ≤ k → (∀ v ∈ m.st, goodV v) → P D W → MR w0 W b sv rv m → Calls Tryd.prog 25 #[.int .i64 (k : Int), c1, c2] W fun e W' => e = .returned (.tuple #[]) ∧ P (D ++ [(k, m.st)]) W' ∧ MR w0 W' b sv rv m)
    (hP : ∀ (D : List (Nat × List ValA)) (W W' : World) (rv : Value) (m : MS), MR w0 W b sv rv m → P D W → Keeps (Own b rv) W W' → P D W')
    (h : MR w0 w b sv rv m0) (h0 : P [] w) (hT : Types w0) (hS : FldsAt w0 sv S) (hz : errS S = 0) (hl : ValsAt w0 v l) (hL : l.length ≤ 96) (hF : ∀ i ∈ l, formB i = 0 ∧ rightF S i = true) (hJ : ∀ k i, l[k]? = some i → (opA i.kind).opd = 6 → k + 1 + i.n.toNat ≤ l.length) (hH : HvOK S l hv) (hM : TyM S m0 []) :
    Calls Tryd.prog 23 #[.pointer (some ⟨b, 0, none⟩), v, .func (.func 25) #[] #[c1, c2]] w fun e w' => e = .returned (.tuple #[]) ∧ P (playM S l l.length 0 m0).1 w' ∧ (∃ rv', MR w0 w' b sv rv' (playM S l l.length 0 m0).2) ∧ TyM S (playM S l l.length 0 m0).2 [] := by
  obtain ⟨vo, vc, rfl⟩ := RowAt.form hl
  have HV := hide hl
  have HC := hide hC
  have HP := hide hP
  have HM := hide h
  have H0 := hide h0
  clear hl hC hP h h0
  obtain ⟨TT, HTT⟩ : ∃ TT, Hid (playM S l l.length 0 m0 = TT) := ⟨_, rfl⟩
  rw [unhide HTT]
  have HH := hide hH
  have HF := hide hF
  have HJ := hide hJ
  have HMT := hide hM
  have HSK := hide (schema_isK hz)
  clear hH hF hJ hM
  go_enter Tryd.func23, Tryd.ntmps23
  go_wp2
  go_step3
  go_wp2
  go_step3
  go_wp2
  go_loopg [6] (l.length) (fun fu i wr => ∃ (k : Nat) (D : List (Nat × List ValA)) (m : MS) (rv : Value) (ts : List Int), k ≤ l.length ∧ D.length ≤ k ∧ l.length ≤ k + fu ∧ i = .int .i64 (k : Int) ∧ Hid (hv[k]? = some (true, ts)) ∧ Hid (TyM S m ts) ∧ Hid (MR w0 wr b sv rv m) ∧ Hid (P D wr) ∧ Hid (D ++ (playM S l fu k m).1 = TT.1 ∧ (playM S l fu k m).2 = TT.2))
  case atStart => exact ⟨0, [], m0, rv, [], Nat.zero_le _, Nat.le_refl _, by omega, rfl, pullA_first (unhide HH), unhide HMT, unhide HM, unhide H0, by show _ ∧ _; rw [unhide HTT]; exact ⟨rfl, rfl⟩⟩
  case round =>
    clear HM H0 HMT HTT
    obtain ⟨k, D, m, rv1, ts, hk, hdk, hf, rfl, HHV, HTY, HMR, HPD, HPL⟩ := hrel
    by_cases hlt : k < l.length
    · obtain ⟨x, hx⟩ : ∃ x, l[k]? = some x := ⟨_, List.getElem?_eq_getElem hlt⟩
      obtain ⟨f, rfl⟩ : ∃ f', gk = f' + 1 := ⟨gk - 1, by omega⟩
      have HPL2 : Hid ((D ++ [(k, m.st)]) ++ (playM S l f (nextM x k m) (stepM S x m)).1 = TT.1 ∧ (playM S l f (nextM x k m) (stepM S x m)).2 = TT.2) := by
        have := unhide HPL
        rw [playM_step hx] at this
        show _ ∧ _
        rw [List.append_assoc]
        exact this
      obtain ⟨x', ts', hx', hb⟩ := (unhide HH).beh k ts hlt (unhide HHV)
      obtain rfl := Option.some.inj (hx.symm.trans hx')
      obtain ⟨hff, hrr⟩ := (unhide HF) x (List.mem_of_getElem? hx)
      obtain ⟨hn1, hn2, hn3⟩ := next_ok (m := m) (unhide HH) (unhide HJ) hx (unhide HHV) hb
      have HTN := hide (step_ty (unhide HSK) hff hrr (unhide HTY) hb)
      have HN1 := hide hn1
      have HN2 := hide hn2
      have HN3 := hide hn3
      obtain ⟨vb, off, cc, e, hbl, hc⟩ := (unhide HV).cells (by omega)
      simp at e
      obtain ⟨rfl, rfl⟩ := e
      have HCC := hide (hc k x hx)
      have HDL : Hid ((D ++ [(k, m.st)]).length ≤ k + 1) := by show _ ≤ _; simp; exact hdk
      have HQ := hide ((unhide HC) D k m rv1 wr hlt hdk (unhide HTY).good (unhide HPD) (unhide HMR))
      have i0 : (0 : Int) ≤ (k : Int) := by omega
      have i1 : (k : Int) < (l.length : Int) := by omega
      clear HPL HPD HMR hc hn1 hn2 hn3 hx'
      go_wp2_with fail
      refine (unhide HQ).mono ?_
      rintro e w1 ⟨rfl, hp1, hm1⟩
      have d0 := (hm1.kept.cell hbl id).trans (unhide HCC).1
      have d1 := (hm1.kept.cell hbl id).trans (unhide HCC).2.1
      have d2 := (hm1.kept.cell hbl id).trans (unhide HCC).2.2
      have HP1 := hide hp1
      have HM1 := hide hm1
      have hvb1 := Nat.lt_of_lt_of_le hbl hm1.kept.size
      clear hp1 hm1 HQ HCC
      obtain ⟨xo, xn, xs⟩ := x
      simp only at *
      by_cases h25 : xo = 25
      · subst h25
        obtain ⟨j0, j1⟩ := form_jump hff rfl
        simp only at j0 j1
        obtain ⟨N, rfl⟩ := Int.eq_ofNat_of_zero_le j0
        have HNX : Hid (nextM ⟨25, (N : Int), xs⟩ k m = k + 1 + N) := by show _ = _; unfold nextM; simp
        have HST : Hid (stepM S ⟨25, (N : Int), xs⟩ m = m) := by
          show MS.mk (m.st.take (m.st.length - 0) ++ []) m.here m.vals = m
          rw [take_all, List.append_nil]
        have HKA := hide (kAlloc w1 (.cells #[.int .i64 25, .int .i64 (N : Int), str xs] 59))
        have HMA := hide (((unhide HM1).keepF (unhide HKA)).to (unhide HST).symm)
        have HPA := hide ((unhide HP) _ w1 _ rv1 m (unhide HM1) (unhide HP1) (unhide HKA).any)
        rw [unhide HNX] at HN1 HN2 HN3 HPL2
        have hkN := unhide HN2
        have hN255 : (N : Int) ≤ 255 := j1
        clear hb hff hrr j0 j1 HM1 HP1 HTY HHV
        go_wp2_with fail
        go_roundg f
        case rel => exact ⟨k + 1 + N, _, _, rv1, ts', unhide HN2, by have := unhide HDL; omega, by omega, by go_num, unhide HN3, unhide HTN, unhide HMA, unhide HPA, unhide HPL2⟩
        case measure => omega
      · by_cases h26 : xo = 26
        · subst h26
          obtain ⟨j0, j1⟩ := form_jump hff rfl
          simp only at j0 j1
          obtain ⟨N, rfl⟩ := Int.eq_ofNat_of_zero_le j0
          have hb1 : 1 ≤ ts.length := (beh_parts hb).1
          have hlen : ts.length = m.st.length := by rw [← (unhide HTY).ty]; simp
          obtain ⟨j, hj⟩ : ∃ j, m.st.length = j + 1 := ⟨m.st.length - 1, by omega⟩
          have HKA := hide (kAlloc w1 (.cells #[.int .i64 26, .int .i64 (N : Int), str xs] 59))
          have HMA := hide ((unhide HM1).keepF (unhide HKA))
          have hXB := heap_alloc_new w1 (.cells #[.int .i64 26, .int .i64 (N : Int), str xs] 59)
          have HQ := hide (pop_v (unhide HMA).run hj (top_get hj))
          have HST : Hid (stepM S ⟨26, (N : Int), xs⟩ m = ⟨m.st.take j, m.here, m.vals⟩) := by
            show MS.mk (m.st.take (m.st.length - 1) ++ []) m.here m.vals = _
            rw [hj, Nat.add_sub_cancel, List.append_nil]
          have HNY : Hid ((topV m.st).n = 1 → nextM ⟨26, (N : Int), xs⟩ k m = k + 1) := fun q => by unfold nextM; simp [q]
          have HNN : Hid (¬ (topV m.st).n = 1 → nextM ⟨26, (N : Int), xs⟩ k m = k + 1 + N) := fun q => by unfold nextM; simp [q]
          have HI := hide (fun (W : World) => isTrue_v (topV m.st) W)
          have hb5 : b < w1.heap.size := (unhide HM1).run.lt
          generalize topV m.st = T at *
          clear hb hff hrr j0 hb1 hlen hj
          go_wp2_with fail
          refine (unhide HQ).mono ?_
          rintro e w2 ⟨rfl, hr2, hk2⟩
          have hX2 := (hk2.block w1.heap.size (lt_of_block hXB) (by omega)).trans hXB
          have y1 : w2.cell? ⟨w1.heap.size, 1, none⟩ = some (.int .i64 (N : Int)) := (cell_of_blk hX2 _).trans rfl
          have HMB := hide ((unhide HMA).stack hr2 hk2)
          have HKB := hide ((unhide HKA).any.trans hk2 : Keeps (fun q => q = b) w1 w2)
          have hw2 := lt_of_block hX2
          clear hr2 hk2 HQ hXB hX2 HMA HKA
          go_wp2_with fail
          refine ((unhide HI) _).mono ?_
          rintro e w3 ⟨rfl, hk3⟩
          have y3 := (hk3.cell (o := 1) hw2 id).trans y1
          have hw3 := Nat.lt_of_lt_of_le hw2 hk3.size
          have HMC := hide (((unhide HMB).keepF hk3).to (unhide HST).symm)
          have HPC := hide ((unhide HP) _ w1 w3 rv1 m (unhide HM1) (unhide HP1) (((unhide HKB).trans hk3.any).mono fun q _ e => Or.inl e))
          clear hk3 HMB HKB HI HM1 HP1 HTY HHV y1
          by_cases hT1 : T.n = 1
          · rw [decide_eq_true hT1]
            rw [(unhide HNY) hT1] at HN1 HN2 HN3 HPL2
            clear HNY HNN hT1
            go_wp2_with fail
            go_roundg f
            case rel => exact ⟨k + 1, _, _, rv1, ts', unhide HN2, unhide HDL, by omega, by go_num, unhide HN3, unhide HTN, unhide HMC, unhide HPC, unhide HPL2⟩
            case measure => omega
          · rw [decide_eq_false hT1]
            rw [(unhide HNN) hT1] at HN1 HN2 HN3 HPL2
            have hkN := unhide HN2
            have hN255 : (N : Int) ≤ 255 := j1
            clear HNY HNN hT1 j1
            go_wp2_with fail
            go_roundg f
            case rel => exact ⟨k + 1 + N, _, _, rv1, ts', unhide HN2, by have := unhide HDL; omega, by omega, by go_num, unhide HN3, unhide HTN, unhide HMC, unhide HPC, unhide HPL2⟩
            case measure => omega
        · have HKA := hide (kAlloc w1 (.cells #[.int .i64 xo, .int .i64 xn, str xs] 59))
          have hmA := (unhide HM1).keepF (unhide HKA)
          have HQ := hide (step_v S hmA hT hS hz ⟨xo, xn, xs⟩ (unhide HTY) hb hff hrr ⟨h25, h26⟩)
          unfold ValA.v at HQ
          have HNX : Hid (nextM ⟨xo, xn, xs⟩ k m = k + 1) := by show _ = _; unfold nextM; simp [h25, h26]
          have n25 : (xo == 25) = false := by simpa using h25
          have n26 : (xo == 26) = false := by simpa using h26
          clear hb hff hrr hmA h25 h26
          go_wp2_with fail
          refine (unhide HQ).mono ?_
          rintro e w2 ⟨rfl, ⟨rv2, hm2⟩, hk2⟩
          have HM2 := hide hm2
          have HP2 := hide ((unhide HP) _ w1 w2 rv1 m (unhide HM1) (unhide HP1) ((unhide HKA).any.trans hk2))
          rw [unhide HNX] at HN1 HN2 HN3 HPL2
          clear hm2 hk2 HQ HM1 HP1 HTY HHV HKA
          go_wp2_with fail
          go_roundg f
          case rel => exact ⟨k + 1, _, _, rv2, ts', unhide HN2, unhide HDL, by omega, by go_num, unhide HN3, unhide HTN, unhide HM2, unhide HP2, unhide HPL2⟩
          case measure => omega
    · obtain rfl : k = l.length := by omega
      have HE := hide (unhide HPL)
      rw [playM_end (Nat.le_refl _)] at HE
      simp only [List.append_nil] at HE
      have i1 : ¬ (l.length : Int) < (l.length : Int) := by omega
      clear HPL
      go_wp2_with fail
      go_end0
      have hts := (unhide HH).last ts (unhide HHV)
      have hty := unhide HTY
      rw [hts] at hty
      exact ⟨rfl, (unhide HE).1 ▸ unhide HPD, ⟨rv1, (unhide HMR).to (unhide HE).2⟩, (unhide HE).2 ▸ hty⟩
end Go.Proofs.YtonodcmbbgpjjaaDoor
namespace Go.Proofs.YtonodcmbbgpjjaaDoor
open Go.RowKit Go.Maps
set_option maxRecDepth 100000 in
set_option maxHeartbeats 2000000 in
theorem types26_v {w0 w : World} {b : Nat} {sv rv : Value} {m : MS} (h : MR w0 w b sv rv m) (hK : ∀ v ∈ m.st, isK v.kind) :
    Calls Tryd.prog 26 #[.pointer (some ⟨b, 0, none⟩)] w fun e w' => e = .returned (str ((m.st.map ValA.kind).map letR)) ∧ Keeps (fun _ => False) w w' := by
  obtain ⟨st, HST0⟩ : ∃ st, Hid (m.st.map ValA.kind = st) := ⟨_, rfl⟩
  rw [unhide HST0]
  have hlen : m.st.length = st.length := by rw [← unhide HST0]; simp
  have hl : st.length ≤ 16 := by have := h.run.len; omega
  have HC : Hid (∀ (i : Nat) (x : Int), st[i]? = some x → isK x ∧ w.cell? ⟨b, 3 + i * 3, none⟩ = some (.int .i64 x)) := fun i x hx => by
    rw [← unhide HST0, List.getElem?_map] at hx
    cases hy : m.st[i]? with
    | none => rw [hy] at hx; cases hx
    | some y =>
      rw [hy] at hx
      cases hx
      exact ⟨hK y (List.mem_of_getElem? hy), (h.run.stk i y hy).1⟩
  have ch := h.run.ch
  rw [hlen] at ch
  have hb := h.run.lt
  clear h hK hlen HST0
  have hmk := run_mkb st.length st.length (Nat.le_refl _) (by omega)
  have HO := hide (owns_made w st.length st.length (Nat.le_refl _) (by omega))
  have HK0 := hide ((Keeps.refl (fun _ => False) w).alloc (.cells (madeCells #[.int .u8 0] st.length) 5))
  go_enter Tryd.func26, Tryd.ntmps26
  go_wp2_with fail
  clear hmk
  have hO0 : (w.alloc (.cells (madeCells #[.int .u8 0] st.length) 5)).ownsRow w.heap.size 5 1 (.slice (some ⟨w.heap.size, 0, none⟩) st.length st.length) st.length (rowK st 0) := by
    have := unhide HO
    simpa [rowK] using this
  have HO0 := hide hO0
  clear hO0 HO
  generalize hg : w.heap.size = g at *
  generalize w.alloc (.cells (madeCells #[.int .u8 0] st.length) 5) = W1 at *
  go_loopw [12] (fun i wr => ∃ k : Nat, k ≤ st.length ∧ i = .int .i64 k ∧ wr.ownsRow g 5 1 (.slice (some ⟨g, 0, none⟩) st.length st.length) st.length (rowK st k) ∧ Keeps (fun _ => False) w wr) (fun i _ => st.length - (intOf i).toNat)
  case atStart => exact ⟨0, Nat.zero_le _, rfl, unhide HO0, unhide HK0⟩
  case round =>
    obtain ⟨k, hk, rfl, ho, hkp⟩ := hrel
    by_cases hlt : k < st.length
    · obtain ⟨x, hx⟩ : ∃ x, st[k]? = some x := ⟨_, List.getElem?_eq_getElem hlt⟩
      have hb' : b < w.heap.size := by omega
      have c0 := (hkp.cell hb' id).trans ((unhide HC) k x hx).2
      have f0 := ho.frozenAt k
      obtain ⟨dd, d0⟩ : ∃ dd, wr.cell? ⟨g, k, none⟩ = some dd := ⟨_, (ho.cellAt k (by omega)).trans (List.getElem?_eq_getElem (by rw [rowK_length hk]; exact hlt))⟩
      have HST := hide ((ho.stored k (.int .u8 (num (letR x)))).1)
      rw [rowK_set hx] at HST
      have HKS := hide (hkp.then (keeps_set wr g k (.int .u8 (num (letR x)))) (fun i hi q => by omega))
      have i2 : (k : Int) < (st.length : Int) := by omega
      have i0' : (0 : Int) ≤ (k : Int) := by omega
      have i3 : (k : Int) < 16 := by omega
      have hxK := ((unhide HC) k x hx).1
      clear hx hkp ho
      rcases hxK with rfl | rfl | rfl
      all_goals
        go_wp2_with fail
        go_roundw
        case rel => exact ⟨k + 1, by omega, by go_num, unhide HST, unhide HKS⟩
        case measure => simp [intOf]; omega
    · obtain rfl : k = st.length := by omega
      have i2 : ¬ (st.length : Int) < (st.length : Int) := by omega
      have hcv : (convert 48 9 (.slice (some ⟨g, 0, none⟩) st.length st.length)).run Tryd.prog wr = .ok (str (st.map letR)) wr := by
        have q := conv_bytes wr g st.length (st.map letR) (fun j ch hj => by
          have hjl := (List.getElem?_eq_some_iff.1 hj).1
          rw [List.length_map] at hjl
          rw [ho.cellAt j (by omega), rowK_end]
          simp only [bs, List.getElem?_map, hj, Option.map_some]
          )
        rwa [List.length_map] at q
      have HKE := hide hkp
      clear hlt ho hkp
      go_wp2_with fail
      go_ret
      exact ⟨rfl, unhide HKE⟩
end Go.Proofs.YtonodcmbbgpjjaaDoor
