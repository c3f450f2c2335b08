import Derived.Test.YtcfnlnceoalnoaaGreatDoorIk
namespace Go.Proofs.YtcfnlnceoalnoaaGreatDoor
open Go.RowKit Go.Maps
set_option maxRecDepth 100000 in
set_option maxHeartbeats 8000000 in
theorem refDec_v (S : List FieldA) (sv v : Value) (t : Txt) (w : World) (hS : FldsAt w sv S) (hb : BytesAt w v t) (ht : t.length ≤ 140737488355328) :
    Calls Tryz.prog 18 #[.agg #[sv], v] w fun e w' => ∃ x, e = .returned (.tuple #[x, .int .i64 ((decM S t).2.1 : Int), .int .i64 (decM S t).2.2]) ∧ MsgR w.heap.size w' (decM S t).1 x ∧ Keeps (fun _ => False) w w' := by
  obtain ⟨so, sc, rfl⟩ := RowAt.form hS
  obtain ⟨vo, vc, rfl⟩ := RowAt.form hb
  have k1 := kAlloc w (.cells #[.slice so S.length sc] 24)
  have k2 := kAlloc (w.alloc (.cells #[.slice so S.length sc] 24)) (.cells #[.int .i64 0, .string ⟨#[]⟩, .slice none 0 0, .slice none 0 0] 28)
  have h1 := heap_alloc_new w (.cells #[.slice so S.length sc] 24)
  have h2 := heap_alloc_new (w.alloc (.cells #[.slice so S.length sc] 24)) (.cells #[.int .i64 0, .string ⟨#[]⟩, .slice none 0 0, .slice none 0 0] 28)
  rw [show (w.alloc (.cells #[.slice so S.length sc] 24)).heap.size = w.heap.size + 1 by simp] at h2
  have h1' := (k2.block _ (lt_of_block h1) id).trans h1
  have HW := hide (k1.trans k2)
  generalize hW : (w.alloc (.cells #[.slice so S.length sc] 24)).alloc (.cells #[.int .i64 0, .string ⟨#[]⟩, .slice none 0 0, .slice none 0 0] 28) = W at *
  have HL0 : Hid (Lying W (w.heap.size + 1) W) := ⟨Keeps.refl _ _, h2⟩
  have HB1 := hide h1'
  have HS := hide (hS.keepF (unhide HW))
  have HBT := hide (hb.keepF (unhide HW))
  have lS := lt_of_block h1'
  have s0 : W.cell? ⟨w.heap.size, 0, none⟩ = some (.slice so S.length sc) := (cell_of_blk h1' _).trans rfl
  obtain ⟨z0, z1, z2, z3, zf0, zf1, zf2, zf3, zl⟩ := four_cells h2
  have HQ := hide (checkSchema_any S _ W (unhide HS))
  have HM : Hid (decM S t = if errS S ≠ 0 then (zeroM, 0, errS S) else match takeM S t with | none => (zeroM, 0, 141) | some (m, rest) => if checkM S m = 0 then (m, t.length - rest.length, 0) else (zeroM, 0, 141)) := rfl
  have HSO : Hid (errS S = 0 ∨ errS S = 60) := by show _ ∨ _; unfold errS; split <;> simp
  obtain ⟨R, hR⟩ : ∃ R, errS S = R := ⟨_, rfl⟩
  have HR := hide hR
  rw [hR] at HM HQ HSO
  have HTL := hide ht
  clear hS hb k1 k2 h1 h1' h2 hR ht
  go_enter Tryz.func18, Tryz.ntmps18
  go_wp2_with fail
  refine (unhide HQ).mono ?_
  rintro e w1 ⟨rfl, hk⟩
  have HK1 := hide hk
  have a0 := (hk.cell (o := 0) lS id).trans s0
  clear hk HQ hW z0 z1 z2 z3 zf0 zf1 zf2 zf3
  by_cases hR0 : R ≠ 0
  · rw [if_pos hR0] at HM
    have hR60 : R = 60 := (unhide HSO).resolve_left hR0
    subst hR60
    obtain ⟨q0, q1, q2, q3, qf0, qf1, qf2, qf3, ql⟩ := four_cells ((unhide HL0).keep (unhide HK1)).res
    obtain ⟨t0, t1, t2, t3⟩ := set4c ((unhide HL0).keep (unhide HK1)).res (.int .i64 0) (.string ⟨#[]⟩) (.slice none 0 0) (.slice none 0 0)
    have HKF := hide (((unhide HW).trans (unhide HK1)).then (keeps_set4 w1 (w.heap.size + 1) (.int .i64 0) (.string ⟨#[]⟩) (.slice none 0 0) (.slice none 0 0)) (fun i hi e => by omega))
    go_wp2_with fail
    refine bodyPost_ret (v := .tuple #[.agg #[.int .i64 0, .string ⟨#[]⟩, .slice none 0 0, .slice none 0 0], .int .i64 0, .int .i64 60]) (by simp [results, go_sem, t0, t1, t2, t3]) rfl ?_
    rw [unhide HM]
    exact ⟨_, rfl, zero_msg _ _, unhide HKF⟩
  obtain rfl : R = 0 := Decidable.not_not.1 hR0
  rw [if_neg (by simp)] at HM
  cases t with
  | nil =>
    obtain ⟨q0, q1, q2, q3, qf0, qf1, qf2, qf3, ql⟩ := four_cells ((unhide HL0).keep (unhide HK1)).res
    obtain ⟨t0, t1, t2, t3⟩ := set4c ((unhide HL0).keep (unhide HK1)).res (.int .i64 0) (.string ⟨#[]⟩) (.slice none 0 0) (.slice none 0 0)
    have HKF := hide (((unhide HW).trans (unhide HK1)).then (keeps_set4 w1 (w.heap.size + 1) (.int .i64 0) (.string ⟨#[]⟩) (.slice none 0 0) (.slice none 0 0)) (fun i hi e => by omega))
    go_wp2_with fail
    refine bodyPost_ret (v := .tuple #[.agg #[.int .i64 0, .string ⟨#[]⟩, .slice none 0 0, .slice none 0 0], .int .i64 0, .int .i64 141]) (by simp [results, go_sem, t0, t1, t2, t3]) rfl ?_
    rw [unhide HM]
    exact ⟨_, rfl, zero_msg _ _, unhide HKF⟩
  | cons k r =>
    obtain ⟨b, off, cc, e1, hblt, hc⟩ := (unhide HBT).cells (by simp)
    simp only [Value.slice.injEq] at e1
    obtain ⟨rfl, _, rfl⟩ := e1
    have c0 := hc 0 k rfl
    rw [Nat.add_zero] at c0
    have HBL := hide hblt
    have hpart1 := part_v w1 _ (k :: r) 1 ((unhide HBT).keepF (unhide HK1)) (unhide HTL) (by simp)
    rw [show ((1 : Nat) : Int) = 1 from rfl] at hpart1
    have HQ := hide hpart1
    have HTK : Hid (takeM S (k :: r) = match textP r with | none => none | some (key, r1) => match textP r1 with | none => none | some (body, r2) => some (msgOf S (num k) key body, r2)) := rfl
    have HLC : Hid ((k :: r).length = r.length + 1) := by show _ = _; simp
    have HRM := hide (RowAt.room (unhide HBT) _ _ _ rfl)
    have HPT : Hid (∀ (w' : World) (a : Nat), Keeps (fun _ => False) W w' → a ≤ (k :: r).length → Calls Tryz.prog 36 #[.slice (some ⟨b, off, none⟩) (k :: r).length vc, .int .i64 (a : Int)] w' fun e w'' => Keeps (fun _ => False) w' w'' ∧ ∃ x n ok, e = .returned (.tuple #[x, .int .i64 n, .bool ok]) ∧ PartP w'.heap.size w'' x n ok a (textP ((k :: r).drop a))) := fun w' a hk ha => part_v w' _ (k :: r) a ((unhide HBT).keepF hk) (unhide HTL) ha
    clear hpart1 hc
    generalize hLL : (k :: r).length = LL at *
    have HLL := hide hLL
    have hLL0 : (LL : Int) ≠ 0 := by have := unhide HLC; omega
    have hLL1 : ((LL : Int) == 0) = false := by rw [beq_eq_false_iff_ne]; exact hLL0
    clear hLL hblt
    go_wp2_with fail
    refine (unhide HQ).mono ?_
    rintro e w2 ⟨hk, x, n, ok, rfl, hp⟩
    have HK2 := hide ((unhide HK1).trans hk)
    have hp1 : PartP w1.heap.size w2 x n ok 1 (textP r) := hp
    have HZ12a := hide hk.size
    clear hk HQ hp
    cases hP1 : textP r with
    | none =>
      rw [hP1] at hp1 HTK
      obtain rfl : ok = false := hp1
      simp only at HTK
      rw [unhide HTK] at HM
      simp only at HM
      obtain ⟨q0, q1, q2, q3, qf0, qf1, qf2, qf3, ql⟩ := four_cells ((unhide HL0).keep (unhide HK2)).res
      obtain ⟨t0, t1, t2, t3⟩ := set4c ((unhide HL0).keep (unhide HK2)).res (.int .i64 0) (.string ⟨#[]⟩) (.slice none 0 0) (.slice none 0 0)
      have HKF := hide (((unhide HW).trans (unhide HK2)).then (keeps_set4 w2 (w.heap.size + 1) (.int .i64 0) (.string ⟨#[]⟩) (.slice none 0 0) (.slice none 0 0)) (fun i hi e => by omega))
      go_wp2_with fail
      refine bodyPost_ret (v := .tuple #[.agg #[.int .i64 0, .string ⟨#[]⟩, .slice none 0 0, .slice none 0 0], .int .i64 0, .int .i64 141]) (by simp [results, go_sem, t0, t1, t2, t3]) rfl ?_
      rw [unhide HM]
      exact ⟨_, rfl, zero_msg _ _, unhide HKF⟩
    | some p1 =>
      obtain ⟨key, r1⟩ := p1
      rw [hP1] at hp1 HTK
      simp only at HTK
      obtain ⟨rfl, rfl, ⟨xo, xc, rfl⟩, hkey, hko, hkc⟩ := hp1
      have hcut := text_cut hP1
      obtain ⟨hk255, htl1⟩ := text_len hP1
      have hdr : (k :: r).drop (1 + 1 + key.length) = r1 := by rw [hcut]; simp [Nat.add_comm, List.drop_left']
      obtain ⟨A, hA⟩ : ∃ A, 1 + 1 + key.length = A := ⟨_, rfl⟩
      rw [hA] at hdr ⊢
      have HQ := hide ((unhide HPT) w2 A (unhide HK2) (by have := unhide HLC; omega))
      rw [hdr] at HQ
      have HHA := hide hA
      have HKY := hide hkey
      have HKO := hide hko
      have HKC := hide hkc
      have HP1 := hide hP1
      have HT1 := hide htl1
      have HK255 := hide hk255
      clear hA hkey hko hkc hP1 htl1 hk255 hcut hdr
      go_wp2_with fail
      refine (unhide HQ).mono ?_
      rintro e w3 ⟨hk, x, n, ok, rfl, hp2⟩
      have HK3 := hide ((unhide HK2).trans hk)
      have HKY3 := hide ((unhide HKY).keepF hk)
      have HZ23a := hide hk.size
      clear hk HQ HKY
      cases hP2 : textP r1 with
      | none =>
        rw [hP2] at hp2 HTK
        obtain rfl : ok = false := hp2
        simp only at HTK
        rw [unhide HTK] at HM
        simp only at HM
        obtain ⟨q0, q1, q2, q3, qf0, qf1, qf2, qf3, ql⟩ := four_cells ((unhide HL0).keep (unhide HK3)).res
        obtain ⟨t0, t1, t2, t3⟩ := set4c ((unhide HL0).keep (unhide HK3)).res (.int .i64 0) (.string ⟨#[]⟩) (.slice none 0 0) (.slice none 0 0)
        have HKF := hide (((unhide HW).trans (unhide HK3)).then (keeps_set4 w3 (w.heap.size + 1) (.int .i64 0) (.string ⟨#[]⟩) (.slice none 0 0) (.slice none 0 0)) (fun i hi e => by omega))
        go_wp2_with fail
        refine bodyPost_ret (v := .tuple #[.agg #[.int .i64 0, .string ⟨#[]⟩, .slice none 0 0, .slice none 0 0], .int .i64 0, .int .i64 141]) (by simp [results, go_sem, t0, t1, t2, t3]) rfl ?_
        rw [unhide HM]
        exact ⟨_, rfl, zero_msg _ _, unhide HKF⟩
      | some p2 =>
        obtain ⟨bd, r2⟩ := p2
        rw [hP2] at hp2 HTK
        simp only at HTK
        obtain ⟨rfl, rfl, ⟨bo, bc, rfl⟩, hbody, hbo, hbc⟩ := hp2
        rw [unhide HTK] at HM
        simp only at HM
        have HBD := hide hbody
        have HBO := hide hbo
        have HP2 := hide hP2
        obtain ⟨hb255, htl2⟩ := text_len hP2
        have HB255 := hide hb255
        have HT2 := hide htl2
        obtain ⟨N, HN⟩ : ∃ N, Hid (A + 1 + bd.length = N) := ⟨_, rfl⟩
        rw [unhide HN]
        have HNL : Hid (N = LL - r2.length ∧ N ≤ LL) := by
          have h1 := unhide HLC; have h2 := unhide HT1; have h3 := htl2; have h4 := unhide HHA; have h5 := unhide HN
          show _ ∧ _
          omega
        have HSK : Hid (∀ (w' : World) (F : Nat → Prop), Keeps F w3 w' → (∀ q, q < w3.heap.size → ¬ F q) → w'.cell? ⟨b, off, none⟩ = some (.int .u8 (num k)) ∧ (convert 26 9 (.slice xo key.length xc)).run Tryz.prog w' = .ok (str key) w') := fun w' F hk hF => ⟨(hk.cell (Nat.lt_of_lt_of_le (unhide HBL) (unhide HK3).size) (hF _ (Nat.lt_of_lt_of_le (unhide HBL) (unhide HK3).size))).trans (((unhide HK3).cell (unhide HBL) id).trans c0), unhide HKC w' (BytesAt.low (unhide HKY3) hk hF)⟩
        have hd0 := ((unhide HK3).cell (unhide HBL) id).trans c0
        have hconv := unhide HKC w3 (unhide HKY3)
        have hconvd := (unhide HSK w3.drew _ ((Keeps.refl (fun _ => False) w3).drew) (fun _ _ => id)).2
        have HKD : Hid (Keeps (fun _ => False) w3 (w3.drew.alloc (.cells #[.int .i64 0, .string ⟨#[]⟩, .slice none 0 0, .slice none 0 0] 28))) := (Keeps.refl (fun _ => False) w3).drew.alloc _
        have i0 : (0 : Int) < (LL : Int) := by have := unhide HLC; omega
        have i0n : 0 < LL := by have := unhide HLC; omega
        have HRC := num_range k
        have HZ12 : Hid (w1.heap.size ≤ w2.heap.size) := unhide HZ12a
        have HZ13 : Hid (w1.heap.size ≤ w3.heap.size) := Nat.le_trans (unhide HZ12a) (unhide HZ23a)
        have hwk : IntKind.i64.wrap (num k) = num k := by rw [IntKind.wrap_i64]; omega
        clear hbody hbo hbc hP2 hb255 htl2
        go_wp2_with fail
        go_region_held3 (fun w' => w'.cell? ⟨b, off, none⟩ = some (.int .u8 (num k)) ∧ (convert 26 9 (.slice xo key.length xc)).run Tryz.prog w' = .ok (str key) w')
          (first | with_reducible exact unhide HSK _ _ (Keeps.refl (fun _ => False) w3) (fun _ _ => id) | with_reducible exact unhide HSK _ _ ((Keeps.refl (fun _ => False) w3).drew) (fun _ _ => id) | with_reducible exact unhide HSK _ _ (unhide HKD) (fun _ _ => id) | with_reducible exact unhide HSK _ _ ((kAlloc w3 _).drew) (fun _ _ => id) | with_reducible exact unhide HSK _ _ (kAlloc w3 _) (fun _ _ => id))
          (fail)
        have hM0 := heap_alloc_new w3 (.cells #[.int .i64 (num k), str key, .slice none 0 0, .slice none 0 0] 28)
        have k4 : Keeps (fun _ => False) w3 (w3.alloc (.cells #[.int .i64 (num k), str key, .slice none 0 0, .slice none 0 0] 28)).drew := (kAlloc w3 (.cells #[.int .i64 (num k), str key, .slice none 0 0, .slice none 0 0] 28)).drew
        have hM4 : (w3.alloc (.cells #[.int .i64 (num k), str key, .slice none 0 0, .slice none 0 0] 28)).drew.heap[w3.heap.size]? = some (.cells #[.int .i64 (num k), str key, .slice none 0 0, .slice none 0 0] 28 (0, 0)) := hM0
        change Exit.then _ _ _ _ (w3.alloc (.cells #[.int .i64 (num k), str key, .slice none 0 0, .slice none 0 0] 28)).drew
        generalize (w3.alloc (.cells #[.int .i64 (num k), str key, .slice none 0 0, .slice none 0 0] 28)).drew = W4 at *
        have HK4 := hide ((unhide HK3).trans k4)
        have HK34 := hide k4
        have HBD4 := hide ((unhide HBD).keepF k4)
        have HX4 := hide hM4
        obtain ⟨m0, m1, m2, m3, mf0, mf1, mf2, mf3, ml⟩ := four_cells hM4
        have c40 := ((unhide HK4).cell (o := 0) lS id).trans s0
        have hz3 : W.heap.size ≤ w3.heap.size := (unhide HK3).size
        have hz2 : w1.heap.size ≤ w2.heap.size := (unhide HZ12)
        have hz4 : w1.heap.size ≤ W4.heap.size := Nat.le_trans (unhide HZ13) k4.size
        have hroom : LL ≤ vc := unhide HRM
        clear k4 hM0 hM4 hd0 hconv hconvd HKD HSK
        by_cases hk1 : num k = 1
        · have hdec := decode_any S (.slice so S.length sc) bd (.slice bo bd.length bc) W4 ((unhide HS).keepF (unhide HK4)) (unhide HBD4) (by have := unhide HB255; omega)
          rw [← decode_eq] at hdec
          have HQ := hide hdec
          have HMS0 : Hid (msgOf S (num k) key bd = ⟨num k, key, (decodeV S bd).1, []⟩) := by show _ = _; unfold msgOf; rw [if_pos hk1]
          have be : (num k == 1) = true := by rw [beq_iff_eq]; exact hk1
          obtain ⟨DV, HDV⟩ : ∃ DV, Hid (decodeV S bd = DV) := ⟨_, rfl⟩
          rw [unhide HDV] at HQ HMS0
          obtain ⟨VL, HVL⟩ : ∃ VL, Hid (DV.1 = VL) := ⟨_, rfl⟩
          rw [unhide HVL] at HQ HMS0
          obtain ⟨CL, HCL⟩ : ∃ CL : Txt, Hid (CL = []) := ⟨_, rfl⟩
          have HMS : Hid (msgOf S (num k) key bd = ⟨num k, key, VL, CL⟩) := by rw [unhide HCL]; exact HMS0
          clear hdec hk1
          go_wp2_with fail
          refine (unhide HQ).mono ?_
          rintro e w5 ⟨r5, rfl, how, hk⟩
          have hv5 := rowAt_own how
          obtain ⟨mvo, mvc, rfl⟩ := RowAt.form hv5
          have hM5 := (hk.block _ (lt_of_block (unhide HX4)) id).trans (unhide HX4)
          obtain ⟨n0, n1, n2, n3, nf0, nf1, nf2, nf3, nl⟩ := four_cells hM5
          have hM6 := (set1c hM5 (.slice mvo VL.length mvc)).1
          have kM := keeps_setM w5 w3.heap.size 2 (.slice mvo VL.length mvc)
          obtain ⟨p0, p1, p2, p3, pf0, pf1, pf2, pf3, pl⟩ := four_cells hM6
          have HK5 := hide (((unhide HK4).trans hk).then kM (fun i hi e => by omega))
          have HV5 := hide (RowAt.kept hv5 kM (own_off how hM5 (by decide)))
          have HOV : Hid (∀ q, (Value.slice mvo VL.length mvc).ownBlock = some q → w1.heap.size ≤ q) := fun q e => Nat.le_trans hz4 (own_base how q e)
          have c50 := ((unhide HK5).cell (o := 0) lS id).trans s0
          have HX5 := hide hM6
          have hne : ¬ w.heap.size = w3.heap.size := by omega
          clear hk HQ how hv5 hM5 hM6 kM
          go_wp2_with fail
          obtain ⟨mco, mcc, hmco, hmcc⟩ : ∃ (mco : Option Addr) (mcc : Nat), mco = none ∧ mcc = 0 := ⟨_, _, rfl, rfl⟩
          have hcl0 : CL.length = 0 := by rw [unhide HCL]; rfl
          have e0 : Value.slice none 0 0 = Value.slice mco CL.length mcc := by rw [hmco, hmcc, hcl0]
          rw [e0] at HX5
          have HC5 : Hid (BytesAt (w5.setCell ⟨w3.heap.size, 2, none⟩ (.slice mvo VL.length mvc)) (.slice mco CL.length mcc) CL) := by rw [← e0, unhide HCL]; exact nil_bytes _
          have HOC : Hid (∀ q, (Value.slice mco CL.length mcc).ownBlock = some q → w1.heap.size ≤ q) := fun q e => by rw [← e0] at e; cases e
          change Calls _ _ #[_, .agg #[_, _, _, .slice none 0 0]] _ _ 
          rw [e0]
          clear e0 hmco hmcc hcl0
          generalize w5.setCell ⟨w3.heap.size, 2, none⟩ (.slice mvo VL.length mvc) = W5 at *
          have HIR : Hid (InR VL) := by have h := msgOf_inR (k := num k) (key := key) (bd := bd) (unhide HR); rw [unhide HMS] at h; exact h
          have HQ := hide (refEnc_v S _ _ _ ⟨num k, key, VL, CL⟩ W5 ((unhide HS).keepF (unhide HK5)) (unhide HV5) (unhide HC5) (unhide HIR) (by have := unhide HK255; show key.length ≤ _; omega))
          rw [unhide HMS] at HM
          have HOB : Hid (MsgR w1.heap.size W5 ⟨num k, key, VL, CL⟩ (.agg #[.int .i64 (num k), str key, .slice mvo VL.length mvc, .slice mco CL.length mcc])) := ⟨mvo, mvc, mco, mcc, rfl, unhide HV5, unhide HC5, unhide HOV, unhide HOC⟩
          have hMl := lt_of_block (unhide HX5)
          by_cases hCK : checkM S ⟨num k, key, VL, CL⟩ = 0
          · have hEN : encM S ⟨num k, key, VL, CL⟩ = (bytesM S ⟨num k, key, VL, CL⟩, 0) := by unfold encM; rw [if_pos hCK]
            rw [hEN] at HQ
            simp only at HQ
            rw [if_pos hCK] at HM
            have htb := take_bytes (unhide HP1) (unhide HP2) (by rw [unhide HMS]; exact hCK)
            rw [unhide HMS, show 1 + 1 + key.length + 1 + bd.length = N by rw [unhide HHA]; exact unhide HN] at htb
            rw [htb] at HQ
            obtain ⟨TB, HTB⟩ : ∃ TB, Hid ((k :: r).take N = TB) := ⟨_, rfl⟩
            rw [unhide HTB] at HQ
            have HTBL : Hid (TB.length = N) := by show _ = _; rw [← unhide HTB, List.length_take, unhide HLL]; have := (unhide HNL).2; omega
            clear htb hEN hCK
            refine (unhide HQ).mono ?_
            rintro e w6 ⟨b6, rfl, ho6, hk⟩
            have hb6 : BytesAt w6 b6 TB := rowAt_own ho6
            obtain ⟨b6o, b6c, rfl⟩ := RowAt.form hb6
            have HK6 := hide ((unhide HK5).trans hk)
            have hbF : BytesAt w6 (.slice (some ⟨b, off, none⟩) (k :: r).length vc) (k :: r) := by rw [unhide HLL]; exact (unhide HBT).keepF (unhide HK6)
            have hbN := first_bytes hbF (n := N) (by rw [unhide HLL]; exact (unhide HNL).2)
            rw [unhide HTB] at hbN
            have HQ := hide (eqBytes_any w6 _ _ TB TB hb6 hbN (by rw [unhide HTBL]; have := (unhide HNL).2; have := unhide HTL; unfold maxLen; omega))
            rw [decide_eq_true (show TB = TB from rfl)] at HQ
            have HK56 := hide hk
            have HX6 := hide ((hk.block _ hMl id).trans (unhide HX5))
            have i1 : (N : Int) ≤ (vc : Int) := by have := (unhide HNL).2; omega
            have i2 : (N : Int) ≤ (LL : Int) := by have := (unhide HNL).2; omega
            have i3 : (0 : Int) ≤ (N : Int) := by omega
            clear hk ho6 hb6 hbF hbN
            go_wp2_with fail
            refine (unhide HQ).mono ?_
            rintro e w7' ⟨rfl, nn, hw7⟩
            have hk : Keeps (fun _ => False) w6 w7' := by rw [hw7]; exact keeps_drewN _ _
            have HK7 := hide ((unhide HK6).trans hk)
            have HOB7 := hide (((unhide HOB).keepF (unhide HK56)).keepF hk)
            have hx7 := (hk.block _ (lt_of_block (unhide HX6)) id).trans (unhide HX6)
            obtain ⟨v0, v1, v2, v3, vf0, vf1, vf2, vf3, vl⟩ := four_cells hx7
            have hL7 := (unhide HL0).keep (unhide HK7)
            obtain ⟨q0, q1, q2, q3, qf0, qf1, qf2, qf3, ql⟩ := four_cells hL7.res
            obtain ⟨t0, t1, t2, t3⟩ := set4c hL7.res (.int .i64 (num k)) (str key) (.slice mvo VL.length mvc) (.slice mco CL.length mcc)
            have kR := keeps_set4 w7' (w.heap.size + 1) (.int .i64 (num k)) (str key) (.slice mvo VL.length mvc) (.slice mco CL.length mcc)
            have HKF := hide (((unhide HW).trans (unhide HK7)).then kR (fun i hi e => by omega))
            have HKR := hide kR
            have HZ1 : Hid (W.heap.size ≤ w1.heap.size) := (unhide HK1).size
            have hne2 : ¬ w3.heap.size = w.heap.size + 1 := by omega
            clear hk HQ hx7 hL7 kR hw7 m0 m1 m2 m3 p0 p1 p2 p3
            go_wp2_with fail
            refine bodyPost_ret (v := .tuple #[.agg #[.int .i64 (num k), str key, .slice mvo VL.length mvc, .slice mco CL.length mcc], .int .i64 (N : Int), .int .i64 0]) (by simp [results, go_sem, t0, t1, t2, t3]) rfl ?_
            rw [unhide HM, ← (unhide HNL).1]
            obtain ⟨xvo, xvc, xco, xcc, hxe, hxv, hxc, hxo1, hxo2⟩ := unhide HOB7
            simp only [Value.agg.injEq, Array.mk.injEq, List.cons.injEq, Value.slice.injEq, true_and, and_true] at hxe
            obtain ⟨⟨rfl, rfl⟩, ⟨rfl, rfl⟩⟩ := hxe
            exact ⟨_, rfl, ⟨_, _, _, _, rfl, RowAt.kept hxv (unhide HKR) (fun q e h => by have := hxo1 q e; have := unhide HZ1; omega), RowAt.kept hxc (unhide HKR) (fun q e h => by have := hxo2 q e; have := unhide HZ1; omega), fun q e => Nat.le_trans (Nat.le_trans (unhide HW).size (unhide HZ1)) (hxo1 q e), fun q e => Nat.le_trans (Nat.le_trans (unhide HW).size (unhide HZ1)) (hxo2 q e)⟩, unhide HKF⟩
          · obtain ⟨CK, HCK⟩ : ∃ CK, Hid (checkM S ⟨num k, key, VL, CL⟩ = CK) := ⟨_, rfl⟩
            have hEN : encM S ⟨num k, key, VL, CL⟩ = ([], CK) := by unfold encM; rw [if_neg hCK, unhide HCK]
            rw [hEN] at HQ
            simp only at HQ
            rw [if_neg hCK] at HM
            have be2 : (CK != 0) = true := by rw [bne_iff_ne, ← unhide HCK]; exact hCK
            clear hEN hCK
            refine (unhide HQ).mono ?_
            rintro e w6 ⟨b6, rfl, ho6, hk⟩
            have hb6 : BytesAt w6 b6 [] := rowAt_own ho6
            obtain ⟨b6o, b6c, rfl⟩ := RowAt.form hb6
            have HK6 := hide ((unhide HK5).trans hk)
            clear hk HQ ho6 hb6 m0 m1 m2 m3 p0 p1 p2 p3
            obtain ⟨q0, q1, q2, q3, qf0, qf1, qf2, qf3, ql⟩ := four_cells ((unhide HL0).keep (unhide HK6)).res
            obtain ⟨t0, t1, t2, t3⟩ := set4c ((unhide HL0).keep (unhide HK6)).res (.int .i64 0) (.string ⟨#[]⟩) (.slice none 0 0) (.slice none 0 0)
            have HKF := hide (((unhide HW).trans (unhide HK6)).then (keeps_set4 w6 (w.heap.size + 1) (.int .i64 0) (.string ⟨#[]⟩) (.slice none 0 0) (.slice none 0 0)) (fun i hi e => by omega))
            go_wp2_with fail
            refine bodyPost_ret (v := .tuple #[.agg #[.int .i64 0, .string ⟨#[]⟩, .slice none 0 0, .slice none 0 0], .int .i64 0, .int .i64 141]) (by simp [results, go_sem, t0, t1, t2, t3]) rfl ?_
            rw [unhide HM]
            exact ⟨_, rfl, zero_msg _ _, unhide HKF⟩
        · have HMS0 : Hid (msgOf S (num k) key bd = ⟨num k, key, [], bd⟩) := by show _ = _; unfold msgOf; rw [if_neg hk1]
          have be : (num k == 1) = false := by rw [beq_eq_false_iff_ne]; exact hk1
          have hM6 := (set1c (unhide HX4) (.slice bo bd.length bc)).2
          have kM := keeps_setM W4 w3.heap.size 3 (.slice bo bd.length bc)
          obtain ⟨p0, p1, p2, p3, pf0, pf1, pf2, pf3, pl⟩ := four_cells hM6
          have HK5 := hide ((unhide HK4).then kM (fun i hi e => by omega))
          obtain ⟨VL, HVL⟩ : ∃ VL : List ValA, Hid (VL = []) := ⟨_, rfl⟩
          have HMS : Hid (msgOf S (num k) key bd = ⟨num k, key, VL, bd⟩) := by rw [unhide HVL]; exact HMS0
          have HC5 := hide (BytesAt.low (unhide HBD) ((unhide HK34).any.trans kM) (fun q hq e => by omega))
          have HOC : Hid (∀ q, (Value.slice bo bd.length bc).ownBlock = some q → w1.heap.size ≤ q) := fun q e => Nat.le_trans hz2 (unhide HBO q e)
          have c50 := ((unhide HK5).cell (o := 0) lS id).trans s0
          have HX5 := hide hM6
          have hne : ¬ w.heap.size = w3.heap.size := by omega
          clear hM6 kM hk1
          go_wp2_with fail
          obtain ⟨mvo, mvc, hmvo, hmvc⟩ : ∃ (mvo : Option Addr) (mvc : Nat), mvo = none ∧ mvc = 0 := ⟨_, _, rfl, rfl⟩
          have hvl0 : VL.length = 0 := by rw [unhide HVL]; rfl
          have e0 : Value.slice none 0 0 = Value.slice mvo VL.length mvc := by rw [hmvo, hmvc, hvl0]
          rw [e0] at HX5
          have HV5 : Hid (ValsAt (W4.setCell ⟨w3.heap.size, 3, none⟩ (.slice bo bd.length bc)) (.slice mvo VL.length mvc) VL) := by rw [← e0, unhide HVL]; exact nil_vals _
          have HOV : Hid (∀ q, (Value.slice mvo VL.length mvc).ownBlock = some q → w1.heap.size ≤ q) := fun q e => by rw [← e0] at e; cases e
          rw [e0]
          clear e0 hmvo hmvc hvl0
          generalize W4.setCell ⟨w3.heap.size, 3, none⟩ (.slice bo bd.length bc) = W5 at *
          have HIR : Hid (InR VL) := by have h := msgOf_inR (k := num k) (key := key) (bd := bd) (unhide HR); rw [unhide HMS] at h; exact h
          have HQ := hide (refEnc_v S _ _ _ ⟨num k, key, VL, bd⟩ W5 ((unhide HS).keepF (unhide HK5)) (unhide HV5) (unhide HC5) (unhide HIR) (by have := unhide HK255; show key.length ≤ _; omega))
          rw [unhide HMS] at HM
          have HOB : Hid (MsgR w1.heap.size W5 ⟨num k, key, VL, bd⟩ (.agg #[.int .i64 (num k), str key, .slice mvo VL.length mvc, .slice bo bd.length bc])) := ⟨mvo, mvc, bo, bc, rfl, unhide HV5, unhide HC5, unhide HOV, unhide HOC⟩
          have hMl := lt_of_block (unhide HX5)
          by_cases hCK : checkM S ⟨num k, key, VL, bd⟩ = 0
          · have hEN : encM S ⟨num k, key, VL, bd⟩ = (bytesM S ⟨num k, key, VL, bd⟩, 0) := by unfold encM; rw [if_pos hCK]
            rw [hEN] at HQ
            simp only at HQ
            rw [if_pos hCK] at HM
            have htb := take_bytes (unhide HP1) (unhide HP2) (by rw [unhide HMS]; exact hCK)
            rw [unhide HMS, show 1 + 1 + key.length + 1 + bd.length = N by rw [unhide HHA]; exact unhide HN] at htb
            rw [htb] at HQ
            obtain ⟨TB, HTB⟩ : ∃ TB, Hid ((k :: r).take N = TB) := ⟨_, rfl⟩
            rw [unhide HTB] at HQ
            have HTBL : Hid (TB.length = N) := by show _ = _; rw [← unhide HTB, List.length_take, unhide HLL]; have := (unhide HNL).2; omega
            clear htb hEN hCK
            refine (unhide HQ).mono ?_
            rintro e w6 ⟨b6, rfl, ho6, hk⟩
            have hb6 : BytesAt w6 b6 TB := rowAt_own ho6
            obtain ⟨b6o, b6c, rfl⟩ := RowAt.form hb6
            have HK6 := hide ((unhide HK5).trans hk)
            have hbF : BytesAt w6 (.slice (some ⟨b, off, none⟩) (k :: r).length vc) (k :: r) := by rw [unhide HLL]; exact (unhide HBT).keepF (unhide HK6)
            have hbN := first_bytes hbF (n := N) (by rw [unhide HLL]; exact (unhide HNL).2)
            rw [unhide HTB] at hbN
            have HQ := hide (eqBytes_any w6 _ _ TB TB hb6 hbN (by rw [unhide HTBL]; have := (unhide HNL).2; have := unhide HTL; unfold maxLen; omega))
            rw [decide_eq_true (show TB = TB from rfl)] at HQ
            have HK56 := hide hk
            have HX6 := hide ((hk.block _ hMl id).trans (unhide HX5))
            have i1 : (N : Int) ≤ (vc : Int) := by have := (unhide HNL).2; omega
            have i2 : (N : Int) ≤ (LL : Int) := by have := (unhide HNL).2; omega
            have i3 : (0 : Int) ≤ (N : Int) := by omega
            clear hk ho6 hb6 hbF hbN
            go_wp2_with fail
            refine (unhide HQ).mono ?_
            rintro e w7' ⟨rfl, nn, hw7⟩
            have hk : Keeps (fun _ => False) w6 w7' := by rw [hw7]; exact keeps_drewN _ _
            have HK7 := hide ((unhide HK6).trans hk)
            have HOB7 := hide (((unhide HOB).keepF (unhide HK56)).keepF hk)
            have hx7 := (hk.block _ (lt_of_block (unhide HX6)) id).trans (unhide HX6)
            obtain ⟨v0, v1, v2, v3, vf0, vf1, vf2, vf3, vl⟩ := four_cells hx7
            have hL7 := (unhide HL0).keep (unhide HK7)
            obtain ⟨q0, q1, q2, q3, qf0, qf1, qf2, qf3, ql⟩ := four_cells hL7.res
            obtain ⟨t0, t1, t2, t3⟩ := set4c hL7.res (.int .i64 (num k)) (str key) (.slice mvo VL.length mvc) (.slice bo bd.length bc)
            have kR := keeps_set4 w7' (w.heap.size + 1) (.int .i64 (num k)) (str key) (.slice mvo VL.length mvc) (.slice bo bd.length bc)
            have HKF := hide (((unhide HW).trans (unhide HK7)).then kR (fun i hi e => by omega))
            have HKR := hide kR
            have HZ1 : Hid (W.heap.size ≤ w1.heap.size) := (unhide HK1).size
            have hne2 : ¬ w3.heap.size = w.heap.size + 1 := by omega
            clear hk HQ hx7 hL7 kR hw7 m0 m1 m2 m3 p0 p1 p2 p3
            go_wp2_with fail
            refine bodyPost_ret (v := .tuple #[.agg #[.int .i64 (num k), str key, .slice mvo VL.length mvc, .slice bo bd.length bc], .int .i64 (N : Int), .int .i64 0]) (by simp [results, go_sem, t0, t1, t2, t3]) rfl ?_
            rw [unhide HM, ← (unhide HNL).1]
            obtain ⟨xvo, xvc, xco, xcc, hxe, hxv, hxc, hxo1, hxo2⟩ := unhide HOB7
            simp only [Value.agg.injEq, Array.mk.injEq, List.cons.injEq, Value.slice.injEq, true_and, and_true] at hxe
            obtain ⟨⟨rfl, rfl⟩, ⟨rfl, rfl⟩⟩ := hxe
            exact ⟨_, rfl, ⟨_, _, _, _, rfl, RowAt.kept hxv (unhide HKR) (fun q e h => by have := hxo1 q e; have := unhide HZ1; omega), RowAt.kept hxc (unhide HKR) (fun q e h => by have := hxo2 q e; have := unhide HZ1; omega), fun q e => Nat.le_trans (Nat.le_trans (unhide HW).size (unhide HZ1)) (hxo1 q e), fun q e => Nat.le_trans (Nat.le_trans (unhide HW).size (unhide HZ1)) (hxo2 q e)⟩, unhide HKF⟩
          · obtain ⟨CK, HCK⟩ : ∃ CK, Hid (checkM S ⟨num k, key, VL, bd⟩ = CK) := ⟨_, rfl⟩
            have hEN : encM S ⟨num k, key, VL, bd⟩ = ([], CK) := by unfold encM; rw [if_neg hCK, unhide HCK]
            rw [hEN] at HQ
            simp only at HQ
            rw [if_neg hCK] at HM
            have be2 : (CK != 0) = true := by rw [bne_iff_ne, ← unhide HCK]; exact hCK
            clear hEN hCK
            refine (unhide HQ).mono ?_
            rintro e w6 ⟨b6, rfl, ho6, hk⟩
            have hb6 : BytesAt w6 b6 [] := rowAt_own ho6
            obtain ⟨b6o, b6c, rfl⟩ := RowAt.form hb6
            have HK6 := hide ((unhide HK5).trans hk)
            clear hk HQ ho6 hb6 m0 m1 m2 m3 p0 p1 p2 p3
            obtain ⟨q0, q1, q2, q3, qf0, qf1, qf2, qf3, ql⟩ := four_cells ((unhide HL0).keep (unhide HK6)).res
            obtain ⟨t0, t1, t2, t3⟩ := set4c ((unhide HL0).keep (unhide HK6)).res (.int .i64 0) (.string ⟨#[]⟩) (.slice none 0 0) (.slice none 0 0)
            have HKF := hide (((unhide HW).trans (unhide HK6)).then (keeps_set4 w6 (w.heap.size + 1) (.int .i64 0) (.string ⟨#[]⟩) (.slice none 0 0) (.slice none 0 0)) (fun i hi e => by omega))
            go_wp2_with fail
            refine bodyPost_ret (v := .tuple #[.agg #[.int .i64 0, .string ⟨#[]⟩, .slice none 0 0, .slice none 0 0], .int .i64 0, .int .i64 141]) (by simp [results, go_sem, t0, t1, t2, t3]) rfl ?_
            rw [unhide HM]
            exact ⟨_, rfl, zero_msg _ _, unhide HKF⟩
end Go.Proofs.YtcfnlnceoalnoaaGreatDoor
