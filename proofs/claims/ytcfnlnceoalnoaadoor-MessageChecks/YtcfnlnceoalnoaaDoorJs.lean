import Derived.Test.YtcfnlnceoalnoaaDoorFe
import Derived.Test.YtcfnlnceoalnoaaDoorJh
import Derived.Test.YtcfnlnceoalnoaaDoorJk
namespace Go.Proofs.YtcfnlnceoalnoaaDoor
open Go.RowKit Go.Maps

theorem drop_at2 {t : Txt} {k : Nat} {c : UInt8} (h : t[k]? = some c) : t.drop k = c :: t.drop (k + 1) := by
  obtain ⟨hk, hx⟩ := List.getElem?_eq_some_iff.1 h
  rw [List.drop_eq_getElem_cons hk, hx]
set_option maxRecDepth 100000 in
set_option maxHeartbeats 2000000 in
theorem turnedBack_v (w : World) (v : Value) (t : Txt) (a : Nat) (h : BytesAt w v t) (ha : a ≤ t.length) (ht : t.length ≤ 4096) :
    Calls Tryd.prog 62 #[v, .int .i64 a] w fun e w' => e = .returned (.tuple #[.int .i64 (backB (tbB (t.drop a) 0 1).1), .int .i64 ((t.length : Int) - ((tbB (t.drop a) 0 1).2.length : Int))]) ∧ w' = w := by
  obtain ⟨ao, cap, rfl⟩ := RowAt.form h
  have HF := hide h
  clear h
  obtain ⟨R, HR⟩ : ∃ R, Hid (tbB (t.drop a) 0 1 = R) := ⟨_, rfl⟩
  rw [unhide HR]
  go_enter Tryd.func62, Tryd.ntmps62
  go_wp2_with fail
  go_loopw [1, 6, 7] (fun i u p wr => ∃ (k U P : Nat), k ≤ t.length ∧ i = .int .i64 k ∧ u = .int .u64 U ∧ p = .int .u64 P ∧ U ≤ 18446744073709551615 ∧ P ≤ 18446744073709551615 ∧ Hid (R = tbB (t.drop k) U P) ∧ wr = w) (fun i _ _ _ => t.length - (intOf i).toNat)
  case atStart => exact ⟨a, 0, 1, ha, rfl, rfl, rfl, by omega, by omega, (unhide HR).symm, rfl⟩
  case round =>
    obtain ⟨k, U, P, hk, rfl, rfl, rfl, hU, hP, HG, rfl⟩ := hrel
    by_cases hlt : k < t.length
    · obtain ⟨c, hx⟩ : ∃ c, t[k]? = some c := ⟨_, List.getElem?_eq_getElem hlt⟩
      obtain ⟨b, off, cc, e1, hblt, hc⟩ := (unhide HF).cells (by omega)
      simp at e1
      obtain ⟨rfl, rfl⟩ := e1
      have c0 := hc k c hx
      have hcr := num_range c
      have HD := hide (drop_at2 hx)
      obtain ⟨V, hV⟩ : ∃ V, V = (U + c.toNat % 128 * P) % 18446744073709551616 := ⟨_, rfl⟩
      obtain ⟨P2, hP2⟩ : ∃ P2, P2 = P * 128 % 18446744073709551616 := ⟨_, rfl⟩
      have hVle : V ≤ 18446744073709551615 := by omega
      have hPle : P2 ≤ 18446744073709551615 := by omega
      have hVE : IntKind.u64.wrap ((U : Int) + IntKind.u64.wrap (num c % 128 * (P : Int))) = (V : Int) := by
        rw [wrapU_add, hV]
        have hm : num c % 128 * (P : Int) = ((c.toNat % 128 * P : Nat) : Int) := by rw [Int.natCast_mul, Int.natCast_emod]; rfl
        rw [hm]
        generalize c.toNat % 128 * P = Z
        omega
      have hPE : IntKind.u64.wrap ((P : Int) * 128) = (P2 : Int) := by
        rw [IntKind.wrap_u64]
        omega
      have HS : Hid (R = if c.toNat < 128 then (V, t.drop (k + 1)) else tbB (t.drop (k + 1)) V P2) := by
        show _ = _
        rw [unhide HG, unhide HD, tbB, ← hV, ← hP2]
      have i1 : (k : Int) < (t.length : Int) := by omega
      have i0' : (0 : Int) ≤ (k : Int) := by omega
      clear hc hx hV hP2 HR HG HD
      by_cases h128 : num c < 128
      · have HE : Hid (R = (V, t.drop (k + 1))) := by
          show _ = _
          rw [unhide HS, if_pos (by unfold num at h128; omega)]
        by_cases hpar : (V : Int) % 2 = 1
        · have e2 : ((V : Int) % 2 == 1) = true := by simpa using hpar
          go_wp2_with fail
          go_ret2
          refine ⟨?_, rfl⟩
          rw [unhide HE]
          refine ret_ii ?_ ?_
          · unfold backB
            rw [if_neg (by omega)]
          · simp only [List.length_drop]
            omega
        · have e2 : ((V : Int) % 2 == 1) = false := by simpa using hpar
          go_wp2_with fail
          go_ret2
          refine ⟨?_, rfl⟩
          rw [unhide HE]
          refine ret_ii ?_ ?_
          · unfold backB
            rw [if_pos (by omega)]
          · simp only [List.length_drop]
            omega
      · have h128' : ¬ num c < 128 := h128
        go_wp2_with fail
        go_roundw
        case rel =>
          refine ⟨k + 1, V, P2, by omega, by go_num, by first | rfl | rw [hVE], by first | rfl | rw [hPE], hVle, hPle, ?_, by trivial⟩
          show _ = _
          rw [unhide HS, if_neg (by unfold num at h128; omega)]
        case measure => simp [intOf]; omega
    · obtain rfl : k = t.length := by omega
      have i1 : ¬ (t.length : Int) < (t.length : Int) := by omega
      have HE : Hid (R = (U, [])) := by
        show _ = _
        rw [unhide HG, List.drop_length, tbB]
      clear hlt
      by_cases hpar : (U : Int) % 2 = 1
      · have e2 : ((U : Int) % 2 == 1) = true := by simpa using hpar
        go_wp2_with fail
        go_ret2
        refine ⟨?_, rfl⟩
        rw [unhide HE]
        refine ret_ii ?_ ?_
        · unfold backB
          rw [if_neg (by omega)]
        · simp
      · have e2 : ((U : Int) % 2 == 1) = false := by simpa using hpar
        go_wp2_with fail
        go_ret2
        refine ⟨?_, rfl⟩
        rw [unhide HE]
        refine ret_ii ?_ ?_
        · unfold backB
          rw [if_pos (by omega)]
        · simp

end Go.Proofs.YtcfnlnceoalnoaaDoor
namespace Go.Proofs.YtcfnlnceoalnoaaDoor
open Go.RowKit Go.Maps

theorem drop_len {t : Txt} {a : Nat} {c : UInt8} {r : Txt} (h : t.drop a = c :: r) : t[a]? = some c ∧ a + 1 + r.length = t.length ∧ t.drop (a + 1) = r := by
  have hl := congrArg List.length h
  simp at hl
  have hlt : a < t.length := by omega
  rw [List.drop_eq_getElem_cons hlt] at h
  obtain ⟨h1, h2⟩ := List.cons.inj h
  refine ⟨by rw [List.getElem?_eq_getElem hlt, h1], by omega, h2⟩
theorem opd_big {c : UInt8} : -1 ≤ opdB (num c) ∧ opdB (num c) ≤ 4 := by
  rcases opdB_cases (num c) with e | e | e | e | e | e <;> omega
set_option maxRecDepth 100000 in
set_option maxHeartbeats 4000000 in
theorem read_v (w : World) (v : Value) (t : Txt) (a : Nat) (h : BytesAt w v t) (ha : a < t.length) (ht : t.length ≤ 4096) :
    Calls Tryd.prog 47 #[v, .int .i64 a] w fun e w' => e = .returned (.tuple #[ValA.v (readC (t.drop a)).1, .int .i64 ((t.length : Int) - ((readC (t.drop a)).2.length : Int))]) ∧ Keeps (fun _ => False) w w' := by
  obtain ⟨b, off, cap, rfl, hblt, hc⟩ := RowAt.cells h (by omega)
  obtain ⟨c, r, hcr⟩ : ∃ c r, t.drop a = c :: r := by
    cases hd : t.drop a with
    | nil => have := congrArg List.length hd; simp at this; omega
    | cons c r => exact ⟨c, r, rfl⟩
  obtain ⟨hta, hlen, hdr⟩ := drop_len hcr
  have hget : ∀ (j : Nat) (x : UInt8), t[j]? = some x → w.cell? ⟨b, off + j, none⟩ = some (.int .u8 (num x)) := fun j x hx => hc j _ (by rw [bs_get, hx]; rfl)
  have HG := hide hget
  have cA := (((Keeps.refl (fun _ => False) w).alloc (.cells #[.int .i64 0, .int .i64 0, .string ⟨#[]⟩] 70)).cell hblt id).trans (hget a c hta)
  have hn := num_range c
  have i1 : (a : Int) < (t.length : Int) := by omega
  have i0 : (0 : Int) ≤ (a : Int) := by omega
  have HF := hide h
  have HQ := hide (operand_v (num c) ((w.alloc (.cells #[.int .i64 0, .int .i64 0, .string ⟨#[]⟩] 70)).alloc (.cells #[.int .i64 (num c), .int .i64 0, .string ⟨#[]⟩] 70)))
  have HKA : Hid (Keeps (fun _ => False) w ((w.alloc (.cells #[.int .i64 0, .int .i64 0, .string ⟨#[]⟩] 70)).alloc (.cells #[.int .i64 (num c), .int .i64 0, .string ⟨#[]⟩] 70))) := ((Keeps.refl _ w).alloc _).alloc _
  rw [hcr]
  clear hc h hget hcr
  by_cases h1 : opdB (num c) = 1
  · have HTB := hide (turnedBack_v ((w.alloc (.cells #[.int .i64 0, .int .i64 0, .string ⟨#[]⟩] 70)).alloc (.cells #[.int .i64 (num c), .int .i64 0, .string ⟨#[]⟩] 70)) _ t (a + 1) ((unhide HF).keepF (unhide HKA)) (by omega) ht)
    rw [hdr] at HTB
    have HE : Hid (readC (c :: r) = (⟨num c, backB (tbB r 0 1).1, []⟩, (tbB r 0 1).2)) := by show _ = _; simp only [readC]; rw [if_pos h1]
    rw [unhide HE]
    rw [h1] at HQ
    clear h1
    generalize tbB r 0 1 = TB at *
    generalize backB (TB.1 : Int) = N at *
    generalize num c = m at *
    go_enter Tryd.func47, Tryd.ntmps47
    go_wp2_with fail
    refine (unhide HQ).mono ?_
    rintro e w2 ⟨rfl, rfl⟩
    go_wp2_with fail
    refine (unhide HTB).mono ?_
    rintro e w3 ⟨rfl, rfl⟩
    go_wp2_with fail
    refine bodyPost_ret (v := .tuple #[ValA.v ⟨m, N, []⟩, .int .i64 ((t.length : Int) - (TB.2.length : Int))]) (by simp [results, go_sem, ValA.v]) rfl ?_
    exact ⟨rfl, ((Keeps.refl _ w).alloc _).alloc _⟩
  · by_cases h2 : opdB (num c) = 2
    · rw [h2] at HQ
      cases r with
      | nil =>
        have HE : Hid (readC [c] = (⟨num c, 0, []⟩, [])) := by show _ = _; simp only [readC]; rw [if_neg h1, if_pos h2]
        rw [unhide HE]
        have i2 : ¬ (a : Int) + 1 < (t.length : Int) := by simp at hlen; omega
        have HLN : Hid ((a : Int) + 1 = (t.length : Int) - (([] : Txt).length : Int)) := by show _ = _; simp at hlen ⊢; omega
        clear h1 h2
        generalize num c = m at *
        go_enter Tryd.func47, Tryd.ntmps47
        go_wp2_with fail
        refine (unhide HQ).mono ?_
        rintro e w2 ⟨rfl, rfl⟩
        go_wp2_with fail
        refine bodyPost_ret (v := .tuple #[ValA.v ⟨m, 0, []⟩, .int .i64 ((a : Int) + 1)]) (by simp [results, go_sem, ValA.v]) rfl ?_
        exact ⟨by rw [unhide HLN]; try rfl, ((Keeps.refl _ w).alloc _).alloc _⟩
      | cons k q =>
        have HE : Hid (readC (c :: k :: q) = (⟨num c, 0, q.take k.toNat⟩, q.drop k.toNat)) := by show _ = _; simp only [readC]; rw [if_neg h1, if_pos h2]
        rw [unhide HE]
        obtain ⟨htk, hlk, hdq⟩ := drop_len hdr
        have i2 : (a : Int) + 1 < (t.length : Int) := by omega
        have hk := num_range k
        have cK := ((unhide HKA).cell hblt id).trans ((unhide HG) (a + 1) k htk)
        obtain ⟨C, hC⟩ : ∃ C, k.toNat = C := ⟨_, rfl⟩
        have hCn : num k = (C : Int) := by unfold num; omega
        have hC255 : C ≤ 255 := by have := k.toNat_lt; omega
        rw [hCn] at cK
        rw [hC]
        have HDQ := hide hdq
        clear h1 h2 htk hCn hC hdq hdr HE hk
        generalize num c = m at *
        go_enter Tryd.func47, Tryd.ntmps47
        go_wp2_with fail
        refine (unhide HQ).mono ?_
        rintro e w2 ⟨rfl, rfl⟩
        have HB1 : Hid (((w.alloc (.cells #[.int .i64 0, .int .i64 0, .string ⟨#[]⟩] 70)).alloc (.cells #[.int .i64 m, .int .i64 0, .string ⟨#[]⟩] 70)).heap[w.heap.size + 1]? = some (.cells #[.int .i64 m, .int .i64 0, str []] 70 (0, 0))) := by
          have q := heap_alloc_new (w.alloc (.cells #[.int .i64 0, .int .i64 0, .string ⟨#[]⟩] 70)) (.cells #[.int .i64 m, .int .i64 0, .string ⟨#[]⟩] 70)
          rw [World.size_alloc] at q
          exact q
        have HB0 : Hid (((w.alloc (.cells #[.int .i64 0, .int .i64 0, .string ⟨#[]⟩] 70)).alloc (.cells #[.int .i64 m, .int .i64 0, .string ⟨#[]⟩] 70)).heap[w.heap.size]? = some (.cells #[.int .i64 0, .int .i64 0, .string ⟨#[]⟩] 70 (0, 0))) := by
          show _ = _
          rw [Below.heap_alloc _ _ _ (by simp)]
          exact heap_alloc_new w _
        go_wp2_with fail
        go_loopw [1, 8] (fun i j wr => ∃ s : Nat, s ≤ C ∧ s ≤ q.length ∧ i = .int .i64 ((a + 2 + s : Nat) : Int) ∧ j = .int .i64 s ∧ wr.heap[w.heap.size + 1]? = some (.cells #[.int .i64 m, .int .i64 0, str (q.take s)] 70 (0, 0)) ∧ wr.heap[w.heap.size]? = some (.cells #[.int .i64 0, .int .i64 0, .string ⟨#[]⟩] 70 (0, 0)) ∧ Keeps (fun _ => False) w wr) (fun _ j _ => C - (intOf j).toNat)
        case atStart => exact ⟨0, by omega, by omega, by go_num, rfl, unhide HB1, unhide HB0, unhide HKA⟩
        case round =>
          obtain ⟨s, hs1, hs2, rfl, rfl, hb1, hb0, hkp⟩ := hrel
          have HK := hide hkp
          have HB1R := hide hb1
          have HB0R := hide hb0
          have x2 := (cell_of_blk hb1 2).trans (show (#[.int .i64 m, .int .i64 0, str (q.take s)] : Array Value)[2]? = some (str (q.take s)) from rfl)
          have hz2 := frozen_of_blk hb1 2
          have hg1 : w.heap.size + 1 < wr.heap.size := lt_of_block hb1
          by_cases hgo : s < C ∧ s < q.length
          · obtain ⟨hg2, hg3⟩ := hgo
            obtain ⟨x, hx⟩ : ∃ x, q[s]? = some x := ⟨_, List.getElem?_eq_getElem hg3⟩
            have htx : t[a + 2 + s]? = some x := by
              have h5 := congrArg (fun l => l[s]?) (unhide HDQ)
              simp only [List.getElem?_drop] at h5
              rw [show a + 1 + 1 + s = a + 2 + s by omega] at h5
              rw [h5]
              exact hx
            have cX := (hkp.cell hblt id).trans ((unhide HG) (a + 2 + s) x htx)
            have HSN := hide (take_snoc _ _ _ hx)
            have hroom := RowAt.room (unhide HF) _ _ _ rfl
            have g1 : (s : Int) < (C : Int) := by omega
            have g2 : ((a + 2 + s : Nat) : Int) < (t.length : Int) := by omega
            have g2b : decide (((a + 2 + s : Nat) : Int) < (t.length : Int)) = true := decide_eq_true g2
            obtain ⟨P, hP⟩ : ∃ P : Nat, a + 2 + s = P := ⟨_, rfl⟩
            rw [hP] at cX g2 g2b ⊢
            have hPt : P < t.length := by omega
            have hPc : (P : Int) + 1 ≤ (cap : Int) := by omega
            have hPc2 : (P : Int) < (cap : Int) := by omega
            have hPc3 : ¬ cap = P := by omega
            have hPt2 : (P : Int) + 1 ≤ (t.length : Int) := by omega
            have hP0 : (0 : Int) ≤ (P : Int) := by omega
            obtain ⟨T, hT⟩ : ∃ T, q.take s ++ [x] = T := ⟨_, rfl⟩
            have hadd : ∀ w' : World, (Op.stringOp .add (ByteArray.mk (q.take s).toArray) (ByteArray.mk [x].toArray)).run Tryd.prog w' = .ok (str T) w' := fun w' => by
              rw [← hT]
              exact add_str w' (q.take s) [x] (by simp; omega)
            have hconv : ∀ w' : World, w'.cell? ⟨b, off + P, none⟩ = some (.int .u8 (num x)) → (convert 26 9 (.slice (some ⟨b, off + P, none⟩) 1 (cap - P))).run Tryd.prog w' = .ok (str [x]) w' := fun w' h' => conv_at w' b (off + P) (cap - P) [x] (fun j c hc => by
              cases j with
              | zero => simp at hc; subst hc; rw [Nat.add_zero]; exact h'
              | succ j => simp at hc)
            have hcv := hconv wr.drew cX
            have HT := hide hT
            have HSP : Hid (a + 2 + (s + 1) = P + 1) := by show _ = _; omega
            have HB1N := hide (heap_setCell_at (o := 2) hb1 (str T))
            have HB0N : Hid ((wr.setCell ⟨w.heap.size + 1, 2, none⟩ (str T)).heap[w.heap.size]? = some (.cells #[.int .i64 0, .int .i64 0, .string ⟨#[]⟩] 70 (0, 0))) := by
              show _ = _
              rw [Below.heap_setCell _ _ _ _ (by simp)]
              exact hb0
            have HKN := hide (hkp.fresh (show w.heap.size ≤ w.heap.size + 1 by omega) (keeps_set1 wr (w.heap.size + 1) 2 (str T)))
            clear hx htx hkp hb1 hb0 hconv hT hP hs1 hs2
            go_wp2_with fail
            go_region
            go_wp2_with fail
            go_roundw
            case rel =>
              refine ⟨s + 1, by omega, by omega, ?_, by go_num, ?_, unhide HB0N, (unhide HKN).drew⟩
              · rw [unhide HSP]
                go_num
              · rw [unhide HSN, unhide HT]
                exact unhide HB1N
            case measure => simp [intOf]; omega
          · have x0 := (cell_of_blk hb1 0).trans (show (#[.int .i64 m, .int .i64 0, str (q.take s)] : Array Value)[0]? = some (.int .i64 m) from rfl)
            have x1 := (cell_of_blk hb1 1).trans (show (#[.int .i64 m, .int .i64 0, str (q.take s)] : Array Value)[1]? = some (.int .i64 0) from rfl)
            have z0 := frozen_of_blk hb0 0
            have z1 := frozen_of_blk hb0 1
            have z2 := frozen_of_blk hb0 2
            have y0 := (cell_of_blk hb0 0).trans (show (#[.int .i64 0, .int .i64 0, .string ⟨#[]⟩] : Array Value)[0]? = some (.int .i64 0) from rfl)
            have y1 := (cell_of_blk hb0 1).trans (show (#[.int .i64 0, .int .i64 0, .string ⟨#[]⟩] : Array Value)[1]? = some (.int .i64 0) from rfl)
            have y2 := (cell_of_blk hb0 2).trans (show (#[.int .i64 0, .int .i64 0, .string ⟨#[]⟩] : Array Value)[2]? = some (.string ⟨#[]⟩) from rfl)
            have HTT : Hid (q.take s = q.take C ∧ ((a + 2 + s : Nat) : Int) = (t.length : Int) - ((q.drop C).length : Int)) := by
              by_cases hsC : s = C
              · subst hsC
                refine ⟨rfl, ?_⟩
                rw [List.length_drop]
                omega
              · have hsq : s = q.length := by omega
                refine ⟨by rw [List.take_of_length_le (by omega), List.take_of_length_le (by omega)], ?_⟩
                rw [List.length_drop]
                omega
            obtain ⟨s0, s1, s2⟩ := set3 hb0 (.int .i64 m) (.int .i64 0) (str (q.take s))
            have HKN := hide (hkp.fresh (Nat.le_refl _) (keeps_set3 wr w.heap.size (.int .i64 m) (.int .i64 0) (str (q.take s))))
            have HFIN : Hid (∀ wz : World, wz.cell? ⟨w.heap.size, 0, none⟩ = some (.int .i64 m) → wz.cell? ⟨w.heap.size, 1, none⟩ = some (.int .i64 0) → wz.cell? ⟨w.heap.size, 2, none⟩ = some (str (q.take s)) → True) := fun _ _ _ _ => trivial
            obtain ⟨P, hP⟩ : ∃ P : Nat, a + 2 + s = P := ⟨_, rfl⟩
            have hPt : P ≤ t.length := by omega
            rw [hP] at HTT ⊢
            obtain ⟨Q0, hQ0⟩ : ∃ Q0, q.take s = Q0 := ⟨_, rfl⟩
            rw [hQ0] at HTT x2 s0 s1 s2 HKN
            have hcase : (C : Int) ≤ (s : Int) ∨ ((s : Int) < (C : Int) ∧ (t.length : Int) ≤ (P : Int)) := by omega
            clear hkp hb1 hb0 hP hs1 hs2 HB1R HB0R HFIN hgo hQ0
            rcases hcase with hc1 | ⟨hc1, hc2⟩
            case' inl =>
              have hc3 : ¬ (s : Int) < (C : Int) := by omega
              go_wp2_with fail
            case' inr =>
              have hc3 : decide ((P : Int) < (t.length : Int)) = false := decide_eq_false (by omega)
              go_wp2_with fail
            all_goals
              generalize (((wr.setCell ⟨w.heap.size, 0, none⟩ (.int .i64 m)).setCell ⟨w.heap.size, 1, none⟩ (.int .i64 0)).setCell ⟨w.heap.size, 2, none⟩ (str Q0)) = w7 at s0 s1 s2 HKN ⊢
              refine bodyPost_ret (v := .tuple #[ValA.v ⟨m, 0, Q0⟩, .int .i64 (P : Int)]) (by simp [results, go_sem, ValA.v, s0, s1, s2]) rfl ?_
              refine ⟨?_, unhide HKN⟩
              rw [(unhide HTT).1, (unhide HTT).2]
              try simp only [List.length_drop]
    · by_cases h34 : opdB (num c) = 3 ∨ opdB (num c) = 4
      · have e1 : (opdB (num c) == 1) = false := by simpa using h1
        have e2 : (opdB (num c) == 2) = false := by simpa using h2
        cases r with
        | nil =>
          have HE : Hid (readC [c] = (⟨num c, 0, []⟩, [])) := by show _ = _; simp only [readC]; rw [if_neg h1, if_neg h2, if_pos h34]
          rw [unhide HE]
          have i2 : ¬ (a : Int) + 1 < (t.length : Int) := by simp at hlen; omega
          have HLN : Hid ((a : Int) + 1 = (t.length : Int) - (([] : Txt).length : Int)) := by show _ = _; simp at hlen ⊢; omega
          rcases h34 with h34 | h34
          all_goals
            rw [h34] at HQ
            clear h1 h2 h34 e1 e2
            generalize num c = m at *
            go_enter Tryd.func47, Tryd.ntmps47
            go_wp2_with fail
            refine (unhide HQ).mono ?_
            rintro e w2 ⟨rfl, rfl⟩
            go_wp2_with fail
            refine bodyPost_ret (v := .tuple #[ValA.v ⟨m, 0, []⟩, .int .i64 ((a : Int) + 1)]) (by simp [results, go_sem, ValA.v]) rfl ?_
            exact ⟨by rw [unhide HLN]; try rfl, ((Keeps.refl _ w).alloc _).alloc _⟩
        | cons k q =>
          have HE : Hid (readC (c :: k :: q) = (⟨num c, num k, []⟩, q)) := by show _ = _; simp only [readC]; rw [if_neg h1, if_neg h2, if_pos h34]
          rw [unhide HE]
          obtain ⟨htk, hlk, _⟩ := drop_len hdr
          have i2 : (a : Int) + 1 < (t.length : Int) := by omega
          have hk := num_range k
          have HLN : Hid ((a : Int) + 1 + 1 = (t.length : Int) - (q.length : Int)) := by show _ = _; omega
          have cK := ((unhide HKA).cell hblt id).trans ((unhide HG) (a + 1) k htk)
          rcases h34 with h34 | h34
          all_goals
            rw [h34] at HQ
            clear h1 h2 h34 e1 e2 htk
            generalize num c = m at *
            generalize num k = N at *
            go_enter Tryd.func47, Tryd.ntmps47
            go_wp2_with fail
            refine (unhide HQ).mono ?_
            rintro e w2 ⟨rfl, rfl⟩
            go_wp2_with fail
            refine bodyPost_ret (v := .tuple #[ValA.v ⟨m, N, []⟩, .int .i64 ((a : Int) + 1 + 1)]) (by simp [results, go_sem, ValA.v]) rfl ?_
            exact ⟨by rw [unhide HLN]; try rfl, ((Keeps.refl _ w).alloc _).alloc _⟩
      · have HE : Hid (readC (c :: r) = (⟨num c, 0, []⟩, r)) := by show _ = _; simp only [readC]; rw [if_neg h1, if_neg h2, if_neg h34]
        rw [unhide HE]
        have e1 : (opdB (num c) == 1) = false := by simpa using h1
        have e2 : (opdB (num c) == 2) = false := by simpa using h2
        have e3 : (opdB (num c) == 3) = false := by simp; intro h; exact h34 (Or.inl h)
        have e4 : (opdB (num c) == 4) = false := by simp; intro h; exact h34 (Or.inr h)
        have HLN : Hid ((a : Int) + 1 = (t.length : Int) - (r.length : Int)) := by show _ = _; omega
        clear h1 h2 h34
        generalize opdB (num c) = o at *
        generalize num c = m at *
        go_enter Tryd.func47, Tryd.ntmps47
        go_wp2_with fail
        refine (unhide HQ).mono ?_
        rintro e w2 ⟨rfl, rfl⟩
        go_wp2_with fail
        refine bodyPost_ret (v := .tuple #[ValA.v ⟨m, 0, []⟩, .int .i64 ((a : Int) + 1)]) (by simp [results, go_sem, ValA.v]) rfl ?_
        exact ⟨by rw [unhide HLN]; try rfl, ((Keeps.refl _ w).alloc _).alloc _⟩

end Go.Proofs.YtcfnlnceoalnoaaDoor
namespace Go.Proofs.YtcfnlnceoalnoaaDoor
open Go.RowKit Go.Maps

/-- Reading all, whatever the fuel. -/
theorem allC_fuel : ∀ (n m : Nat) (b : Txt), b.length ≤ n → b.length ≤ m → allC n b = allC m b
  | 0, 0, _, _, _ => rfl
  | 0, m + 1, b, h, _ => by
    have : b = [] := List.eq_nil_of_length_eq_zero (by omega)
    subst this
    simp [allC]
  | n + 1, 0, b, _, h => by
    have : b = [] := List.eq_nil_of_length_eq_zero (by omega)
    subst this
    simp [allC]
  | n + 1, m + 1, b, h1, h2 => by
    rw [allC, allC]
    split
    · rfl
    · rename_i hb
      have := readC_len b hb
      rw [allC_fuel n m (readC b).2 (by omega) (by omega)]
def allD (b : Txt) : List ValA := allC b.length b
theorem allD_nil : allD [] = [] := by simp [allD, allC]
theorem allD_cons {b : Txt} (h : b ≠ []) : allD b = (readC b).1 :: allD (readC b).2 := by
  unfold allD
  have hl := readC_len b h
  cases hb : b.length with
  | zero => exact absurd (List.eq_nil_of_length_eq_zero hb) h
  | succ n =>
    rw [allC, if_neg h, allC_fuel n (readC b).2.length (readC b).2 (by omega) (by omega)]
theorem refC_D (b : Txt) (h : b.length ≤ 96) : refC b = if (encC (allD b)).2 ≠ 0 ∨ (encC (allD b)).1 ≠ b then ([], 110) else (allD b, 0) := by
  unfold refC
  rw [if_neg (by omega)]
  rfl
/-- What is read ends at the text's own end. -/
theorem readC_suffix (b : Txt) : (readC b).2 <:+ b := by
  cases b with
  | nil => simp [readC]
  | cons c r =>
    have tb : ∀ (t : Txt) (u s : Nat), (tbB t u s).2 <:+ t := by
      intro t
      induction t with
      | nil => intro u s; simp [tbB]
      | cons x t ih =>
        intro u s
        rw [tbB]
        split
        · exact List.suffix_cons x t
        · exact (ih _ _).trans (List.suffix_cons x t)
    simp only [readC]
    repeat' split
    · exact (tb r 0 1).trans (List.suffix_cons c r)
    · exact List.nil_suffix
    · rename_i k q
      exact ((List.drop_suffix _ _).trans (List.suffix_cons _ _)).trans (List.suffix_cons _ _)
    · exact List.nil_suffix
    · exact (List.suffix_cons _ _).trans (List.suffix_cons _ _)
    · exact List.suffix_cons c r
theorem suffix_drop {a b : Txt} (h : a <:+ b) : b.drop (b.length - a.length) = a := by
  obtain ⟨p, rfl⟩ := h
  simp

set_option maxRecDepth 100000 in
set_option maxHeartbeats 2000000 in
theorem refDecode_v (t : Txt) (v : Value) (w : World) (h : BytesAt w v t) :
    Calls Tryd.prog 34 #[v] w fun e w' => ∃ r', e = .returned (.tuple #[r', .int .i64 (refC t).2]) ∧ w'.ownsRow w.heap.size 70 3 r' (refC t).1.length (vcs (refC t).1) ∧ Keeps (fun _ => False) w w' := by
  obtain ⟨ao, cap, rfl⟩ := RowAt.form h
  by_cases h96 : 96 < t.length
  · have e : refC t = ([], 110) := by unfold refC; rw [if_pos h96]
    rw [e]
    have i1 : (96 : Int) < (t.length : Int) := by omega
    clear h
    go_enter Tryd.func34, Tryd.ntmps34
    go_wp2_with fail
    go_ret2
    exact ⟨_, rfl, World.ownsRow_nil _ w.heap.size 70 3, Keeps.refl _ _⟩
  · have hl : t.length ≤ 96 := by omega
    have i1 : ¬ (96 : Int) < (t.length : Int) := by omega
    obtain ⟨i0, hi, hz0, hz1, hz2⟩ := info_parts Tryd.info70
    have HV := hide h
    have HRC := hide (refC_D t hl)
    clear h h96
    go_enter Tryd.func34, Tryd.ntmps34
    go_wp2_with fail
    go_loopw [4, 5] (fun o i wr => ∃ (k : Nat) (dn : List ValA), k ≤ t.length ∧ i = .int .i64 k ∧ dn.length ≤ k ∧ wr.ownsRow w.heap.size 70 3 o dn.length (vcs dn) ∧ Hid (allD t = dn ++ allD (t.drop k) ∧ InR dn) ∧ Keeps (fun _ => False) w wr) (fun _ i _ => t.length - (intOf i).toNat)
    case atStart => exact ⟨0, [], Nat.zero_le _, rfl, by simp, World.ownsRow_nil _ w.heap.size 70 3, ⟨by simp, by intro x hx; simp at hx⟩, Keeps.refl _ _⟩
    case round =>
      obtain ⟨k, dn, hk, rfl, hdk, hown, HS, hkp⟩ := hrel
      obtain ⟨oo, oc, rfl⟩ := (rowAt_own hown).form
      have HW := hide hown
      have HK := hide hkp
      have hsz := hkp.size
      by_cases hlt : k < t.length
      · have hne : t.drop k ≠ [] := by
          intro e
          have := congrArg List.length e
          simp at this
          omega
        have HQ := hide (read_v wr (.slice ao t.length cap) t k ((unhide HV).keepF hkp) hlt (by omega))
        have HAC := hide (allD_cons hne)
        have hrl := readC_len (t.drop k) hne
        rw [List.length_drop] at hrl
        have HDR : Hid (t.drop (t.length - (readC (t.drop k)).2.length) = (readC (t.drop k)).2) := by
          have h1 := readC_suffix (t.drop k)
          exact suffix_drop (h1.trans (List.drop_suffix k t))
        have HRG := hide (readC_range (t.drop k))
        have i2 : (k : Int) < (t.length : Int) := by omega
        clear hown hkp hne
        generalize readC (t.drop k) = R at *
        obtain ⟨x, rs⟩ := R
        simp only at *
        obtain ⟨N, hN⟩ : ∃ N : Nat, N = t.length - rs.length := ⟨_, rfl⟩
        have hNE : (t.length : Int) - (rs.length : Int) = (N : Int) := by omega
        have hNk : k < N := by omega
        have hNt : N ≤ t.length := by omega
        rw [hNE] at HQ
        rw [← hN] at HDR
        clear hNE hN hrl
        go_wp2_with fail
        refine (unhide HQ).mono ?_
        rintro e w2 ⟨rfl, hk2⟩
        have HK2 := hide ((unhide HK).trans hk2)
        have HW2 := hide (ownsRow_kept (unhide HW) hk2 (fun _ _ => id))
        have hs2 : w.heap.size ≤ w2.heap.size := (unhide HK2).size
        have HE : Hid (allD t = (dn ++ [x]) ++ allD (t.drop N) ∧ InR (dn ++ [x])) := by
          refine ⟨?_, InR_append (unhide HS).2 (by intro y hy; simp at hy; subst hy; exact unhide HRG)⟩
          rw [(unhide HS).1, unhide HAC, unhide HDR]
          simp
        clear hk2 HQ
        unfold ValA.v
        obtain ⟨HX, hxb, hxc⟩ := boxed w2 #[.int .i64 x.kind, .int .i64 x.n, str x.s] 70
        have a0 := hxc 0 (.int .i64 x.kind) rfl
        have a1 := hxc 1 (.int .i64 x.n) rfl
        have a2 := hxc 2 (str x.s) rfl
        go_wp2_with (at_builtin; refine wpList_append_lies _ rfl _ _ _ rfl w.heap.size 70 i0 _ 3 32 Tryd.underlying57 hi hz0 hz1 hz2 rfl (by omega) (.slice oo dn.length oc) dn.length (vcs dn) rfl (((unhide HW2).alloc _).alloc _) ⟨w2.heap.size + 1, 0, none⟩ 1 1 x.cs rfl rfl (World.news_of_block (cs := #[.int .i64 x.kind, .int .i64 x.n, str x.s]) (t := 70) (fr := (0, 0)) (by have q := heap_alloc_new (w2.alloc (.cells #[.int .i64 x.kind, .int .i64 x.n, str x.s] 70)) (.cells #[.int .i64 x.kind, .int .i64 x.n, str x.s] 70); rw [World.size_alloc] at q; exact q)) (by simp [Value.oneCell', ValA.cs]) (by omega) (by unfold maxLen; omega) (by omega) (by simp; omega) (w2.heap.size + 2) (by simp) ?_; intro g3 cap3 w3 hown3 hgrow3 hat3 hlt3; have HO3 := hide hown3; have HK3 := hide ((((unhide HK2).alloc _).alloc _).grown hgrow3 (fun q e hq => by have := ((unhide HW2).lt q e).1; omega)); clear hown3 hgrow3 hat3)
        go_roundw
        case rel =>
          refine ⟨N, dn ++ [x], by omega, by go_num, by simp; omega, ?_, HE, unhide HK3⟩
          simpa [vcs] using unhide HO3
        case measure => simp [intOf]; omega
      · obtain rfl : k = t.length := by omega
        have i2 : ¬ (t.length : Int) < (t.length : Int) := by omega
        have hall : allD t = dn := by
          have := (unhide HS).1
          rw [List.drop_length, allD_nil] at this
          simpa using this
        have hdI := (unhide HS).2
        have HQ := hide (refEncode_v dn (.slice oo dn.length oc) wr (rowAt_own hown) hdI)
        have HV2 := hide ((unhide HV).keepF hkp)
        rw [hall] at HRC
        clear hown hkp HS hall hlt
        go_wp2_with fail
        refine (unhide HQ).mono ?_
        rintro e w2 ⟨b2, rfl, ho2, hk2⟩
        have HK2 := hide ((unhide HK).trans hk2)
        have HW2 := hide (ownsRow_kept (unhide HW) hk2 (fun _ _ => id))
        have HQ3 := hide (eqBytes_any w2 (.slice ao t.length cap) b2 t (encC dn).1 ((unhide HV2).keepF hk2) (rowAt_own ho2) (by unfold maxLen; omega))
        clear ho2 hk2 HQ
        by_cases he : (encC dn).2 = 0
        · rw [he]
          rw [he] at HRC
          by_cases hq : t = (encC dn).1
          · rw [decide_eq_true hq] at HQ3
            have HE : Hid (refC t = (dn, 0)) := by show _ = _; rw [unhide HRC, if_neg (by simp; exact hq.symm)]
            clear he hq HRC
            go_wp2_with (go_at_call 22; refine (unhide HQ3).mono ?_; rintro e w4 ⟨rfl, nn, rfl⟩)
            go_ret2
            rw [unhide HE]
            exact ⟨_, rfl, ownsRow_kept (unhide HW2) ((Keeps.refl _ _).drewN _) (fun _ _ => id), (unhide HK2).drewN _⟩
          · rw [decide_eq_false hq] at HQ3
            have HE : Hid (refC t = ([], 110)) := by show _ = _; rw [unhide HRC, if_pos (Or.inr (fun e => hq e.symm))]
            clear he hq HRC
            go_wp2_with (go_at_call 22; refine (unhide HQ3).mono ?_; rintro e w4 ⟨rfl, nn, rfl⟩)
            go_ret2
            rw [unhide HE]
            exact ⟨_, rfl, World.ownsRow_nil _ w.heap.size 70 3, (unhide HK2).drewN _⟩
        · have HE : Hid (refC t = ([], 110)) := by show _ = _; rw [unhide HRC, if_pos (Or.inl he)]
          have he2 : ((encC dn).2 != 0) = true := by simpa using he
          clear he HRC HQ3
          generalize (encC dn).2 = E at *
          go_wp2_with fail
          go_ret2
          rw [unhide HE]
          exact ⟨_, rfl, World.ownsRow_nil _ w.heap.size 70 3, unhide HK2⟩

end Go.Proofs.YtcfnlnceoalnoaaDoor
