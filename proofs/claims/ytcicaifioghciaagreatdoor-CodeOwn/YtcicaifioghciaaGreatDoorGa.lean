import Derived.Test.YtcicaifioghciaaGreatDoorFe
namespace Go.Proofs.YtcicaifioghciaaGreatDoor
open Go.RowKit Go.Maps

theorem drop_at2 {t : Txt} {k : Nat} {c : UInt8} (h : t[k]? = some c) : t.drop k = c :: t.drop (k + 1) := by
  obtain ⟨hk, hx⟩ := List.getElem?_eq_some_iff.1 h
  rw [List.drop_eq_getElem_cons hk, hx]
set_option maxRecDepth 100000 in
set_option maxHeartbeats 2000000 in
theorem turnedBack_v (w : World) (v : Value) (t : Txt) (a : Nat) (h : BytesAt w v t) (ha : a ≤ t.length) (ht : t.length ≤ 4096) :
    Calls Tryz.prog 58 #[v, .int .i64 a] w fun e w' => e = .returned (.tuple #[.int .i64 (backB (tbB (t.drop a) 0 1).1), .int .i64 ((t.length : Int) - ((tbB (t.drop a) 0 1).2.length : Int))]) ∧ w' = w := by
  obtain ⟨ao, cap, rfl⟩ := RowAt.form h
  have HF := hide h
  clear h
  obtain ⟨R, HR⟩ : ∃ R, Hid (tbB (t.drop a) 0 1 = R) := ⟨_, rfl⟩
  rw [unhide HR]
  go_enter Tryz.func58, Tryz.ntmps58
  go_wp2_with fail
  go_loopw [1, 6, 7] (fun i u p wr => ∃ (k U P : Nat), k ≤ t.length ∧ i = .int .i64 k ∧ u = .int .u64 U ∧ p = .int .u64 P ∧ U ≤ 18446744073709551615 ∧ P ≤ 18446744073709551615 ∧ Hid (R = tbB (t.drop k) U P) ∧ wr = w) (fun i _ _ _ => t.length - (intOf i).toNat)
  case atStart => exact ⟨a, 0, 1, ha, rfl, rfl, rfl, by omega, by omega, (unhide HR).symm, rfl⟩
  case round =>
    obtain ⟨k, U, P, hk, rfl, rfl, rfl, hU, hP, HG, rfl⟩ := hrel
    by_cases hlt : k < t.length
    · obtain ⟨c, hx⟩ : ∃ c, t[k]? = some c := ⟨_, List.getElem?_eq_getElem hlt⟩
      obtain ⟨b, off, cc, e1, hblt, hc⟩ := (unhide HF).cells (by omega)
      simp at e1
      obtain ⟨rfl, rfl⟩ := e1
      have c0 := hc k c hx
      have hcr := num_range c
      have HD := hide (drop_at2 hx)
      obtain ⟨V, hV⟩ : ∃ V, V = (U + c.toNat % 128 * P) % 18446744073709551616 := ⟨_, rfl⟩
      obtain ⟨P2, hP2⟩ : ∃ P2, P2 = P * 128 % 18446744073709551616 := ⟨_, rfl⟩
      have hVle : V ≤ 18446744073709551615 := by omega
      have hPle : P2 ≤ 18446744073709551615 := by omega
      have hVE : IntKind.u64.wrap ((U : Int) + IntKind.u64.wrap (num c % 128 * (P : Int))) = (V : Int) := by
        rw [wrapU_add, hV]
        have hm : num c % 128 * (P : Int) = ((c.toNat % 128 * P : Nat) : Int) := by rw [Int.natCast_mul, Int.natCast_emod]; rfl
        rw [hm]
        generalize c.toNat % 128 * P = Z
        omega
      have hPE : IntKind.u64.wrap ((P : Int) * 128) = (P2 : Int) := by
        rw [IntKind.wrap_u64]
        omega
      have HS : Hid (R = if c.toNat < 128 then (V, t.drop (k + 1)) else tbB (t.drop (k + 1)) V P2) := by
        show _ = _
        rw [unhide HG, unhide HD, tbB, ← hV, ← hP2]
      have i1 : (k : Int) < (t.length : Int) := by omega
      have i0' : (0 : Int) ≤ (k : Int) := by omega
      clear hc hx hV hP2 HR HG HD
      by_cases h128 : num c < 128
      · have HE : Hid (R = (V, t.drop (k + 1))) := by
          show _ = _
          rw [unhide HS, if_pos (by unfold num at h128; omega)]
        by_cases hpar : (V : Int) % 2 = 1
        · have e2 : ((V : Int) % 2 == 1) = true := by simpa using hpar
          go_wp2_with fail
          go_ret2
          refine ⟨?_, rfl⟩
          rw [unhide HE]
          refine ret_ii ?_ ?_
          · unfold backB
            rw [if_neg (by omega)]
          · simp only [List.length_drop]
            omega
        · have e2 : ((V : Int) % 2 == 1) = false := by simpa using hpar
          go_wp2_with fail
          go_ret2
          refine ⟨?_, rfl⟩
          rw [unhide HE]
          refine ret_ii ?_ ?_
          · unfold backB
            rw [if_pos (by omega)]
          · simp only [List.length_drop]
            omega
      · have h128' : ¬ num c < 128 := h128
        go_wp2_with fail
        go_roundw
        case rel =>
          refine ⟨k + 1, V, P2, by omega, by go_num, by first | rfl | rw [hVE], by first | rfl | rw [hPE], hVle, hPle, ?_, by trivial⟩
          show _ = _
          rw [unhide HS, if_neg (by unfold num at h128; omega)]
        case measure => simp [intOf]; omega
    · obtain rfl : k = t.length := by omega
      have i1 : ¬ (t.length : Int) < (t.length : Int) := by omega
      have HE : Hid (R = (U, [])) := by
        show _ = _
        rw [unhide HG, List.drop_length, tbB]
      clear hlt
      by_cases hpar : (U : Int) % 2 = 1
      · have e2 : ((U : Int) % 2 == 1) = true := by simpa using hpar
        go_wp2_with fail
        go_ret2
        refine ⟨?_, rfl⟩
        rw [unhide HE]
        refine ret_ii ?_ ?_
        · unfold backB
          rw [if_neg (by omega)]
        · simp
      · have e2 : ((U : Int) % 2 == 1) = false := by simpa using hpar
        go_wp2_with fail
        go_ret2
        refine ⟨?_, rfl⟩
        rw [unhide HE]
        refine ret_ii ?_ ?_
        · unfold backB
          rw [if_pos (by omega)]
        · simp

end Go.Proofs.YtcicaifioghciaaGreatDoor
