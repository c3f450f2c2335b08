import Derived.Test.YtcicaifioghciaaGreatDoorQe
import Derived.Test.YtcicaifioghciaaGreatDoorJzaj
namespace Go.Proofs.YtcicaifioghciaaGreatDoor
open Go.RowKit Go.Maps
theorem decN_len : ∀ (k u : Nat), u < 10 ^ k → (decN u).length ≤ k
  | 0, u, h => by
    obtain rfl : u = 0 := by simpa using h
    unfold decN
    simp
  | k + 1, u, h => by
    unfold decN
    by_cases h0 : u = 0
    · rw [dif_pos h0]; simp
    · rw [dif_neg h0]
      have := decN_len k (u / 10) (by rw [Nat.pow_succ] at h; omega)
      simp
      omega
theorem decimal_len (n : Int) (h0 : -9223372036854775808 ≤ n) (h1 : n ≤ 9223372036854775807) : (decimal n).length ≤ 21 := by
  have h := decN_len 19 n.natAbs (by have : (10 : Nat) ^ 19 = 10000000000000000000 := by decide
                                     omega)
  unfold decimal
  split
  · simp
  · split
    · simp; omega
    · omega
theorem quoteB_len (s : Txt) : (quoteB s).length ≤ 4 * s.length + 2 := by
  have := flat_le4 s
  unfold quoteB
  simp only [List.length_cons, List.length_append, List.length_nil]
  omega
theorem itoa_v (n : Int) (h0 : -9223372036854775808 ≤ n) (h1 : n ≤ 9223372036854775807) (w : World) (hP : Pow w) : Calls Tryz.prog 30 #[.int .i64 n] w fun e w' => e = .returned (str (decimal n)) ∧ Keeps (fun _ => False) w w' := by
  refine (Tryz.strconv_Itoa n h0 h1 w hP).mono ?_
  rintro e w' ⟨rfl, k, os, rfl⟩
  rw [itoa_eq]
  exact ⟨rfl, keeps_grow w k os⟩
/-- The operand of the instruction at a place, as text. -/
def opTxt (k : Nat) (x : ValA) : Txt := if (opA x.kind).opd = 0 then [] else if (opA x.kind).opd = 2 then 32 :: quoteB x.s else if (opA x.kind).opd = 6 then 32 :: decimal ((k + 1 + x.n.toNat : Nat) : Int) else 32 :: decimal x.n
set_option maxRecDepth 100000 in
set_option maxHeartbeats 2000000 in
theorem operandText_v (k : Nat) (x : ValA) (w : World) (hO : Ops w) (hP : Pow w) (hf : formB x = 0) (hk : k ≤ 4096) (hs : x.s.length ≤ 1099511627776) (h0 : -9223372036854775808 ≤ x.n) (h1 : x.n ≤ 9223372036854775807) :
    Calls Tryz.prog 31 #[.int .i64 (k : Int), x.v] w fun e w' => e = .returned (str (opTxt k x)) ∧ Keeps (fun _ => False) w w' := by
  have ho := (formB_zero hf).1
  obtain ⟨q1, q2⟩ := opdB_range ho
  have hj := form_jump hf
  have HX : Hid (opTxt k x = if (opA x.kind).opd = 0 then [] else if (opA x.kind).opd = 2 then 32 :: quoteB x.s else if (opA x.kind).opd = 6 then 32 :: decimal ((k + 1 + x.n.toNat : Nat) : Int) else 32 :: decimal x.n) := rfl
  obtain ⟨kd, n, s⟩ := x
  unfold ValA.v
  simp only at *
  obtain ⟨m, rfl⟩ := Int.eq_ofNat_of_zero_le (show 0 ≤ kd by omega)
  obtain ⟨HB, hxb, hxc⟩ := boxed w #[.int .i64 (m : Int), .int .i64 n, str s] 51
  have f0 := hxc 0 (.int .i64 (m : Int)) rfl
  have f1 := hxc 1 (.int .i64 n) rfl
  have f2 := hxc 2 (str s) rfl
  have g1 := ((hO.keepF (unhide HB)).at (m := m) (by omega)).1
  have i0 : (0 : Int) ≤ (m : Int) := by omega
  have i1 : (m : Int) < 27 := by omega
  have HP := hide (hP.keepF (unhide HB))
  generalize hW : w.alloc (.cells #[.int .i64 (m : Int), .int .i64 n, str s] 51) = W at *
  generalize opTxt k ⟨m, n, s⟩ = R at *
  generalize (opA (m : Int)).opd = d at *
  clear hxc hO hP ho q1 q2 hf
  by_cases hd0 : d = 0
  · subst hd0
    have HE : Hid (R = []) := by show _ = _; rw [unhide HX]; rfl
    clear HX hj
    go_enter Tryz.func31, Tryz.ntmps31
    go_wp2_with fail
    go_ret
    rw [unhide HE]
    exact ⟨rfl, unhide HB⟩
  · by_cases hd2 : d = 2
    · subst hd2
      have HE : Hid (R = 32 :: quoteB s) := by show _ = _; rw [unhide HX]; rfl
      have HQ := hide (quote_v s W hs)
      have hT : (quoteB s).length ≤ 4398046511200 := by have := quoteB_len s; omega
      generalize quoteB s = T at *
      clear HX hj hd0
      go_enter Tryz.func31, Tryz.ntmps31
      go_wp2_with fail
      refine (unhide HQ).mono ?_
      rintro e w2 ⟨rfl, hk2⟩
      go_wp2_with fail
      go_ret
      rw [unhide HE]
      exact ⟨rfl, (unhide HB).trans hk2⟩
    · by_cases hd6 : d = 6
      · subst hd6
        obtain ⟨n0, n1⟩ := hj rfl
        have HE : Hid (R = 32 :: decimal ((k + 1 + n.toNat : Nat) : Int)) := by show _ = _; rw [unhide HX]; rfl
        have HQ := hide (target_v k ⟨m, n, s⟩ W hk n0 n1)
        unfold ValA.v at HQ
        simp only at HQ
        have hTl : k + 1 + n.toNat ≤ 9000 := by omega
        generalize k + 1 + n.toNat = TG at *
        have HI := hide (fun (W' : World) (hP' : Pow W') => itoa_v (TG : Int) (by omega) (by omega) W' hP')
        have hT := decimal_len (TG : Int) (by omega) (by omega)
        generalize decimal (TG : Int) = T at *
        clear HX hj hd0 hd2
        go_enter Tryz.func31, Tryz.ntmps31
        go_wp2_with fail
        refine (unhide HQ).mono ?_
        rintro e w2 ⟨rfl, hk2⟩
        have HI2 := hide ((unhide HI) w2 ((unhide HP).keepF hk2))
        go_wp2_with fail
        refine (unhide HI2).mono ?_
        rintro e w3 ⟨rfl, hk3⟩
        go_wp2_with fail
        go_ret
        rw [unhide HE]
        exact ⟨rfl, ((unhide HB).trans hk2).trans hk3⟩
      · have HE : Hid (R = 32 :: decimal n) := by show _ = _; rw [unhide HX, if_neg hd0, if_neg hd2, if_neg hd6]
        have HQ := hide (formatInt_v n h0 h1 W (unhide HP))
        have hT := decimal_len n h0 h1
        generalize decimal n = T at *
        have b0 : (d == 0) = false := by simpa using hd0
        have b2 : (d == 2) = false := by simpa using hd2
        have b6 : (d == 6) = false := by simpa using hd6
        clear HX hj hd0 hd2 hd6
        go_enter Tryz.func31, Tryz.ntmps31
        go_wp2_with fail
        refine (unhide HQ).mono ?_
        rintro e w2 ⟨rfl, hk2⟩
        go_wp2_with fail
        go_ret
        rw [unhide HE]
        exact ⟨rfl, (unhide HB).trans hk2⟩

end Go.Proofs.YtcicaifioghciaaGreatDoor
