import Derived.Test.YtajklagdjokojaaGreatDoorRi
import Derived.Test.YtajklagdjokojaaGreatDoorJp
import Derived.Test.YtajklagdjokojaaGreatDoorJu
namespace Go.Proofs.YtajklagdjokojaaGreatDoor
open Go.RowKit Go.Maps

/-- What a reading of a piece answers: how many bytes it takes, and, if it takes some, which bytes it means. -/
def PieceA (e : Ending) (n : Int) (Q : Txt) : Prop := ∃ P : Txt, e = .returned (.tuple #[str P, .int .i64 n]) ∧ (n ≠ 0 → P = Q)

set_option maxRecDepth 100000 in
set_option maxHeartbeats 1000000 in
theorem escape_v (T : Txt) (h0 : 1 ≤ T.length) (w : World) (hE : Env w) :
    Calls Tryz.prog 174 #[str T] w fun e w' => PieceA e (escB T 0).2 [UInt8.ofNat (escB T 0).1.toNat] ∧ Keeps (fun _ => False) w w' := by
  cases h : T[1]? with
  | none =>
    have h1 := get_ge h
    have HE : Hid (escB T 0 = (0, 0)) := by show _ = _; unfold escB; rw [show T[0 + 1]? = none from h]
    have h2 : (T.length : Int) < 2 := by omega
    clear h hE
    go_enter Tryz.func174, Tryz.ntmps174
    go_wp2_with fail
    go_ret2
    exact ⟨⟨[], by rw [unhide HE]; rfl, fun h => absurd (by rw [unhide HE]) h⟩, Keeps.refl _ _⟩
  | some c =>
    have h1 := get_lt h
    have q := str_at h
    have e1 : (c.toNat : Int) = num c := rfl
    have h2 : ¬ (T.length : Int) < 2 := by omega
    have HX : Hid (num c = 120 → Calls Tryz.prog 192 #[str T] w fun e w' => ∃ P : Txt, e = .returned (.tuple #[str P, .int .i64 (escB T 0).2]) ∧ ((escB T 0).2 ≠ 0 → P = [UInt8.ofNat (escB T 0).1.toNat]) ∧ Keeps (fun _ => False) w w') := fun hc => unquoteHex_any T ⟨c, h, hc⟩ w hE
    have hx : (ByteArray.mk T.toArray).extract 1 2 = ⟨[c].toArray⟩ := by
      rw [ext_str]
      have : (T.drop 1).take 1 = [c] := by rw [List.take_one]; simp [h]
      rw [show 2 - 1 = 1 from rfl, this]
    have HES : Hid (escB T 0 = if num c = 34 then (34, 2) else if num c = 92 then (92, 2) else if num c = 110 then (10, 2) else if num c = 116 then (9, 2) else if num c = 120 then escB T 0 else (0, 0)) := by
      show _ = _
      by_cases g : num c = 120
      · rw [if_neg (by omega), if_neg (by omega), if_neg (by omega), if_neg (by omega), if_pos g]
      · conv => lhs; unfold escB
        rw [show T[0 + 1]? = some c from h]
        simp only [if_neg g]
    obtain ⟨D, HD⟩ : ∃ D, Hid (escB T 0 = D) := ⟨_, rfl⟩
    rw [unhide HD] at HX HES
    rw [unhide HD]
    have HCC : Hid (∀ n : Nat, n < 256 → num c = (n : Int) → UInt8.ofNat n = c) := fun n hn hc => num_inj (by rw [num_of n hn, hc])
    have hr := num_range c
    have hr0 := hr.1
    have hr1 := hr.2
    clear h hE hr
    by_cases g34 : num c = 34
    · have HE : Hid (D = (34, 2)) := by show _ = _; rw [unhide HES, if_pos g34]
      have HP : Hid (([c] : Txt) = [UInt8.ofNat 34]) := by show _ = _; rw [(unhide HCC) 34 (by omega) g34]
      rw [g34] at e1
      go_enter Tryz.func174, Tryz.ntmps174
      go_wp2_with fail
      go_ret2
      exact ⟨⟨[c], by rw [unhide HE]; rfl, fun _ => by rw [unhide HE]; exact unhide HP⟩, Keeps.refl _ _⟩
    by_cases g92 : num c = 92
    · have HE : Hid (D = (92, 2)) := by show _ = _; rw [unhide HES, if_neg g34, if_pos g92]
      have HP : Hid (([c] : Txt) = [UInt8.ofNat 92]) := by show _ = _; rw [(unhide HCC) 92 (by omega) g92]
      rw [g92] at e1
      go_enter Tryz.func174, Tryz.ntmps174
      go_wp2_with fail
      go_ret2
      exact ⟨⟨[c], by rw [unhide HE]; rfl, fun _ => by rw [unhide HE]; exact unhide HP⟩, Keeps.refl _ _⟩
    by_cases g110 : num c = 110
    · have HE : Hid (D = (10, 2)) := by show _ = _; rw [unhide HES, if_neg g34, if_neg g92, if_pos g110]
      rw [g110] at e1
      go_enter Tryz.func174, Tryz.ntmps174
      go_wp2_with fail
      go_ret2
      exact ⟨⟨[10], by rw [unhide HE]; rfl, fun _ => by rw [unhide HE]; rfl⟩, Keeps.refl _ _⟩
    by_cases g116 : num c = 116
    · have HE : Hid (D = (9, 2)) := by show _ = _; rw [unhide HES, if_neg g34, if_neg g92, if_neg g110, if_pos g116]
      rw [g116] at e1
      go_enter Tryz.func174, Tryz.ntmps174
      go_wp2_with fail
      go_ret2
      exact ⟨⟨[9], by rw [unhide HE]; rfl, fun _ => by rw [unhide HE]; rfl⟩, Keeps.refl _ _⟩
    have d34 : (num c == 34) = false := by simpa using g34
    have d92 : (num c == 92) = false := by simpa using g92
    have d110 : (num c == 110) = false := by simpa using g110
    have d116 : (num c == 116) = false := by simpa using g116
    by_cases g120 : num c = 120
    · have HQ := hide ((unhide HX) g120)
      rw [g120] at e1
      clear HX HES HCC g34 g92 g110 g116
      go_enter Tryz.func174, Tryz.ntmps174
      go_wp2_with fail
      refine (unhide HQ).mono ?_
      rintro e w2 ⟨P, rfl, hP, hk⟩
      have HP := hide hP
      have HK := hide hk
      clear hP hk HQ
      go_wp2_with fail
      go_ret2
      exact ⟨⟨P, rfl, unhide HP⟩, unhide HK⟩
    · have HE : Hid (D = (0, 0)) := by show _ = _; rw [unhide HES, if_neg g34, if_neg g92, if_neg g110, if_neg g116, if_neg g120]
      have d120 : (num c == 120) = false := by simpa using g120
      clear HX HES HCC g34 g92 g110 g116 g120
      go_enter Tryz.func174, Tryz.ntmps174
      go_wp2_with fail
      go_ret2
      exact ⟨⟨[], by rw [unhide HE]; rfl, fun h => absurd (by rw [unhide HE]) h⟩, Keeps.refl _ _⟩

theorem runeB_nat (t : Txt) (h : 0 < t.length) : ∃ s : Nat, (Lib.decodeGo ⟨t.toArray⟩).2 = s ∧ (1 < s → runeB t 0 = s ∧ s ≤ t.length ∧ s ≤ 4) ∧ (¬ 1 < s → runeB t 0 = 0) := by
  refine ⟨_, rfl, fun h1 => ?_, fun h1 => ?_⟩
  · have e := decodeGo_size t h
    rw [if_pos h1] at e
    rcases runeB_le t 0 with e2 | ⟨e2, e3, e4⟩
    · omega
    · exact ⟨e, by omega, by omega⟩
  · rw [decodeGo_size t h, if_neg h1]

set_option maxRecDepth 100000 in
set_option maxHeartbeats 1000000 in
theorem piece_all (T : Txt) (c : UInt8) (h : T[0]? = some c) (w : World) (hE : Env w) (hl : T.length ≤ 1099511627776) :
    Calls Tryz.prog 150 #[str T] w fun e w' => PieceA e (pieceB T 0 c).2 (pieceB T 0 c).1 ∧ Keeps (fun _ => False) w w' := by
  have h1 := get_lt h
  have q := str_at h
  have e1 : (c.toNat : Int) = num c := rfl
  by_cases g92 : num c = 92
  · have HQ := hide (escape_v T (by omega) w hE)
    have HB : Hid (pieceB T 0 c = ([UInt8.ofNat (escB T 0).1.toNat], (escB T 0).2.toNat)) := by show _ = _; unfold pieceB; rw [if_pos (num_inj (a := c) (b := 92) g92)]
    have HR : Hid (((escB T 0).2.toNat : Int) = (escB T 0).2) := by
      have := (escB_range T 0).2.2
      show _ = _
      omega
    rw [unhide HB]
    rw [g92] at e1
    clear h hE
    go_enter Tryz.func150, Tryz.ntmps150
    go_wp2_with fail
    refine (unhide HQ).mono ?_
    rintro e w2 ⟨⟨P, rfl, hP⟩, hk⟩
    have HP := hide hP
    have HK := hide hk
    clear hP hk HQ
    go_wp2_with fail
    go_ret2
    refine ⟨⟨P, ?_, fun h => ?_⟩, unhide HK⟩
    · show _ = Ending.returned (.tuple #[str P, .int .i64 (((escB T 0).2.toNat : Nat) : Int)])
      rw [unhide HR]; rfl
    · exact (unhide HP) (by rw [← unhide HR]; exact h)
  · have d92 : (num c == 92) = false := by simpa using g92
    have n92 : c ≠ 92 := fun e => g92 (by rw [e]; rfl)
    have HP := hide (plain_v (num c) w)
    by_cases hpl : 32 ≤ num c ∧ num c ≤ 126
    · have HB : Hid (pieceB T 0 c = ([c], 1)) := by show _ = _; unfold pieceB; rw [if_neg n92, if_pos hpl]
      rw [decide_eq_true hpl.1, decide_eq_true hpl.2, Bool.and_true] at HP
      have hx : (ByteArray.mk T.toArray).extract 0 1 = ⟨[c].toArray⟩ := by
        rw [ext_str, List.drop_zero]
        have : T.take 1 = [c] := by rw [take_snoc T 0 c h]; rfl
        rw [show 1 - 0 = 1 from rfl, this]
      have h2 : (1 : Int) ≤ (T.length : Int) := by omega
      rw [unhide HB]
      clear h hE hpl
      go_enter Tryz.func150, Tryz.ntmps150
      go_wp2_with fail
      refine (unhide HP).mono ?_
      rintro e w2 ⟨rfl, rfl⟩
      go_wp2_with fail
      go_ret2
      exact ⟨⟨[c], rfl, fun _ => rfl⟩, Keeps.refl _ _⟩
    · have HB : Hid (pieceB T 0 c = (T.take (runeB T 0).toNat, (runeB T 0).toNat)) := by show _ = _; unfold pieceB; rw [if_neg n92, if_neg hpl, List.drop_zero]
      have HF : Hid ((decide (32 ≤ num c) && decide (num c ≤ 126)) = false) := by
        show _ = _
        rw [← Bool.decide_and]
        exact decide_eq_false hpl
      rw [unhide HF] at HP
      have HQ := hide (Tryz.utf8_DecodeRuneInString ⟨T.toArray⟩ w hE.tabs)
      obtain ⟨s, hs, hs1, hs2⟩ := runeB_nat T (by omega)
      rw [hs] at HQ
      generalize (Lib.decodeGo ⟨T.toArray⟩).1 = R at *
      have HS1 := hide hs1
      have HS2 := hide hs2
      rw [unhide HB]
      clear h hE hpl hs1 hs2 hs
      go_enter Tryz.func150, Tryz.ntmps150
      go_wp2_with fail
      refine (unhide HP).mono ?_
      rintro e w2 ⟨rfl, rfl⟩
      go_wp2_with fail
      refine (unhide HQ).mono ?_
      rintro e w3 ⟨rfl, hb⟩
      have HK := hide (keeps_below hb)
      clear hb HQ
      by_cases hs : 1 < s
      · obtain ⟨r1, r2, r3⟩ := (unhide HS1) hs
        have hx : (ByteArray.mk T.toArray).extract 0 s = ⟨(T.take s).toArray⟩ := by rw [ext_str, List.drop_zero, Nat.sub_zero]
        have HR : Hid ((runeB T 0).toNat = s) := by show _ = _; omega
        have hs' : (1 : Int) < (s : Int) := by omega
        have r2' : (s : Int) ≤ (T.length : Int) := by omega
        clear r1 r2 r3 hs
        go_wp2_with fail
        go_ret2
        exact ⟨⟨T.take s, by rw [unhide HR]; rfl, fun _ => by rw [unhide HR]⟩, unhide HK⟩
      · have HR : Hid ((runeB T 0).toNat = 0) := by show _ = _; rw [(unhide HS2) hs]; rfl
        have hs' : ¬ (1 : Int) < (s : Int) := by omega
        clear hs
        go_wp2_with fail
        go_ret2
        exact ⟨⟨[], by rw [unhide HR]; rfl, fun h => absurd (by rw [unhide HR]; rfl) h⟩, unhide HK⟩
end Go.Proofs.YtajklagdjokojaaGreatDoor
