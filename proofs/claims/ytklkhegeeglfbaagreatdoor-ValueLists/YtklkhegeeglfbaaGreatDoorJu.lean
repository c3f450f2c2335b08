import Derived.Test.YtklkhegeeglfbaaGreatDoorJt
import Derived.Test.YtklkhegeeglfbaaGreatDoorJp
import Derived.Test.YtklkhegeeglfbaaGreatDoorJs
namespace Go.Proofs.YtklkhegeeglfbaaGreatDoor
open Go.RowKit Go.Maps

/-- What a reading of a piece answers: how many bytes it takes, and, if it takes some, which bytes it means. -/
def PieceA (e : Ending) (n : Int) (Q : Txt) : Prop := ∃ P : Txt, e = .returned (.tuple #[str P, .int .i64 n]) ∧ (n ≠ 0 → P = Q)

set_option maxRecDepth 100000 in
set_option maxHeartbeats 1000000 in
theorem escape_v (T : Txt) (h0 : 1 ≤ T.length) (w : World) (hE : Env w) :
    Calls Tryz.prog 137 #[str T] w fun e w' => PieceA e (escB T 0).2 [UInt8.ofNat (escB T 0).1.toNat] ∧ Keeps (fun _ => False) w w' := by
  cases h : T[1]? with
  | none =>
    have h1 := get_ge h
    have HE : Hid (escB T 0 = (0, 0)) := by show _ = _; unfold escB; rw [show T[0 + 1]? = none from h]
    have h2 : (T.length : Int) < 2 := by omega
    clear h hE
    go_enter Tryz.func137, Tryz.ntmps137
    go_wp2_with fail
    go_ret2
    exact ⟨⟨[], by rw [unhide HE]; rfl, fun h => absurd (by rw [unhide HE]) h⟩, Keeps.refl _ _⟩
  | some c =>
    have h1 := get_lt h
    have q := str_at h
    have e1 : (c.toNat : Int) = num c := rfl
    have h2 : ¬ (T.length : Int) < 2 := by omega
    have HX : Hid (num c = 120 → Calls Tryz.prog 146 #[str T] w fun e w' => ∃ P : Txt, e = .returned (.tuple #[str P, .int .i64 (escB T 0).2]) ∧ ((escB T 0).2 ≠ 0 → P = [UInt8.ofNat (escB T 0).1.toNat]) ∧ Keeps (fun _ => False) w w') := fun hc => unquoteHex_any T ⟨c, h, hc⟩ w hE
    have hx : (ByteArray.mk T.toArray).extract 1 2 = ⟨[c].toArray⟩ := by
      rw [ext_str]
      have : (T.drop 1).take 1 = [c] := by rw [List.take_one]; simp [h]
      rw [show 2 - 1 = 1 from rfl, this]
    have HES : Hid (escB T 0 = if num c = 34 then (34, 2) else if num c = 92 then (92, 2) else if num c = 110 then (10, 2) else if num c = 116 then (9, 2) else if num c = 120 then escB T 0 else (0, 0)) := by
      show _ = _
      by_cases g : num c = 120
      · rw [if_neg (by omega), if_neg (by omega), if_neg (by omega), if_neg (by omega), if_pos g]
      · conv => lhs; unfold escB
        rw [show T[0 + 1]? = some c from h]
        simp only [if_neg g]
    obtain ⟨D, HD⟩ : ∃ D, Hid (escB T 0 = D) := ⟨_, rfl⟩
    rw [unhide HD] at HX HES
    rw [unhide HD]
    have HCC : Hid (∀ n : Nat, n < 256 → num c = (n : Int) → UInt8.ofNat n = c) := fun n hn hc => num_inj (by rw [num_of n hn, hc])
    have hr := num_range c
    have hr0 := hr.1
    have hr1 := hr.2
    clear h hE hr
    by_cases g34 : num c = 34
    · have HE : Hid (D = (34, 2)) := by show _ = _; rw [unhide HES, if_pos g34]
      have HP : Hid (([c] : Txt) = [UInt8.ofNat 34]) := by show _ = _; rw [(unhide HCC) 34 (by omega) g34]
      rw [g34] at e1
      go_enter Tryz.func137, Tryz.ntmps137
      go_wp2_with fail
      go_ret2
      exact ⟨⟨[c], by rw [unhide HE]; rfl, fun _ => by rw [unhide HE]; exact unhide HP⟩, Keeps.refl _ _⟩
    by_cases g92 : num c = 92
    · have HE : Hid (D = (92, 2)) := by show _ = _; rw [unhide HES, if_neg g34, if_pos g92]
      have HP : Hid (([c] : Txt) = [UInt8.ofNat 92]) := by show _ = _; rw [(unhide HCC) 92 (by omega) g92]
      rw [g92] at e1
      go_enter Tryz.func137, Tryz.ntmps137
      go_wp2_with fail
      go_ret2
      exact ⟨⟨[c], by rw [unhide HE]; rfl, fun _ => by rw [unhide HE]; exact unhide HP⟩, Keeps.refl _ _⟩
    by_cases g110 : num c = 110
    · have HE : Hid (D = (10, 2)) := by show _ = _; rw [unhide HES, if_neg g34, if_neg g92, if_pos g110]
      rw [g110] at e1
      go_enter Tryz.func137, Tryz.ntmps137
      go_wp2_with fail
      go_ret2
      exact ⟨⟨[10], by rw [unhide HE]; rfl, fun _ => by rw [unhide HE]; rfl⟩, Keeps.refl _ _⟩
    by_cases g116 : num c = 116
    · have HE : Hid (D = (9, 2)) := by show _ = _; rw [unhide HES, if_neg g34, if_neg g92, if_neg g110, if_pos g116]
      rw [g116] at e1
      go_enter Tryz.func137, Tryz.ntmps137
      go_wp2_with fail
      go_ret2
      exact ⟨⟨[9], by rw [unhide HE]; rfl, fun _ => by rw [unhide HE]; rfl⟩, Keeps.refl _ _⟩
    have d34 : (num c == 34) = false := by simpa using g34
    have d92 : (num c == 92) = false := by simpa using g92
    have d110 : (num c == 110) = false := by simpa using g110
    have d116 : (num c == 116) = false := by simpa using g116
    by_cases g120 : num c = 120
    · have HQ := hide ((unhide HX) g120)
      rw [g120] at e1
      clear HX HES HCC g34 g92 g110 g116
      go_enter Tryz.func137, Tryz.ntmps137
      go_wp2_with fail
      refine (unhide HQ).mono ?_
      rintro e w2 ⟨P, rfl, hP, hk⟩
      have HP := hide hP
      have HK := hide hk
      clear hP hk HQ
      go_wp2_with fail
      go_ret2
      exact ⟨⟨P, rfl, unhide HP⟩, unhide HK⟩
    · have HE : Hid (D = (0, 0)) := by show _ = _; rw [unhide HES, if_neg g34, if_neg g92, if_neg g110, if_neg g116, if_neg g120]
      have d120 : (num c == 120) = false := by simpa using g120
      clear HX HES HCC g34 g92 g110 g116 g120
      go_enter Tryz.func137, Tryz.ntmps137
      go_wp2_with fail
      go_ret2
      exact ⟨⟨[], by rw [unhide HE]; rfl, fun h => absurd (by rw [unhide HE]) h⟩, Keeps.refl _ _⟩

theorem runeB_nat (t : Txt) (h : 0 < t.length) : ∃ s : Nat, (Lib.decodeGo ⟨t.toArray⟩).2 = s ∧ (1 < s → runeB t 0 = s ∧ s ≤ t.length ∧ s ≤ 4) ∧ (¬ 1 < s → runeB t 0 = 0) := by
  refine ⟨_, rfl, fun h1 => ?_, fun h1 => ?_⟩
  · have e := decodeGo_size t h
    rw [if_pos h1] at e
    rcases runeB_le t 0 with e2 | ⟨e2, e3, e4⟩
    · omega
    · exact ⟨e, by omega, by omega⟩
  · rw [decodeGo_size t h, if_neg h1]

set_option maxRecDepth 100000 in
set_option maxHeartbeats 1000000 in
theorem piece_all (T : Txt) (c : UInt8) (h : T[0]? = some c) (w : World) (hE : Env w) (hl : T.length ≤ 1099511627776) :
    Calls Tryz.prog 121 #[str T] w fun e w' => PieceA e (pieceB T 0 c).2 (pieceB T 0 c).1 ∧ Keeps (fun _ => False) w w' := by
  have h1 := get_lt h
  have q := str_at h
  have e1 : (c.toNat : Int) = num c := rfl
  by_cases g92 : num c = 92
  · have HQ := hide (escape_v T (by omega) w hE)
    have HB : Hid (pieceB T 0 c = ([UInt8.ofNat (escB T 0).1.toNat], (escB T 0).2.toNat)) := by show _ = _; unfold pieceB; rw [if_pos (num_inj (a := c) (b := 92) g92)]
    have HR : Hid (((escB T 0).2.toNat : Int) = (escB T 0).2) := by
      have := (escB_range T 0).2.2
      show _ = _
      omega
    rw [unhide HB]
    rw [g92] at e1
    clear h hE
    go_enter Tryz.func121, Tryz.ntmps121
    go_wp2_with fail
    refine (unhide HQ).mono ?_
    rintro e w2 ⟨⟨P, rfl, hP⟩, hk⟩
    have HP := hide hP
    have HK := hide hk
    clear hP hk HQ
    go_wp2_with fail
    go_ret2
    refine ⟨⟨P, ?_, fun h => ?_⟩, unhide HK⟩
    · show _ = Ending.returned (.tuple #[str P, .int .i64 (((escB T 0).2.toNat : Nat) : Int)])
      rw [unhide HR]; rfl
    · exact (unhide HP) (by rw [← unhide HR]; exact h)
  · have d92 : (num c == 92) = false := by simpa using g92
    have n92 : c ≠ 92 := fun e => g92 (by rw [e]; rfl)
    have HP := hide (plain_v (num c) w)
    by_cases hpl : 32 ≤ num c ∧ num c ≤ 126
    · have HB : Hid (pieceB T 0 c = ([c], 1)) := by show _ = _; unfold pieceB; rw [if_neg n92, if_pos hpl]
      rw [decide_eq_true hpl.1, decide_eq_true hpl.2, Bool.and_true] at HP
      have hx : (ByteArray.mk T.toArray).extract 0 1 = ⟨[c].toArray⟩ := by
        rw [ext_str, List.drop_zero]
        have : T.take 1 = [c] := by rw [take_snoc T 0 c h]; rfl
        rw [show 1 - 0 = 1 from rfl, this]
      have h2 : (1 : Int) ≤ (T.length : Int) := by omega
      rw [unhide HB]
      clear h hE hpl
      go_enter Tryz.func121, Tryz.ntmps121
      go_wp2_with fail
      refine (unhide HP).mono ?_
      rintro e w2 ⟨rfl, rfl⟩
      go_wp2_with fail
      go_ret2
      exact ⟨⟨[c], rfl, fun _ => rfl⟩, Keeps.refl _ _⟩
    · have HB : Hid (pieceB T 0 c = (T.take (runeB T 0).toNat, (runeB T 0).toNat)) := by show _ = _; unfold pieceB; rw [if_neg n92, if_neg hpl, List.drop_zero]
      have HF : Hid ((decide (32 ≤ num c) && decide (num c ≤ 126)) = false) := by
        show _ = _
        rw [← Bool.decide_and]
        exact decide_eq_false hpl
      rw [unhide HF] at HP
      have HQ := hide (Tryz.utf8_DecodeRuneInString ⟨T.toArray⟩ w hE.tabs)
      obtain ⟨s, hs, hs1, hs2⟩ := runeB_nat T (by omega)
      rw [hs] at HQ
      generalize (Lib.decodeGo ⟨T.toArray⟩).1 = R at *
      have HS1 := hide hs1
      have HS2 := hide hs2
      rw [unhide HB]
      clear h hE hpl hs1 hs2 hs
      go_enter Tryz.func121, Tryz.ntmps121
      go_wp2_with fail
      refine (unhide HP).mono ?_
      rintro e w2 ⟨rfl, rfl⟩
      go_wp2_with fail
      refine (unhide HQ).mono ?_
      rintro e w3 ⟨rfl, hb⟩
      have HK := hide (keeps_below hb)
      clear hb HQ
      by_cases hs : 1 < s
      · obtain ⟨r1, r2, r3⟩ := (unhide HS1) hs
        have hx : (ByteArray.mk T.toArray).extract 0 s = ⟨(T.take s).toArray⟩ := by rw [ext_str, List.drop_zero, Nat.sub_zero]
        have HR : Hid ((runeB T 0).toNat = s) := by show _ = _; omega
        have hs' : (1 : Int) < (s : Int) := by omega
        have r2' : (s : Int) ≤ (T.length : Int) := by omega
        clear r1 r2 r3 hs
        go_wp2_with fail
        go_ret2
        exact ⟨⟨T.take s, by rw [unhide HR]; rfl, fun _ => by rw [unhide HR]⟩, unhide HK⟩
      · have HR : Hid ((runeB T 0).toNat = 0) := by show _ = _; rw [(unhide HS2) hs]; rfl
        have hs' : ¬ (1 : Int) < (s : Int) := by omega
        clear hs
        go_wp2_with fail
        go_ret2
        exact ⟨⟨[], by rw [unhide HR]; rfl, fun h => absurd (by rw [unhide HR]; rfl) h⟩, unhide HK⟩
end Go.Proofs.YtklkhegeeglfbaaGreatDoor
namespace Go.Proofs.YtklkhegeeglfbaaGreatDoor
open Go.RowKit Go.Maps

theorem piece_drop (t : Txt) (a : Nat) (c : UInt8) (ha : a ≤ t.length) : pieceB (t.drop a) 0 c = pieceB t a c := by
  unfold pieceB
  rw [escB_drop, runeB_drop t a ha, List.drop_zero]
theorem piece_le (T : Txt) (c : UInt8) (h : T[0]? = some c) : (pieceB T 0 c).2 ≤ T.length ∧ (pieceB T 0 c).1.length ≤ 4 := by
  have h1 := get_lt h
  unfold pieceB
  split
  · refine ⟨?_, by simp⟩
    show (escB T 0).2.toNat ≤ _
    cases e3 : T[0 + 3]? with
    | some x =>
      have := get_lt e3
      have := (escB_range T 0).2.2
      omega
    | none =>
      unfold escB
      cases e1 : T[0 + 1]? with
      | none => simp
      | some x =>
        have := get_lt e1
        rw [e3]
        simp only
        repeat' split
        all_goals first | (simp; omega) | simp_all
  · split
    · exact ⟨by show 1 ≤ _; omega, by simp⟩
    · rcases runeB_le T 0 with e | ⟨e2, e3, e4⟩
      · rw [e]; simp
      · refine ⟨by show (runeB T 0).toNat ≤ _; omega, ?_⟩
        simp only [List.length_take]
        omega
theorem piece_some (T : Txt) (c : UInt8) (h : T[0]? = some c) (hn : (pieceB T 0 c).2 ≠ 0) : 1 ≤ (pieceB T 0 c).1.length := by
  have h1 := get_lt h
  unfold pieceB at *
  split
  · simp
  · rename_i h2
    rw [if_neg h2] at hn
    split
    · simp
    · rename_i h3
      rw [if_neg h3] at hn
      simp only [List.length_take, List.length_drop] at hn ⊢
      omega
theorem unq_none {f : Nat} {t b : Txt} {a : Nat} (h : t[a]? = none) : unqLoop f t b a = none := by
  cases f with
  | zero => rfl
  | succ f => rw [unqLoop, h]; simp
theorem unq_long {f : Nat} {t b : Txt} {a : Nat} (h : ¬ b.length ≤ 20) : unqLoop f t b a = none := by
  cases f with
  | zero => rfl
  | succ f => rw [unqLoop, if_neg h]
theorem unq_end {f : Nat} {t b : Txt} {a : Nat} (h : t[a]? = some 34) (hb : b.length ≤ 20) : unqLoop (f + 1) t b a = some (b, a + 1) := by
  rw [unqLoop, if_pos hb, h]; simp
theorem unq_step {f : Nat} {t b : Txt} {a : Nat} {c : UInt8} (h : t[a]? = some c) (hc : c ≠ 34) (hb : b.length ≤ 20) : unqLoop (f + 1) t b a = if (pieceB t a c).2 = 0 then none else unqLoop f t (b ++ (pieceB t a c).1) (a + (pieceB t a c).2) := by
  rw [unqLoop, if_pos hb, h]
  simp only [if_neg hc]
theorem pre34 (t : Txt) : Lib.hasPrefix t [34] = decide (t[0]? = some 34) := by
  unfold Lib.hasPrefix
  cases t with
  | nil => rfl
  | cons c r =>
    by_cases hc : c = 34
    · subst hc; simp
    · have : (34 == c) = false := by simpa using fun e => hc e.symm
      simp [List.isPrefixOf, this, hc]
def unqV (p : Txt × Nat × Int) : Value := .tuple #[str p.1, .int .i64 p.2.1, .int .i64 p.2.2]

set_option maxRecDepth 100000 in
set_option maxHeartbeats 2000000 in
theorem val_unquote (t : Txt) (w : World) (hE : Env w) (ht : t.length ≤ 1099511627776) :
    Calls Tryz.prog 102 #[str t] w fun e w' => e = .returned (unqV (unquoteB t)) ∧ Keeps (fun _ => False) w w' := by
  obtain ⟨i0, hi, hz0, hz1, hz2⟩ := info_parts Tryz.info5
  obtain ⟨D, HD⟩ : ∃ D, Hid (unquoteB t = D) := ⟨_, rfl⟩
  rw [unhide HD]
  have HQ := hide (Tryz.strings_HasPrefix ⟨t.toArray⟩ ⟨#[34]⟩ w)
  have hpf : Lib.hasPrefix (ByteArray.mk t.toArray).data.toList (ByteArray.mk #[34]).data.toList = decide (t[0]? = some 34) := pre34 t
  rw [hpf] at HQ
  clear hpf
  by_cases h34 : t[0]? = some 34
  · rw [decide_eq_true h34] at HQ
    have HE : Hid (D = match unqLoop t.length t [] 1 with | some (b, n) => (b, n, 0) | none => ([], 0, 63)) := by show _ = _; rw [← unhide HD]; unfold unquoteB; rw [if_pos h34]; rfl
    have h1 := get_lt h34
    have hmk : (Instr.makeSlice 30 (.int .i64 0) (.int .i64 20)).run Tryz.prog w = _ := run_mkb 0 20 (by omega) (by omega) w
    have HOM := hide (owns_made w 0 20 (by omega) (by omega))
    have HA : Hid (Keeps (fun _ => False) w (w.alloc (.cells (madeCells #[.int .u8 0] 20) 5))) := (Keeps.refl _ _).alloc _
    have HEN := hide hE
    clear h34 hE
    go_enter Tryz.func102, Tryz.ntmps102
    go_wp2_with fail
    refine (unhide HQ).mono ?_
    rintro e w' ⟨rfl, rfl⟩
    go_wp2_with fail
    clear hmk HQ
    go_loopw [5, 6] (fun bb at' wr => ∃ (A f g cap m : Nat) (B : Txt), 1 ≤ A ∧ A ≤ t.length ∧ t.length + 1 ≤ A + f ∧ at' = .int .i64 A ∧ Hid (B.length = m) ∧ m ≤ 20 ∧ bb = .slice (some ⟨g, 0, none⟩) m cap ∧ wr.ownsRow w'.heap.size 5 1 (.slice (some ⟨g, 0, none⟩) m cap) m (bs B) ∧ Hid (unqLoop t.length t [] 1 = unqLoop f t B A) ∧ Keeps (fun _ => False) w' wr) (fun _ i _ => t.length - (intOf i).toNat)
    case atStart => exact ⟨1, t.length, _, _, 0, [], by omega, by omega, by omega, rfl, rfl, by omega, rfl, by simpa [bs] using unhide HOM, rfl, unhide HA⟩
    case round =>
      clear HOM HA
      obtain ⟨A, f, g, cap, m, B, hA1, hA2, hf, rfl, HM, hm, rfl, hown, HU, hkp⟩ := hrel
      obtain ⟨f, rfl⟩ : ∃ f', f = f' + 1 := ⟨f - 1, by omega⟩
      have HO := hide hown
      have HK := hide hkp
      have s0 := hkp.size
      clear hown hkp
      cases hx : t[A]? with
      | none =>
        have h2 := get_ge hx
        obtain rfl : A = t.length := by omega
        have HF : Hid (D = ([], 0, 63)) := by show _ = _; rw [unhide HE, unhide HU, unq_none hx]
        clear hx h2
        go_wp2_with fail
        go_ret3
        exact ⟨by rw [unhide HF]; rfl, unhide HK⟩
      | some c =>
        have h2 := get_lt hx
        have q := str_at hx
        have e1 : (c.toNat : Int) = num c := rfl
        by_cases hc : num c = 34
        · have hc2 : c = 34 := num_inj (a := c) (b := 34) hc
          have HF : Hid (D = (B, A + 1, 0)) := by show _ = _; rw [unhide HE, unhide HU, unq_end (by rw [hx, hc2]) (by rw [unhide HM]; exact hm)]
          have hcv : (convert 30 9 (.slice (some ⟨g, 0, none⟩) m cap)).run Tryz.prog wr = .ok (str B) wr := by
            have h := unhide HO
            rw [← unhide HM] at h ⊢
            exact conv_ownrow h
          have hne : ((A : Int) == (t.length : Int)) = false := by simp; omega
          rw [hc] at e1
          clear hx hc2
          go_wp2_with fail
          go_ret3
          refine ⟨?_, unhide HK⟩
          rw [unhide HF]
          show Ending.returned _ = .returned (.tuple #[str B, .int .i64 ((A + 1 : Nat) : Int), .int .i64 0])
          rw [Int.natCast_add]
          rfl
        · have d34 : (num c == 34) = false := by simpa using hc
          have hc2 : c ≠ 34 := fun e => hc (by rw [e]; rfl)
          have HST := hide ((unhide HU).trans (unq_step (f := f) hx hc2 (by rw [unhide HM]; exact hm)))
          obtain ⟨T, HT⟩ : ∃ T : Txt, Hid (t.drop A = T) := ⟨_, hide rfl⟩
          have hT0 : T[0]? = some c := by rw [← unhide HT, List.getElem?_drop]; exact hx
          have hTl : T.length = t.length - A := by rw [← unhide HT, List.length_drop]
          have HPD := hide (piece_drop t A c (by omega))
          rw [unhide HT] at HPD
          rw [← unhide HPD] at HST
          have HQ := hide (piece_all T c hT0 wr ((unhide HEN).keepF (unhide HK)) (by omega))
          obtain ⟨hp1, hp2⟩ := piece_le T c hT0
          have hp3 := piece_some T c hT0
          have hsl : (ByteArray.mk t.toArray).extract A t.length = ⟨T.toArray⟩ := by rw [ext_str, unhide HT, List.take_of_length_le (by omega)]
          generalize pieceB T 0 c = pc at HST HQ hp1 hp2 hp3
          obtain ⟨Q, n⟩ := pc
          simp only at HST HQ hp1 hp2 hp3
          have HP3 := hide hp3
          clear hp3
          have hA' : (A : Int) ≤ (t.length : Int) := by omega
          have HTl := hide hTl
          have hpn : A + n ≤ t.length := by omega
          clear hx hc hc2 hT0 HPD HU hTl
          go_wp2_with fail
          refine (unhide HQ).mono ?_
          rintro e w2 ⟨⟨P, rfl, hP⟩, hk2⟩
          have HP := hide hP
          have HO2 := hide (owns_keep (unhide HO) hk2)
          have HK2 := hide ((unhide HK).trans hk2)
          have s2 := (unhide HK2).size
          clear hk2 HO HK hP HQ
          by_cases hn : n = 0
          · have HF : Hid (D = ([], 0, 63)) := by show _ = _; rw [unhide HE, unhide HST, if_pos hn]
            subst hn
            go_wp2_with fail
            go_ret3
            exact ⟨by rw [unhide HF]; rfl, unhide HK2⟩
          · obtain rfl : P = Q := (unhide HP) (by omega)
            have dn : ((n : Int) == 0) = false := by simp; omega
            have HST2 := hide ((unhide HST).trans (if_neg hn))
            by_cases h20 : m + P.length ≤ 20
            · have h20' : ¬ (20 : Int) < (m : Int) + (P.length : Int) := by omega
              clear HST HP
              go_wp2_with (at_builtin; refine Lib.wpList_append_own_string _ rfl _ _ 30 9 rfl w'.heap.size 5 i0 Tryz.underlying30 Tryz.underlying9 hi hz0 hz1 hz2 _ _ _ rfl (unhide HO2) ⟨P.toArray⟩ rfl ?c3 ?c4 ?c5 ?_)
              case c3 => show m + P.length ≤ maxLen; unfold maxLen; omega
              case c4 => show m + P.length ≤ _; omega
              case c5 => omega
              intro v' w3 hown3 hgrow _
              have hown4 : w3.ownsRow w'.heap.size 5 1 v' (m + P.length) (bs (B ++ P)) := by
                rw [show bs (B ++ P) = bs B ++ Lib.strCells ⟨P.toArray⟩ by rw [strCells_bs]; simp [bs]]
                exact hown3
              have HK4 := hide ((unhide HK2).grown hgrow (fun q e hq => by have := ((unhide HO2).lt q e).1; omega))
              have HML : Hid ((B ++ P).length = m + P.length) := by show _ = _; rw [List.length_append, unhide HM]
              obtain ⟨g', cap', rfl⟩ : ∃ g cap, v' = .slice (some ⟨g, 0, none⟩) (m + P.length) cap := by
                rcases hown4.2 with ⟨hv, h0⟩ | ⟨g, cap, cur, hv, _⟩
                · have := (unhide HP3) hn; omega
                · exact ⟨g, cap, hv⟩
              have HO4 := hide hown4
              clear hown3 hown4 hgrow
              go_wp2_with fail
              go_roundw
              case rel => exact ⟨A + n, f, g', cap', m + P.length, B ++ P, by omega, by omega, by omega, by go_num, unhide HML, by omega, rfl, unhide HO4, unhide HST2, unhide HK4⟩
              case measure => simp [intOf]; omega
            · have HF : Hid (D = ([], 0, 63)) := by show _ = _; rw [unhide HE, unhide HST2, unq_long (by rw [List.length_append, unhide HM]; exact h20)]
              have h20' : (20 : Int) < (m : Int) + (P.length : Int) := by omega
              clear h20
              go_wp2_with fail
              go_ret3
              exact ⟨by rw [unhide HF]; rfl, unhide HK2⟩
  · rw [decide_eq_false h34] at HQ
    have HF : Hid (D = ([], 0, 63)) := by show _ = _; rw [← unhide HD]; unfold unquoteB; rw [if_neg h34]
    clear h34 hE
    go_enter Tryz.func102, Tryz.ntmps102
    go_wp2_with fail
    refine (unhide HQ).mono ?_
    rintro e w' ⟨rfl, rfl⟩
    go_wp2_with fail
    go_ret3
    exact ⟨by rw [unhide HF]; rfl, Keeps.refl _ _⟩
end Go.Proofs.YtklkhegeeglfbaaGreatDoor
