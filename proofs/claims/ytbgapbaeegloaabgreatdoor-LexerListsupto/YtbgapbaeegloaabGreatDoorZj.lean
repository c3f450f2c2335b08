import Derived.Test.YtbgapbaeegloaabGreatDoorZia
import Derived.Test.YtbgapbaeegloaabGreatDoorZib
import Derived.Test.YtbgapbaeegloaabGreatDoorZic
import Derived.Test.YtbgapbaeegloaabGreatDoorZid
import Derived.Test.YtbgapbaeegloaabGreatDoorMl
namespace Go.Proofs.YtbgapbaeegloaabGreatDoor
open Go.RowKit Go.Maps

theorem token7_v (t : Txt) (i : Nat) (c : UInt8) (hx : t[i]? = some c) (hl : t.length ≤ 256) (w : World) :
    Calls Tryz.prog 12 #[str t, .int .i64 i] w fun e w' => T7 e (posP i (firstP c (t.drop i))) ∧ Keeps (fun _ => False) w w' := by
  cases hle : letterB (num c) with
  | true => exact token7_letter t i c hx hl hle w
  | false =>
    have k : ∀ e w', (e = .returned (tokV (posP i (firstP c (t.drop i)))) ∧ Keeps (fun _ => False) w w') → (T7 e (posP i (firstP c (t.drop i))) ∧ Keeps (fun _ => False) w w') := fun e w' h => ⟨⟨_, h.1, fun _ => rfl⟩, h.2⟩
    cases hdg : digitB (num c) with
    | true => exact (token7_digit t i c hx hl hle hdg w).mono k
    | false =>
      by_cases h34 : c = 34
      · exact (token7_quote t i c hx hl hle hdg h34 w).mono k
      · exact (token7_mark t i c hx hl hle hdg h34 w).mono k

theorem cut_len (t : Txt) : ∀ (f : Nat) (acc : List TokA) (a : Nat), acc.length ≤ a → a ≤ t.length → (cutL t f acc a).1.length ≤ t.length := by
  intro f
  induction f with
  | zero => intro acc a h1 h2; simp only [cutL]; omega
  | succ f ih =>
    intro acc a h1 h2
    cases hx : t[a]? with
    | none => rw [cut_none hx]; simp only; omega
    | some c =>
      have hlt := get_lt hx
      cases hb : blankB c with
      | true => rw [cut_blank hx hb]; exact ih acc (a + 1) (by omega) (by omega)
      | false =>
        by_cases h35 : c = 35
        · rw [h35] at hx
          rw [cut_hash hx]
          have hge : a ≤ lineB t a := scan_ge _ _ _
          split
          · exact ih acc _ (by omega) (by omega)
          · simp only; omega
        · rw [cut_tok hx hb h35]
          split
          · rename_i h0
            have hT0 : (t.drop a)[0]? = some c := by rw [List.getElem?_drop, Nat.add_zero]; exact hx
            obtain ⟨k1, k2⟩ := first_le c (t.drop a) hT0 h0
            rw [List.length_drop] at k2
            exact ih _ _ (by rw [List.length_append]; simp only [List.length_cons, List.length_nil]; omega) (by omega)
          · simp
theorem lex_len (t : Txt) : (lexP t).1.length ≤ 256 := by
  unfold lexP
  split
  · simp
  · split
    · simp
    · have := cut_len t (t.length + 1) [] 0 (by simp) (by omega)
      omega

set_option maxRecDepth 100000 in
set_option maxHeartbeats 4000000 in
theorem refLex_v (t : Txt) (hl : t.length ≤ 140737488355328) (w : World) :
    Calls Tryz.prog 6 #[str t] w fun e w' => ∃ v, e = .returned (.tuple #[v, .int .i64 (lexP t).2.1, .int .i64 (lexP t).2.2]) ∧ w'.ownsRow w.heap.size 31 4 v (lexP t).1.length (tcs (lexP t).1) ∧ Keeps (fun _ => False) w w' := by
  obtain ⟨i0, hi, hz0, hz1, hz2⟩ := info_parts Tryz.info31
  obtain ⟨D, HD⟩ : ∃ D, Hid (lexP t = D) := ⟨_, rfl⟩
  rw [unhide HD]
  by_cases h256 : 256 < t.length
  · have HF : Hid (D = ([], 70, 0)) := by show _ = _; rw [← unhide HD]; unfold lexP; rw [if_pos h256]
    have h' : (256 : Int) < (t.length : Int) := by omega
    clear h256 HD
    go_enter Tryz.func6, Tryz.ntmps6
    go_wp2_with fail
    go_ret3
    refine ⟨.slice none 0 0, ?_, ?_, Keeps.refl _ _⟩
    · rw [unhide HF]; rfl
    · rw [unhide HF]
      simpa [tcs] using World.ownsRow_nil w w.heap.size 31 4
  · have h' : ¬ (256 : Int) < (t.length : Int) := by omega
    have h256' : t.length ≤ 256 := by omega
    have HQ := hide (notRune_v t h256' w)
    have HDD : Hid (D = if runesB t < t.length then ([], 71, runesB t) else cutL t (t.length + 1) [] 0) := by show _ = _; rw [← unhide HD]; unfold lexP; rw [if_neg h256]
    generalize runesB t = R at *
    clear HD h256 hl
    by_cases hr : R < t.length
    · rw [if_pos hr] at HQ
      have HF : Hid (D = ([], 71, R)) := by show _ = _; rw [unhide HDD, if_pos hr]
      have hr' : (0 : Int) ≤ (R : Int) := by omega
      clear hr HDD
      go_enter Tryz.func6, Tryz.ntmps6
      go_wp2_with fail
      refine (unhide HQ).mono ?_
      rintro e w2 ⟨rfl, hk2⟩
      have HK := hide hk2
      clear hk2 HQ
      go_wp2_with fail
      go_ret3
      refine ⟨.slice none 0 0, ?_, ?_, unhide HK⟩
      · rw [unhide HF]; rfl
      · rw [unhide HF]
        simpa [tcs] using World.ownsRow_nil w2 w.heap.size 31 4
    · rw [if_neg hr] at HQ
      have HF : Hid (D = cutL t (t.length + 1) [] 0) := by show _ = _; rw [unhide HDD, if_neg hr]
      clear hr HDD
      go_enter Tryz.func6, Tryz.ntmps6
      go_wp2_with fail
      refine (unhide HQ).mono ?_
      rintro e w2 ⟨rfl, hk2⟩
      have HK := hide hk2
      have HS := hide (skip_v t h256' 0 (by omega) w2)
      clear hk2 HQ
      go_wp2_with fail
      refine (unhide HS).mono ?_
      rintro e w3 ⟨⟨j, rfl, hj0, hj1, hsk, hno⟩, hk3⟩
      have HK3 := hide ((unhide HK).trans hk3)
      obtain ⟨f0, hf0, hcut⟩ := hsk (t.length + 1) [] (by omega)
      have HF0 := hide ((unhide HF).trans hcut)
      have HNO := hide hno
      clear hk3 HS hsk hcut hno HF HK
      go_wp2_with fail
      go_loopg [6, 7] (t.length + 1) (fun g lv at' wr => ∃ (A n f : Nat) (acc : List TokA), A ≤ t.length ∧ t.length + 1 ≤ A + g ∧ t.length + 1 ≤ A + f ∧ at' = .int .i64 A ∧ Hid (n = acc.length) ∧ n ≤ A ∧ wr.ownsRow w.heap.size 31 4 lv n (tcs acc) ∧ Hid (D = cutL t f acc A) ∧ Hid (∀ c, t[A]? = some c → blankB c = false ∧ c ≠ 35) ∧ Keeps (fun _ => False) w wr)
      case atStart => exact ⟨j, 0, f0, [], hj1, by omega, hf0, rfl, rfl, by omega, by simpa [tcs] using World.ownsRow_nil w3 w.heap.size 31 4, unhide HF0, unhide HNO, unhide HK3⟩
      case round =>
        clear HF0 HNO HK3 hj0 hj1 hf0
        obtain ⟨A, n, f, acc, hA, hg, hf, rfl, HN, hnA, hown, HC, HNO, hkp⟩ := hrel
        obtain ⟨f, rfl⟩ : ∃ f', f = f' + 1 := ⟨f - 1, by omega⟩
        obtain ⟨g0, rfl⟩ : ∃ g', gk = g' + 1 := ⟨gk - 1, by omega⟩
        have HO := hide hown
        have HK := hide hkp
        clear hown hkp
        cases hx : t[A]? with
        | none =>
          have h1 := get_ge hx
          obtain rfl : A = t.length := by omega
          have HF : Hid (D = (acc, 0, 0)) := by show _ = _; rw [unhide HC, cut_none hx]
          clear hx h1
          go_wp2_with fail
          go_ret3
          refine ⟨u6, ?_, ?_, unhide HK⟩
          · rw [unhide HF]; rfl
          · have := unhide HO
            rw [unhide HF]
            simp only
            rw [← unhide HN]
            exact this
        | some c =>
          have h2 := get_lt hx
          obtain ⟨hb, h35⟩ := (unhide HNO) c hx
          have hA1 : (A : Int) < (t.length : Int) := by omega
          have HTK := hide ((unhide HC).trans (cut_tok hx hb h35))
          have HQ := hide (token7_v t A c hx h256' wr)
          have hT0 : (t.drop A)[0]? = some c := by rw [List.getElem?_drop, Nat.add_zero]; exact hx
          have HLE := hide (first_le c (t.drop A) hT0)
          rw [List.length_drop] at HLE
          unfold posP at HQ
          generalize firstP c (t.drop A) = L at HQ HTK HLE
          obtain ⟨⟨k, tx, nn, ps⟩, tk, er⟩ := L
          simp only at HQ HTK HLE
          clear hx h35 hb HC HNO hT0
          by_cases her : er = 0
          · rw [if_pos her] at HQ
            obtain ⟨t1, t2⟩ := (unhide HLE) her
            have HF : Hid (D = cutL t f (acc ++ [⟨k, tx, nn, (A : Int)⟩]) (A + tk)) := by show _ = _; rw [unhide HTK, if_pos her]
            have hAt : A + tk ≤ t.length := by omega
            clear HTK HLE t2 her
            go_wp2_with fail
            refine (unhide HQ).mono ?_
            rintro e w4 ⟨⟨tk', he, htk⟩, hk4⟩
            obtain rfl : tk' = tk := htk rfl
            unfold tokV TokA.v at he
            simp only at he
            obtain rfl := he
            have HK4 := hide ((unhide HK).trans hk4)
            have HO4 := hide (owns_keep (unhide HO) hk4)
            have hnew := heap_alloc_new (w4.alloc (.cells #[.int .i64 k, str tx, .int .i64 nn, .int .i64 (A : Int)] 31)) (.cells #[.int .i64 k, str tx, .int .i64 nn, .int .i64 (A : Int)] 31)
            rw [World.size_alloc] at hnew
            have HNW := hide hnew
            have s4 := (unhide HK4).size
            clear hnew hk4 HQ HO HK htk
            go_wp2_with (at_builtin; refine wpList_append_lies _ rfl _ _ _ rfl w.heap.size 31 i0 _ 4 40 Tryz.underlying22 hi hz0 hz1 hz2 rfl (by omega) u6 n (tcs acc) rfl (((unhide HO4).alloc _).alloc _) ⟨w4.heap.size + 1, 0, none⟩ 1 1 (TokA.cs ⟨k, tx, nn, (A : Int)⟩) rfl rfl (World.news_of_block (cs := #[.int .i64 k, str tx, .int .i64 nn, .int .i64 (A : Int)]) (t := 31) (fr := (0, 0)) (unhide HNW)) (by simp [Value.oneCell', TokA.cs]) (by omega) (by unfold maxLen; omega) (by omega) (by simp; omega) (w4.heap.size + 2) (by simp) ?_; intro g cap w5 hown5 hgrow hat hlt5)
            have HO5 : Hid (w5.ownsRow w.heap.size 31 4 (.slice (some ⟨g, 0, none⟩) (n + 1) cap) (n + 1) (tcs (acc ++ [⟨k, tx, nn, (A : Int)⟩]))) := by
              have h := hown5
              show World.ownsRow _ _ _ _ _ _ _
              rw [show tcs (acc ++ [⟨k, tx, nn, (A : Int)⟩]) = tcs acc ++ TokA.cs ⟨k, tx, nn, (A : Int)⟩ by simp [tcs]]
              exact h
            have HK5 := hide ((((unhide HK4).alloc _).alloc _).grown hgrow (fun q e hq => by have := ((unhide HO4).lt q e).1; omega))
            have HS5 := hide (skip_v t h256' (A + tk') hAt w5)
            have hAT : ((A + tk' : Nat) : Int) = (A : Int) + (tk' : Int) := by omega
            rw [hAT] at HS5
            clear hown5 hgrow hat hlt5 hAT
            go_wp2_with fail
            refine (unhide HS5).mono ?_
            rintro e w6 ⟨⟨j, rfl, hj0, hj1, hsk, hno⟩, hk6⟩
            have HK6 := hide ((unhide HK5).trans hk6)
            have HO6 := hide (owns_keep (unhide HO5) hk6)
            obtain ⟨f1, hf1, hcut⟩ := hsk f (acc ++ [⟨k, tx, nn, (A : Int)⟩]) (by omega)
            have HF1 := hide ((unhide HF).trans hcut)
            have HNO := hide hno
            clear hk6 HS5 hsk hcut hno HF HK5 HO5 HK4 HO4 HNW
            go_wp2_with fail
            go_roundg g0
            case rel => exact ⟨j, n + 1, f1, acc ++ [⟨k, tx, nn, (A : Int)⟩], hj1, by omega, hf1, rfl, by show _ = _; rw [List.length_append, ← unhide HN]; rfl, by omega, unhide HO6, HF1, HNO, unhide HK6⟩
            case measure => omega
          · rw [if_neg her] at HQ
            have HF : Hid (D = ([], er, A)) := by show _ = _; rw [unhide HTK, if_neg her]
            have her' : (er == 0) = false := by simpa using her
            clear HTK HLE her
            go_wp2_with fail
            refine (unhide HQ).mono ?_
            rintro e w4 ⟨⟨tk', he, htk⟩, hk4⟩
            unfold tokV TokA.v zeroT at he
            simp only at he
            obtain rfl := he
            have HK4 := hide ((unhide HK).trans hk4)
            clear hk4 HQ htk HO HK
            go_wp2_with fail
            go_ret3
            refine ⟨.slice none 0 0, ?_, ?_, (unhide HK4).alloc _⟩
            · rw [unhide HF]; rfl
            · rw [unhide HF]
              simpa [tcs] using World.ownsRow_nil _ w.heap.size 31 4
end Go.Proofs.YtbgapbaeegloaabGreatDoor
