import Derived.Test.YtbgapbaeegloaabGreatDoorZc
import Derived.Test.YtbgapbaeegloaabGreatDoorMk
namespace Go.Proofs.YtbgapbaeegloaabGreatDoor
open Go.RowKit Go.Maps

set_option maxRecDepth 100000 in
theorem notRune_v (t : Txt) (ht : t.length ≤ 256) (w : World) :
    Calls Tryz.prog 10 #[str t] w fun e w' => e = .returned (.int .i64 (if runesB t < t.length then (runesB t : Int) else -1)) ∧ Keeps (fun _ => False) w w' := by
  obtain ⟨D, HD⟩ : ∃ D, Hid (runesB t = D) := ⟨_, rfl⟩
  rw [unhide HD]
  obtain ⟨E, HEE⟩ : ∃ E : Int, Hid ((if D < t.length then (D : Int) else -1) = E) := ⟨_, rfl⟩
  rw [unhide HEE]
  go_enter Tryz.func10, Tryz.ntmps10
  go_wp2_with fail
  go_loopw [3] (fun i wr => ∃ (a f : Nat), a ≤ t.length ∧ t.length + 1 ≤ a + f ∧ i = .int .i64 a ∧ Hid (D = runesL t f a) ∧ Keeps (fun _ => False) w wr) (fun i _ => t.length - (intOf i).toNat)
  case atStart => exact ⟨0, t.length + 1, by omega, by omega, rfl, (unhide HD).symm, Keeps.refl _ _⟩
  case round =>
    obtain ⟨a, f, ha, hf, rfl, HR, hkp⟩ := hrel
    obtain ⟨f, rfl⟩ : ∃ f', f = f' + 1 := ⟨f - 1, by omega⟩
    have HK := hide hkp
    clear hkp
    by_cases hlt : a < t.length
    · have HQ := hide (rune1_v t a hlt ht wr)
      have HW := hide (wB_dec t a hlt)
      have HP := hide (dec_pos (t.drop a))
      have HFI := hide (dec_fit (t.drop a) (by rw [List.length_drop]; omega))
      rw [List.length_drop] at HFI
      rw [runesL, if_pos hlt] at HR
      generalize dec (t.drop a) = dd at *
      obtain ⟨rr, wd⟩ := dd
      simp only at HW HP HFI HR
      have h' : (a : Int) < (t.length : Int) := by omega
      cases hb : badB (t.drop a) with
      | true =>
        rw [hb] at HW HR
        rw [show wB t a = 0 from unhide HW] at HQ
        have HF : Hid (D = a) := unhide HR
        have HFE : Hid (E = (a : Int)) := by show _ = _; rw [← unhide HEE, unhide HF, if_pos hlt]
        clear hb HW HR HF
        go_wp2_with fail
        refine (unhide HQ).mono ?_
        rintro e w2 ⟨rfl, hk2⟩
        have HK2 := hide ((unhide HK).trans hk2)
        clear hk2 HQ
        go_wp2_with fail
        go_ret
        exact ⟨ret_int (unhide HFE).symm, unhide HK2⟩
      | false =>
        rw [hb] at HW HR
        rw [show wB t a = (wd : Int) from unhide HW] at HQ
        have HF : Hid (D = runesL t f (a + wd)) := unhide HR
        have h1 := unhide HP
        have h2 := unhide HFI
        have hne : ((wd : Int) == 0) = false := by simp; omega
        clear hb HW HR HP HFI
        go_wp2_with fail
        refine (unhide HQ).mono ?_
        rintro e w2 ⟨rfl, hk2⟩
        have HK2 := hide ((unhide HK).trans hk2)
        clear hk2 HQ
        go_wp2_with fail
        go_roundw
        case rel => exact ⟨a + wd, f, by omega, by omega, by go_num, unhide HF, unhide HK2⟩
        case measure => simp [intOf]; omega
    · obtain rfl : a = t.length := by omega
      have HFE : Hid (E = -1) := by show _ = _; rw [← unhide HEE, unhide HR, runesL, if_neg hlt, if_neg hlt]
      clear hlt
      go_wp2_with fail
      go_ret
      exact ⟨ret_int (unhide HFE).symm, unhide HK⟩

/-- Between two places stands nothing but blanks and comments. -/
def Skips (t : Txt) (a j : Nat) : Prop := ∀ f acc, t.length + 1 ≤ a + f → ∃ f', t.length + 1 ≤ j + f' ∧ cutL t f acc a = cutL t f' acc j
theorem Skips.refl (t : Txt) (a : Nat) : Skips t a a := fun f _ h => ⟨f, h, rfl⟩
theorem Skips.trans {t : Txt} {a b c : Nat} (h : Skips t a b) (k : Skips t b c) : Skips t a c := fun f acc hf => by
  obtain ⟨f', h1, h2⟩ := h f acc hf
  obtain ⟨f'', h3, h4⟩ := k f' acc h1
  exact ⟨f'', h3, h2.trans h4⟩
theorem skips_blank {t : Txt} {a : Nat} {c : UInt8} (h : t[a]? = some c) (hb : blankB c = true) : Skips t a (a + 1) := fun f acc hf => by
  have := get_lt h
  obtain ⟨f, rfl⟩ : ∃ f', f = f' + 1 := ⟨f - 1, by omega⟩
  exact ⟨f, by omega, cut_blank h hb⟩
theorem skips_hash {t : Txt} {a : Nat} (h : t[a]? = some 35) : Skips t a (lineB t a) := fun f acc hf => by
  have hlt := get_lt h
  obtain ⟨f, rfl⟩ : ∃ f', f = f' + 1 := ⟨f - 1, by omega⟩
  have h1 : a + 1 ≤ lineB t a := by
    unfold lineB
    rw [scan_go h (by decide)]
    exact scan_ge _ _ _
  rw [cut_hash h]
  by_cases hl : lineB t a < t.length
  · rw [if_pos hl]
    exact ⟨f, by omega, rfl⟩
  · rw [if_neg hl]
    have hle : lineB t a ≤ t.length := scan_le _ _ _ (by omega)
    refine ⟨1, by omega, ?_⟩
    rw [cut_none (List.getElem?_eq_none (by omega))]

set_option maxRecDepth 100000 in
set_option maxHeartbeats 1000000 in
theorem skip_v (t : Txt) (ht : t.length ≤ 256) (a : Nat) (ha : a ≤ t.length) (w : World) :
    Calls Tryz.prog 11 #[str t, .int .i64 a] w fun e w' => (∃ j : Nat, e = .returned (.int .i64 j) ∧ a ≤ j ∧ j ≤ t.length ∧ Skips t a j ∧ ∀ c, t[j]? = some c → blankB c = false ∧ c ≠ 35) ∧ Keeps (fun _ => False) w w' := by
  go_enter Tryz.func11, Tryz.ntmps11
  go_wp2_with fail
  go_loopg [1] (t.length + 1) (fun g i wr => ∃ k : Nat, a ≤ k ∧ k ≤ t.length ∧ t.length + 1 ≤ k + g ∧ i = .int .i64 k ∧ Hid (Skips t a k) ∧ Keeps (fun _ => False) w wr)
  case atStart => exact ⟨a, by omega, ha, by omega, rfl, Skips.refl t a, Keeps.refl _ _⟩
  case round =>
    obtain ⟨k, hak, hk, hg, rfl, HS, hkp⟩ := hrel
    obtain ⟨g, rfl⟩ : ∃ g', gk = g' + 1 := ⟨gk - 1, by omega⟩
    have HK := hide hkp
    clear hkp
    cases hx : t[k]? with
    | none =>
      have h1 := get_ge hx
      obtain rfl : k = t.length := by omega
      have HX := hide hx
      clear hx h1
      go_wp2_with fail
      go_ret
      exact ⟨⟨t.length, rfl, hak, hk, unhide HS, fun c hc => by rw [unhide HX] at hc; cases hc⟩, unhide HK⟩
    | some c =>
      have h2 := get_lt hx
      have q := str_at hx
      have ecn : (c.toNat : Int) = num c := rfl
      have hk1 : (k : Int) < (t.length : Int) := by omega
      rcases blank_cases c with ⟨hb, hc⟩ | ⟨hb, d32, d9, d10, d13⟩
      · have HF := hide ((unhide HS).trans (skips_blank hx hb))
        clear hx hb
        rcases hc with hc | hc | hc | hc
        all_goals
          rw [hc] at ecn
          go_wp2_with fail
          go_roundg g
          case rel => exact ⟨k + 1, by omega, by omega, by omega, by go_num, unhide HF, unhide HK⟩
          case measure => omega
      · by_cases h35 : c = 35
        · have hc : num c = 35 := by rw [h35]; rfl
          rw [hc] at ecn
          have hx35 : t[k]? = some 35 := by rw [hx, h35]
          have HF := hide ((unhide HS).trans (skips_hash hx35))
          have HL1 : Hid (k + 1 ≤ lineB t k) := by
            show _ ≤ _
            unfold lineB
            rw [scan_go hx35 (by decide)]
            exact scan_ge _ _ _
          obtain ⟨L, HL⟩ : ∃ L, Hid (lineB t k = L) := ⟨_, rfl⟩
          rw [unhide HL] at HF HL1
          have HLL : Hid (L = scan t (fun c => c != 10) k) := (unhide HL).symm
          obtain ⟨W2, HW2⟩ : ∃ W2, Hid (wr = W2) := ⟨_, rfl⟩
          rw [unhide HW2] at HK ⊢
          clear hx hx35 h35 hb HL HW2 wr HS
          go_wp2_with fail
          go_loopg [1] (t.length + 1) (fun m i wq => ∃ p : Nat, k ≤ p ∧ p ≤ t.length ∧ t.length + 1 ≤ p + m ∧ i = .int .i64 p ∧ Hid (L = scan t (fun c => c != 10) p) ∧ Keeps (fun _ => False) w wq)
          case atStart => exact ⟨k, by omega, hk, by omega, rfl, unhide HLL, unhide HK⟩
          case round =>
            clear HLL HK
            obtain ⟨p, hkp', hp, hm, rfl, HP, hkq⟩ := hrel
            obtain ⟨m, rfl⟩ : ∃ m', gk = m' + 1 := ⟨gk - 1, by omega⟩
            have HKQ := hide hkq
            clear hkq
            cases hy : t[p]? with
            | none =>
              have h1 := get_ge hy
              obtain rfl : p = t.length := by omega
              have hL : L = t.length := by rw [unhide HP, scan_none hy]
              have h9 := unhide HL1
              have HF9 := hide (unhide HF)
              rw [hL] at HF9 h9
              clear hy h1 hL
              go_wp2_with fail
              go_roundg g
              case rel => exact ⟨t.length, by omega, by omega, by omega, rfl, unhide HF9, unhide HKQ⟩
              case measure => omega
            | some z =>
              have h3 := get_lt hy
              have q3 := str_at hy
              have ecz : (z.toNat : Int) = num z := rfl
              have hp1 : (p : Int) < (t.length : Int) := by omega
              by_cases hz : z = 10
              · have hzn : num z = 10 := by rw [hz]; rfl
                rw [hzn] at ecz
                have hL : L = p := by rw [unhide HP, scan_stop hy (by rw [hz]; rfl)]
                have h9 := unhide HL1
                have HF9 := hide (unhide HF)
                rw [hL] at HF9 h9
                clear hy hz hL
                go_wp2_with fail
                go_roundg g
                case rel => exact ⟨p, by omega, by omega, by omega, rfl, unhide HF9, unhide HKQ⟩
                case measure => omega
              · have hzn : (num z == 10) = false := by
                  have : num z ≠ 10 := fun e => hz (num_inj (a := z) (b := 10) e)
                  simpa using this
                have HP2 : Hid (L = scan t (fun c => c != 10) (p + 1)) := by show _ = _; rw [unhide HP]; exact scan_go hy (by simpa using hz)
                clear hy hz
                go_wp2_with fail
                go_roundg m
                case rel => exact ⟨p + 1, by omega, by omega, by omega, by go_num, unhide HP2, unhide HKQ⟩
                case measure => omega
        · have h35' : (num c == 35) = false := by
            have : num c ≠ 35 := fun e => h35 (num_inj (a := c) (b := 35) e)
            simpa using this
          have HX := hide hx
          have HB := hide hb
          have HH := hide h35
          clear hx hb h35
          go_wp2_with fail
          go_ret
          exact ⟨⟨k, rfl, hak, hk, unhide HS, fun z hz => by
            rw [unhide HX] at hz
            cases hz
            exact ⟨unhide HB, unhide HH⟩⟩, unhide HK⟩
end Go.Proofs.YtbgapbaeegloaabGreatDoor
