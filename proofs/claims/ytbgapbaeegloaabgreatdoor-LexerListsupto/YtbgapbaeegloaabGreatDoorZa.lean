import Derived.Test.YtbgapbaeegloaabGreatDoorX
import Derived.Test.YtbgapbaeegloaabGreatDoorRk
namespace Go.Proofs.YtbgapbaeegloaabGreatDoor
open Go.RowKit Go.Maps

set_option maxRecDepth 100000 in
theorem hex_any (c : Int) (h0 : 0 ≤ c) (h1 : c ≤ 255) (w : World) : Calls Tryz.prog 43 #[.int .u8 c] w fun e w' => e = .returned (.int .i64 (hexB c)) ∧ w' = w := by
  go_enter Tryz.func43, Tryz.ntmps43
  go_wp2
  all_goals (go_ret; refine ⟨ret_int ?_, rfl⟩; simp [hexB] at *; try omega)

set_option maxRecDepth 100000 in
theorem more_any (t : Txt) (k : Nat) (w : World) : Calls Tryz.prog 44 #[str t, .int .i64 k] w fun e w' => e = .returned (.bool (moreB t k)) ∧ w' = w := by
  unfold moreB
  cases h : t[k]? with
  | none =>
    have h1 := get_ge h
    go_enter Tryz.func44, Tryz.ntmps44
    go_wp2
    go_ret
    exact ⟨rfl, rfl⟩
  | some c =>
    have h1 := get_lt h
    have q := str_at h
    unfold num at *
    go_enter Tryz.func44, Tryz.ntmps44
    go_wp2
    all_goals (go_ret; refine ⟨ret_bool ?_, rfl⟩; apply Bool.eq_iff_iff.2; simp_all; try omega)

theorem more_at (t : Txt) (k : Int) (n : Nat) (h : k = n) (w : World) : Calls Tryz.prog 44 #[str t, .int .i64 k] w fun e w' => e = .returned (.bool (moreB t n)) ∧ w' = w := by
  rw [h]; exact more_any t n w

set_option maxRecDepth 100000 in
set_option maxHeartbeats 1000000 in
theorem rune_any (t : Txt) (a : Nat) (ht : t.length ≤ 1099511627776) (w : World) :
    Calls Tryz.prog 33 #[str t, .int .i64 a] w fun e w' => e = .returned (.int .i64 (runeB t a)) ∧ w' = w := by
  cases h : t[a]? with
  | none =>
    have h1 := get_ge h
    have HR : Hid (runeB t a = 0) := by show _ = _; simp [runeB, h1]
    go_enter Tryz.func33, Tryz.ntmps33
    go_wp2
    go_ret
    exact ⟨ret_int (unhide HR).symm, rfl⟩
  | some c =>
    have h1 := get_lt h
    have q := str_at h
    have HR : Hid (runeB t a = runeOf (num c) (nth t (a + 1)) (moreB t (a + 1)) (moreB t (a + 2)) (moreB t (a + 3))) := by
      show _ = _
      unfold runeB
      rw [if_neg (by omega), nth_of h]
    obtain ⟨r, HE⟩ : ∃ r, Hid (runeB t a = r) := ⟨_, rfl⟩
    rw [unhide HE] at HR ⊢
    obtain ⟨d, HD⟩ : ∃ d, Hid (nth t (a + 1) = d) := ⟨_, rfl⟩
    obtain ⟨m1, H1⟩ : ∃ m, Hid (moreB t (a + 1) = m) := ⟨_, rfl⟩
    obtain ⟨m2, H2⟩ : ∃ m, Hid (moreB t (a + 2) = m) := ⟨_, rfl⟩
    obtain ⟨m3, H3⟩ : ∃ m, Hid (moreB t (a + 3) = m) := ⟨_, rfl⟩
    rw [unhide HD, unhide H1, unhide H2, unhide H3] at HR
    have M1 : ∀ k : Int, k = ((a + 1 : Nat) : Int) → ∀ w, Hid (Calls Tryz.prog 44 #[str t, .int .i64 k] w fun e w' => e = .returned (.bool m1) ∧ w' = w) := fun k hk w => by rw [← unhide H1]; exact more_at t k (a + 1) hk w
    have M2 : ∀ k : Int, k = ((a + 2 : Nat) : Int) → ∀ w, Hid (Calls Tryz.prog 44 #[str t, .int .i64 k] w fun e w' => e = .returned (.bool m2) ∧ w' = w) := fun k hk w => by rw [← unhide H2]; exact more_at t k (a + 2) hk w
    have M3 : ∀ k : Int, k = ((a + 3 : Nat) : Int) → ∀ w, Hid (Calls Tryz.prog 44 #[str t, .int .i64 k] w fun e w' => e = .returned (.bool m3) ∧ w' = w) := fun k hk w => by rw [← unhide H3]; exact more_at t k (a + 3) hk w
    have e1 : (c.toNat : Int) = num c := rfl
    have hc := num_range c
    have HQ : Hid (m1 = true → ∃ y : UInt8, a + 1 < t.length ∧ (∀ hk, (ByteArray.mk t.toArray)[a + 1]'hk = y) ∧ num y = d) := by
      intro hm
      obtain ⟨y, hy⟩ := moreB_some ((unhide H1).trans hm)
      exact ⟨y, get_lt hy, str_at hy, by rw [← unhide HD, nth_of hy]⟩
    clear h HE HD H1 H2 H3
    generalize num c = x at *
    go_enter Tryz.func33, Tryz.ntmps33
    go_wp2_with fail
    refine (unhide (M1 _ (by go_num) w)).mono ?_
    rintro e w1 ⟨rfl, rfl⟩
    go_wp2_with fail
    refine (unhide (M2 _ (by go_num) w1)).mono ?_
    rintro e w1 ⟨rfl, rfl⟩
    go_wp2_with fail
    refine (unhide (M3 _ (by go_num) w1)).mono ?_
    rintro e w1 ⟨rfl, rfl⟩
    clear M1 M2 M3
    cases m1 with
    | true =>
      obtain ⟨y, h2, q2, rfl⟩ := (unhide HQ) rfl
      have e2 : (y.toNat : Int) = num y := rfl
      have hy := num_range y
      generalize num y = d at *
      clear HQ
      cases m2 <;> cases m3 <;> go_wp2
      all_goals (go_ret; refine ⟨ret_int ?_, rfl⟩; have h := unhide HR; rw [h]; unfold runeOf; clear HR h; simp_all <;> omega)
    | false =>
      clear HQ
      have HR2 : Hid (r = 0) := by have := unhide HR; unfold runeOf at this; simp at this; exact this
      clear HR
      cases m2 <;> cases m3 <;> go_wp2
      all_goals (go_ret; exact ⟨ret_int (unhide HR2).symm, rfl⟩)

set_option maxRecDepth 100000 in
set_option maxHeartbeats 1000000 in
theorem escape_any (t : Txt) (a : Nat) (ha : a < t.length) (ht : t.length ≤ 1099511627776) (w : World) :
    Calls Tryz.prog 32 #[str t, .int .i64 a] w fun e w' => e = .returned (.tuple #[.int .u8 (escB t a).1, .int .i64 (escB t a).2]) ∧ w' = w := by
  cases h : t[a + 1]? with
  | none =>
    have h1 := get_ge h
    have HR : Hid (escB t a = (0, 0)) := by show _ = _; simp [escB, h]
    clear h
    rw [unhide HR]
    go_enter Tryz.func32, Tryz.ntmps32
    go_wp2
    go_ret2
    exact ⟨rfl, rfl⟩
  | some c =>
    have h1 := get_lt h
    have q := str_at h
    have e1 : (c.toNat : Int) = num c := rfl
    by_cases hin : num c = 120 ∧ a + 3 < t.length
    · obtain ⟨hc, h3⟩ := hin
      obtain ⟨x, hx⟩ : ∃ x, t[a + 2]? = some x := ⟨_, List.getElem?_eq_getElem (by omega)⟩
      obtain ⟨y, hy⟩ : ∃ y, t[a + 3]? = some y := ⟨_, List.getElem?_eq_getElem h3⟩
      have q2 := str_at hx
      have q3 := str_at hy
      have e2 : (x.toNat : Int) = num x := rfl
      have e3 : (y.toNat : Int) = num y := rfl
      rw [hc] at e1
      have HR := hide (escB_in t a h hx hy hc)
      have H2 := fun w => hide (hex_any (num x) (num_range x).1 (num_range x).2 w)
      have H3 := fun w => hide (hex_any (num y) (num_range y).1 (num_range y).2 w)
      have r2 := hexB_range (num x)
      have r3 := hexB_range (num y)
      generalize escB t a = r at *
      generalize hexB (num x) = X at *
      generalize hexB (num y) = Y at *
      clear h hx hy hc
      go_enter Tryz.func32, Tryz.ntmps32
      go_wp2_with fail
      refine (unhide (H2 w)).mono ?_
      rintro e w1 ⟨rfl, rfl⟩
      go_wp2_with fail
      refine (unhide (H3 _)).mono ?_
      rintro e w1 ⟨rfl, rfl⟩
      go_wp2
      all_goals (go_ret2; refine ⟨?_, rfl⟩; have h := unhide HR; clear HR H2 H3; (try rw [if_pos (by omega)] at h); (try rw [if_neg (by omega)] at h); subst h; rfl)
    · have HR : Hid (escB t a = if num c = 34 then (34, 2) else if num c = 92 then (92, 2) else if num c = 110 then (10, 2) else if num c = 116 then (9, 2) else (0, 0)) := by
        show _ = _
        unfold escB
        rw [h]
        simp only
        by_cases h120 : num c = 120
        · have h3 : t[a + 3]? = none := List.getElem?_eq_none (by simp [h120] at hin; omega)
          simp [h120, h3]
        · simp [h120]
      have HC : Hid (num c = 120 → t.length ≤ a + 3) := fun e => by simp [e] at hin; omega
      generalize escB t a = r at *
      generalize num c = x at *
      clear h hin
      by_cases h120 : x = 120
      · subst h120
        have h3 := unhide HC rfl
        have HR2 : Hid (r = (0, 0)) := by have := unhide HR; show _ = _; simpa using this
        rw [unhide HR2]
        go_enter Tryz.func32, Tryz.ntmps32
        go_wp2
        go_ret2
        exact ⟨rfl, rfl⟩
      · have h120' : (x == 120) = false := by simpa using h120
        clear HC h120
        go_enter Tryz.func32, Tryz.ntmps32
        go_wp2
        all_goals (go_ret2; refine ⟨?_, rfl⟩; have h := unhide HR; clear HR; simp_all)



theorem ret_sii {s u : Txt} {a b c d : Int} (h : s = u) (h2 : a = b) (h3 : c = d) : Ending.returned (.tuple #[str s, .int .i64 a, .int .i64 c]) = .returned (.tuple #[str u, .int .i64 b, .int .i64 d]) := by rw [h, h2, h3]
/-- What stands for all from here on. -/
def unqRes (o : Option (Txt × Nat)) : Txt × Nat × Int := match o with
  | some (b, n) => (b, n, 0)
  | none => ([], 0, 63)
theorem unqLoop_end {f : Nat} {t b : Txt} {a : Nat} (h : t.length ≤ a ∨ 20 < b.length) : unqLoop f t b a = none := by
  cases f with
  | zero => rfl
  | succ f =>
    rw [unqLoop]
    split
    · rcases h with h | h
      · rw [List.getElem?_eq_none h]
      · omega
    · rfl
theorem unqLoop_step {f : Nat} {t b : Txt} {a : Nat} {c : UInt8} (hb : b.length ≤ 20) (hc : t[a]? = some c) : unqLoop (f + 1) t b a = if c = 34 then some (b, a + 1) else if (pieceB t a c).2 = 0 then none else unqLoop f t (b ++ (pieceB t a c).1) (a + (pieceB t a c).2) := by
  rw [unqLoop, if_pos hb, hc]

theorem escB_le (t : Txt) (a : Nat) (h : a < t.length) : a + (escB t a).2.toNat ≤ t.length := by
  unfold escB
  cases h1 : t[a + 1]? with
  | none => simp; omega
  | some c =>
    have l1 := get_lt h1
    simp only
    repeat' split
    all_goals simp
    all_goals try omega
    rename_i x y hx hy hh
    have := get_lt hy
    omega

set_option maxRecDepth 100000 in
set_option maxHeartbeats 4000000 in
theorem unquote_any (t : Txt) (w : World) (ht : t.length ≤ 1099511627776) :
    Calls Tryz.prog 21 #[str t] w fun e w' => e = .returned (.tuple #[str (unquoteB t).1, .int .i64 (unquoteB t).2.1, .int .i64 (unquoteB t).2.2]) ∧ Keeps (fun _ => False) w w' := by
  obtain ⟨D, HD⟩ : ∃ D, Hid (unquoteB t = D) := ⟨_, rfl⟩
  rw [unhide HD]
  cases h0 : t[0]? with
  | none =>
    obtain rfl : t = [] := List.eq_nil_of_length_eq_zero (by have := get_ge h0; omega)
    have HE : Hid (D = ([], 0, 63)) := by show _ = _; rw [← unhide HD]; rfl
    go_enter Tryz.func21, Tryz.ntmps21
    go_wp2
    go_ret3
    exact ⟨ret_sii (by rw [unhide HE]) (by rw [unhide HE]; rfl) (by rw [unhide HE]), Keeps.refl _ _⟩
  | some d =>
    have h0l := get_lt h0
    have q0 := str_at h0
    have e0 : (d.toNat : Int) = num d := rfl
    have hne : (t == []) = false := by cases t <;> simp_all
    by_cases hd : num d = 34
    · have HE : Hid (D = unqRes (unqLoop t.length t [] 1)) := by
        show _ = _
        obtain rfl : d = 34 := num_inj hd
        rw [← unhide HD]
        unfold unquoteB
        rw [if_pos h0]
        rfl
      rw [hd] at e0
      clear h0 hd
      go_enter Tryz.func21, Tryz.ntmps21
      go_wp2_with fail
      go_loopw [5, 6] (fun o i wr => ∃ (a f : Nat) (b : Txt), i = .int .i64 a ∧ 1 ≤ a ∧ a ≤ t.length ∧ t.length ≤ a + f ∧ b.length ≤ 24 ∧ (∃ oo oc, o = .slice oo b.length oc) ∧ wr.ownsRow w.heap.size 5 1 o b.length (bs b) ∧ Hid (unqLoop t.length t [] 1 = unqLoop f t b a) ∧ Keeps (fun _ => False) w wr) (fun _ i _ => t.length - (intOf i).toNat)
      case atStart => exact ⟨1, t.length, [], rfl, by omega, by omega, by omega, by simp, ⟨_, _, rfl⟩, World.ownsRow_nil w w.heap.size 5 1, rfl, Keeps.refl _ _⟩
      case round =>
        obtain ⟨a, f, b, rfl, ha1, hal, haf, hbl, ⟨oo, oc, rfl⟩, hown, HU, hkp⟩ := hrel
        have HO := hide hown
        have HK := hide hkp
        have hcv := conv_any hown
        clear hown hkp
        cases hx : t[a]? with
        | none =>
          have h1 := get_ge hx
          have HE9 : Hid (D = ([], 0, 63)) := by show _ = _; rw [unhide HE, unhide HU, unqLoop_end (Or.inl h1)]; rfl
          clear hx
          go_wp2_with fail
          go_ret3
          exact ⟨ret_sii (by rw [unhide HE9]) (by rw [unhide HE9]; rfl) (by rw [unhide HE9]), unhide HK⟩
        | some c =>
          have h1 := get_lt hx
          have q := str_at hx
          have e1 : (c.toNat : Int) = num c := rfl
          have hcr := num_range c
          have i1 : (a : Int) < (t.length : Int) := by omega
          by_cases hb20 : (b.length : Int) ≤ 20
          · obtain ⟨f, rfl⟩ : ∃ f', f = f' + 1 := ⟨f - 1, by omega⟩
            have HU2 := hide ((unhide HU).trans (unqLoop_step (f := f) (by omega) hx))
            by_cases h34 : num c = 34
            · have HE9 : Hid (D = (b, a + 1, 0)) := by
                show _ = _
                rw [unhide HE, unhide HU2, if_pos (num_inj (a := c) (b := 34) h34)]
                rfl
              rw [h34] at e1
              clear hx
              go_wp2_with fail
              go_ret3
              exact ⟨ret_sii (by rw [unhide HE9]) (by rw [unhide HE9]; simp) (by rw [unhide HE9]), unhide HK⟩
            · have h34' : (num c == 34) = false := by simpa using h34
              have HU3 : Hid (unqLoop t.length t [] 1 = if (pieceB t a c).2 = 0 then none else unqLoop f t (b ++ (pieceB t a c).1) (a + (pieceB t a c).2)) := by
                show _ = _
                rw [unhide HU2, if_neg (fun e => h34 (by rw [e]; rfl))]
              by_cases h92 : num c = 92
              · obtain ⟨ev, HEV⟩ : ∃ ev, Hid ((escB t a).1 = ev) := ⟨_, rfl⟩
                obtain ⟨ek, HEK⟩ : ∃ ek, Hid ((escB t a).2 = ek) := ⟨_, rfl⟩
                have hrg := escB_range t a
                have HQ := hide (escape_any t a h1 ht wr)
                rw [unhide HEV, unhide HEK] at hrg HQ
                have HP : Hid (pieceB t a c = ([UInt8.ofNat ev.toNat], ek.toNat)) := by show _ = _; unfold pieceB; rw [if_pos (num_inj (a := c) (b := 92) h92), unhide HEV, unhide HEK]
                have HC : Hid (num (UInt8.ofNat ev.toNat) = ev) := by show _ = _; rw [num_of _ (by omega)]; omega
                rw [unhide HP] at HU3
                rw [h92] at e1
                clear hx h34 h34' h92 HU HU2
                go_wp2_with fail
                refine (unhide HQ).mono ?_
                rintro e w4 ⟨rfl, rfl⟩
                clear HQ
                by_cases hek : ek = 0
                · subst hek
                  have HE9 : Hid (D = ([], 0, 63)) := by show _ = _; rw [unhide HE, unhide HU3]; rfl
                  go_wp2_with (at_builtin; refine wp_app1 rfl _ _ rfl rfl rfl (unhide HO) (unhide HK) (by omega) ?_; intro g1 c1 w5 ho5 hk5; replace HO := hide ho5; replace HK := hide hk5; clear ho5 hk5)
                  go_ret3
                  exact ⟨ret_sii (by rw [unhide HE9]) (by rw [unhide HE9]; rfl) (by rw [unhide HE9]), unhide HK⟩
                · have hek' : (ek == 0) = false := by simpa using hek
                  obtain ⟨m, hm⟩ : ∃ m : Nat, ek = m := ⟨ek.toNat, by omega⟩
                  subst hm
                  have HU4 : Hid (unqLoop t.length t [] 1 = unqLoop f t (b ++ [UInt8.ofNat ev.toNat]) (a + m)) := by
                    show _ = _
                    rw [unhide HU3, Int.toNat_natCast, if_neg (by simpa using hek)]
                  have hm2 : 2 ≤ m := by omega
                  have hma : a + m ≤ t.length := by have h := escB_le t a h1; rw [unhide HEK, Int.toNat_natCast] at h; exact h
                  clear hek
                  go_wp2_with (at_builtin; refine wp_app1 rfl _ _ rfl rfl rfl (unhide HO) (unhide HK) (by omega) ?_; intro g1 c1 w5 ho5 hk5; replace HO := hide ho5; replace HK := hide hk5; clear ho5 hk5)
                  go_roundw
                  case rel =>
                    refine ⟨a + m, f, b ++ [UInt8.ofNat ev.toNat], by go_num, by omega, hma, by omega, by simp; omega, ⟨_, _, by simp; exact ⟨rfl, rfl⟩⟩, ?_, unhide HU4, unhide HK⟩
                    have h := unhide HO
                    rw [← unhide HC] at h
                    simpa [bs] using h
                  case measure => simp [intOf]; omega
              · have h92' : (num c == 92) = false := by simpa using h92
                by_cases hpr : 32 ≤ num c ∧ num c ≤ 126
                · obtain ⟨hp1, hp2⟩ := hpr
                  have HP : Hid (pieceB t a c = ([c], 1)) := by show _ = _; unfold pieceB; rw [if_neg (fun e => h92 (by rw [e]; rfl)), if_pos ⟨hp1, hp2⟩]
                  rw [unhide HP] at HU3
                  clear hx h34 h92 HU HU2
                  go_wp2_with (at_builtin; refine wp_app1 rfl _ _ rfl rfl rfl (unhide HO) (unhide HK) (by omega) ?_; intro g1 c1 w5 ho5 hk5; replace HO := hide ho5; replace HK := hide hk5; clear ho5 hk5)
                  go_roundw
                  case rel =>
                    refine ⟨a + 1, f, b ++ [c], by go_num, by omega, by omega, by omega, by simp; omega, ⟨_, _, by simp; exact ⟨rfl, rfl⟩⟩, ?_, unhide HU3, unhide HK⟩
                    simpa [bs] using unhide HO
                  case measure => simp [intOf]; omega
                · obtain ⟨n, hn⟩ : ∃ n : Nat, runeB t a = n := ⟨(runeB t a).toNat, by have := runeB_le t a; omega⟩
                  have hrl := runeB_le t a
                  have HQ := hide (rune_any t a ht wr)
                  rw [hn] at hrl HQ
                  rw [Int.toNat_natCast] at hrl
                  have HP : Hid (pieceB t a c = ((t.drop a).take n, n)) := by
                    show _ = _
                    unfold pieceB
                    rw [if_neg (fun e => h92 (by rw [e]; rfl)), if_neg hpr, hn, Int.toNat_natCast]
                  rw [unhide HP] at HU3
                  have hpr' : num c < 32 ∨ 126 < num c := by omega
                  clear hx h34 h92 HU HU2 hn hpr
                  rcases hpr' with hlo | hhi
                  case' inl => go_wp2_with fail
                  case' inr =>
                    have hlo : 32 ≤ num c := by omega
                    go_wp2_with fail
                  all_goals
                    refine (unhide HQ).mono ?_
                    rintro e w4 ⟨rfl, rfl⟩
                    clear HQ
                    go_wp2_with fail
                    clear hcv
                    go_loopw [5, 11] (fun o i w6 => ∃ (j : Nat), j ≤ n ∧ i = .int .i64 j ∧ (∃ oo' oc', o = .slice oo' (b.length + j) oc') ∧ w6.ownsRow w.heap.size 5 1 o (b.length + j) (bs b ++ bs ((t.drop a).take j)) ∧ Keeps (fun _ => False) w w6) (fun _ i _ => n - (intOf i).toNat)
                    case atStart => exact ⟨0, Nat.zero_le _, rfl, ⟨_, _, rfl⟩, by simpa [bs] using unhide HO, unhide HK⟩
                    case round =>
                      obtain ⟨j, hj, rfl, ⟨oo', oc', rfl⟩, hown6, hk6⟩ := hrel
                      have HO6 := hide hown6
                      have HK6 := hide hk6
                      clear hown6 hk6
                      by_cases hjn : j < n
                      · obtain ⟨y, hy⟩ : ∃ y, t[a + j]? = some y := ⟨_, List.getElem?_eq_getElem (by omega)⟩
                        have h2 := get_lt hy
                        have q2 := str_at hy
                        have e2 : (y.toNat : Int) = num y := rfl
                        have i2 : (j : Int) < (n : Int) := by omega
                        have HY : Hid ((t.drop a).take (j + 1) = (t.drop a).take j ++ [y]) := take_snoc _ _ _ (by rw [List.getElem?_drop]; exact hy)
                        have hn4 : n ≤ 4 := by omega
                        clear hy
                        go_wp2_with (at_builtin; refine wp_app1 rfl _ _ rfl rfl rfl (unhide HO6) (unhide HK6) (by omega) ?_; intro g1 c1 w5 ho5 hk5; replace HO6 := hide ho5; replace HK6 := hide hk5; clear ho5 hk5)
                        go_roundw
                        case rel =>
                          refine ⟨j + 1, by omega, by go_num, ⟨_, _, rfl⟩, ?_, unhide HK6⟩
                          rw [unhide HY, show bs ((t.drop a).take j ++ [y]) = bs ((t.drop a).take j) ++ [.int .u8 (num y)] by simp [bs], ← List.append_assoc]
                          exact unhide HO6
                        case measure => simp [intOf]; omega
                      · obtain rfl : j = n := by omega
                        by_cases hn0 : j = 0
                        · have HE9 : Hid (D = ([], 0, 63)) := by show _ = _; rw [unhide HE, unhide HU3, if_pos hn0]; rfl
                          have hj0 : ((j : Int) == 0) = true := by simp [hn0]
                          clear hn0
                          go_wp2_with fail
                          go_ret3
                          exact ⟨ret_sii (by rw [unhide HE9]) (by rw [unhide HE9]; rfl) (by rw [unhide HE9]), unhide HK6⟩
                        · have hj0 : ((j : Int) == 0) = false := by simp; omega
                          have HU4 := hide (unhide HU3)
                          rw [if_neg hn0] at HU4
                          have hj2 : 2 ≤ j := by omega
                          have hjt : a + j ≤ t.length := by omega
                          have hj4 : j ≤ 4 := by omega
                          have htl : ((t.drop a).take j).length = j := by simp; omega
                          go_wp2_with fail
                          go_roundw
                          case rel =>
                            refine ⟨a + j, f, b ++ (t.drop a).take j, by go_num, by omega, hjt, by omega, by rw [List.length_append, htl]; omega, ⟨_, _, by rw [List.length_append, htl]⟩, ?_, unhide HU4, unhide HK6⟩
                            rw [List.length_append, htl, show bs (b ++ (t.drop a).take j) = bs b ++ bs ((t.drop a).take j) by simp [bs]]
                            exact unhide HO6
                          case measure => simp [intOf]; omega
          · have hb20' : (20 : Int) < (b.length : Int) := by omega
            have HE9 : Hid (D = ([], 0, 63)) := by show _ = _; rw [unhide HE, unhide HU, unqLoop_end (Or.inr (by omega))]; rfl
            clear hx hb20
            go_wp2_with fail
            go_ret3
            exact ⟨ret_sii (by rw [unhide HE9]) (by rw [unhide HE9]; rfl) (by rw [unhide HE9]), unhide HK⟩
    · have hd' : (num d != 34) = true := by simpa using hd
      have HE : Hid (D = ([], 0, 63)) := by
        show _ = _
        rw [← unhide HD]
        unfold unquoteB
        rw [if_neg]
        rw [h0]
        simp only [Option.some.injEq]
        rintro rfl
        exact hd rfl
      clear h0 hd
      go_enter Tryz.func21, Tryz.ntmps21
      go_wp2
      go_ret3
      exact ⟨ret_sii (by rw [unhide HE]) (by rw [unhide HE]; rfl) (by rw [unhide HE]), Keeps.refl _ _⟩

end Go.Proofs.YtbgapbaeegloaabGreatDoor
