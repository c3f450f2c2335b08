import Derived.Test.YtbfkoamledkhnaaGreatDoorJm
namespace Go.Proofs.YtbfkoamledkhnaaGreatDoor
open Go.RowKit Go.Maps

theorem ret_sii {s u : Txt} {a b c d : Int} (h : s = u) (h2 : a = b) (h3 : c = d) : Ending.returned (.tuple #[str s, .int .i64 a, .int .i64 c]) = .returned (.tuple #[str u, .int .i64 b, .int .i64 d]) := by rw [h, h2, h3]
/-- What stands for all from here on. -/
def unqRes (o : Option (Txt × Nat)) : Txt × Nat × Int := match o with
  | some (b, n) => (b, n, 0)
  | none => ([], 0, 63)
theorem unqLoop_end {f : Nat} {t b : Txt} {a : Nat} (h : t.length ≤ a ∨ 20 < b.length) : unqLoop f t b a = none := by
  cases f with
  | zero => rfl
  | succ f =>
    rw [unqLoop]
    split
    · rcases h with h | h
      · rw [List.getElem?_eq_none h]
      · omega
    · rfl
theorem unqLoop_step {f : Nat} {t b : Txt} {a : Nat} {c : UInt8} (hb : b.length ≤ 20) (hc : t[a]? = some c) : unqLoop (f + 1) t b a = if c = 34 then some (b, a + 1) else if (pieceB t a c).2 = 0 then none else unqLoop f t (b ++ (pieceB t a c).1) (a + (pieceB t a c).2) := by
  rw [unqLoop, if_pos hb, hc]

theorem escB_le (t : Txt) (a : Nat) (h : a < t.length) : a + (escB t a).2.toNat ≤ t.length := by
  unfold escB
  cases h1 : t[a + 1]? with
  | none => simp; omega
  | some c =>
    have l1 := get_lt h1
    simp only
    repeat' split
    all_goals simp
    all_goals try omega
    rename_i x y hx hy hh
    have := get_lt hy
    omega

set_option maxRecDepth 100000 in
set_option maxHeartbeats 4000000 in
theorem unquote_any (t : Txt) (w : World) (ht : t.length ≤ 1099511627776) :
    Calls Tryz.prog 41 #[str t] w fun e w' => e = .returned (.tuple #[str (unquoteB t).1, .int .i64 (unquoteB t).2.1, .int .i64 (unquoteB t).2.2]) ∧ Keeps (fun _ => False) w w' := by
  obtain ⟨D, HD⟩ : ∃ D, Hid (unquoteB t = D) := ⟨_, rfl⟩
  rw [unhide HD]
  cases h0 : t[0]? with
  | none =>
    obtain rfl : t = [] := List.eq_nil_of_length_eq_zero (by have := get_ge h0; omega)
    have HE : Hid (D = ([], 0, 63)) := by show _ = _; rw [← unhide HD]; rfl
    go_enter Tryz.func41, Tryz.ntmps41
    go_wp2
    go_ret3
    exact ⟨ret_sii (by rw [unhide HE]) (by rw [unhide HE]; rfl) (by rw [unhide HE]), Keeps.refl _ _⟩
  | some d =>
    have h0l := get_lt h0
    have q0 := str_at h0
    have e0 : (d.toNat : Int) = num d := rfl
    have hne : (t == []) = false := by cases t <;> simp_all
    by_cases hd : num d = 34
    · have HE : Hid (D = unqRes (unqLoop t.length t [] 1)) := by
        show _ = _
        obtain rfl : d = 34 := num_inj hd
        rw [← unhide HD]
        unfold unquoteB
        rw [if_pos h0]
        rfl
      rw [hd] at e0
      clear h0 hd
      go_enter Tryz.func41, Tryz.ntmps41
      go_wp2_with fail
      go_loopw [5, 6] (fun o i wr => ∃ (a f : Nat) (b : Txt), i = .int .i64 a ∧ 1 ≤ a ∧ a ≤ t.length ∧ t.length ≤ a + f ∧ b.length ≤ 24 ∧ (∃ oo oc, o = .slice oo b.length oc) ∧ wr.ownsRow w.heap.size 5 1 o b.length (bs b) ∧ Hid (unqLoop t.length t [] 1 = unqLoop f t b a) ∧ Keeps (fun _ => False) w wr) (fun _ i _ => t.length - (intOf i).toNat)
      case atStart => exact ⟨1, t.length, [], rfl, by omega, by omega, by omega, by simp, ⟨_, _, rfl⟩, World.ownsRow_nil w w.heap.size 5 1, rfl, Keeps.refl _ _⟩
      case round =>
        obtain ⟨a, f, b, rfl, ha1, hal, haf, hbl, ⟨oo, oc, rfl⟩, hown, HU, hkp⟩ := hrel
        have HO := hide hown
        have HK := hide hkp
        have hcv := conv_any hown
        clear hown hkp
        cases hx : t[a]? with
        | none =>
          have h1 := get_ge hx
          have HE9 : Hid (D = ([], 0, 63)) := by show _ = _; rw [unhide HE, unhide HU, unqLoop_end (Or.inl h1)]; rfl
          clear hx
          go_wp2_with fail
          go_ret3
          exact ⟨ret_sii (by rw [unhide HE9]) (by rw [unhide HE9]; rfl) (by rw [unhide HE9]), unhide HK⟩
        | some c =>
          have h1 := get_lt hx
          have q := str_at hx
          have e1 : (c.toNat : Int) = num c := rfl
          have hcr := num_range c
          have i1 : (a : Int) < (t.length : Int) := by omega
          by_cases hb20 : (b.length : Int) ≤ 20
          · obtain ⟨f, rfl⟩ : ∃ f', f = f' + 1 := ⟨f - 1, by omega⟩
            have HU2 := hide ((unhide HU).trans (unqLoop_step (f := f) (by omega) hx))
            by_cases h34 : num c = 34
            · have HE9 : Hid (D = (b, a + 1, 0)) := by
                show _ = _
                rw [unhide HE, unhide HU2, if_pos (num_inj (a := c) (b := 34) h34)]
                rfl
              rw [h34] at e1
              clear hx
              go_wp2_with fail
              go_ret3
              exact ⟨ret_sii (by rw [unhide HE9]) (by rw [unhide HE9]; simp) (by rw [unhide HE9]), unhide HK⟩
            · have h34' : (num c == 34) = false := by simpa using h34
              have HU3 : Hid (unqLoop t.length t [] 1 = if (pieceB t a c).2 = 0 then none else unqLoop f t (b ++ (pieceB t a c).1) (a + (pieceB t a c).2)) := by
                show _ = _
                rw [unhide HU2, if_neg (fun e => h34 (by rw [e]; rfl))]
              by_cases h92 : num c = 92
              · obtain ⟨ev, HEV⟩ : ∃ ev, Hid ((escB t a).1 = ev) := ⟨_, rfl⟩
                obtain ⟨ek, HEK⟩ : ∃ ek, Hid ((escB t a).2 = ek) := ⟨_, rfl⟩
                have hrg := escB_range t a
                have HQ := hide (escape_any t a h1 ht wr)
                rw [unhide HEV, unhide HEK] at hrg HQ
                have HP : Hid (pieceB t a c = ([UInt8.ofNat ev.toNat], ek.toNat)) := by show _ = _; unfold pieceB; rw [if_pos (num_inj (a := c) (b := 92) h92), unhide HEV, unhide HEK]
                have HC : Hid (num (UInt8.ofNat ev.toNat) = ev) := by show _ = _; rw [num_of _ (by omega)]; omega
                rw [unhide HP] at HU3
                rw [h92] at e1
                clear hx h34 h34' h92 HU HU2
                go_wp2_with fail
                refine (unhide HQ).mono ?_
                rintro e w4 ⟨rfl, rfl⟩
                clear HQ
                by_cases hek : ek = 0
                · subst hek
                  have HE9 : Hid (D = ([], 0, 63)) := by show _ = _; rw [unhide HE, unhide HU3]; rfl
                  go_wp2_with (at_builtin; refine wp_app1 rfl _ _ rfl rfl rfl (unhide HO) (unhide HK) (by omega) ?_; intro g1 c1 w5 ho5 hk5; replace HO := hide ho5; replace HK := hide hk5; clear ho5 hk5)
                  go_ret3
                  exact ⟨ret_sii (by rw [unhide HE9]) (by rw [unhide HE9]; rfl) (by rw [unhide HE9]), unhide HK⟩
                · have hek' : (ek == 0) = false := by simpa using hek
                  obtain ⟨m, hm⟩ : ∃ m : Nat, ek = m := ⟨ek.toNat, by omega⟩
                  subst hm
                  have HU4 : Hid (unqLoop t.length t [] 1 = unqLoop f t (b ++ [UInt8.ofNat ev.toNat]) (a + m)) := by
                    show _ = _
                    rw [unhide HU3, Int.toNat_natCast, if_neg (by simpa using hek)]
                  have hm2 : 2 ≤ m := by omega
                  have hma : a + m ≤ t.length := by have h := escB_le t a h1; rw [unhide HEK, Int.toNat_natCast] at h; exact h
                  clear hek
                  go_wp2_with (at_builtin; refine wp_app1 rfl _ _ rfl rfl rfl (unhide HO) (unhide HK) (by omega) ?_; intro g1 c1 w5 ho5 hk5; replace HO := hide ho5; replace HK := hide hk5; clear ho5 hk5)
                  go_roundw
                  case rel =>
                    refine ⟨a + m, f, b ++ [UInt8.ofNat ev.toNat], by go_num, by omega, hma, by omega, by simp; omega, ⟨_, _, by simp; exact ⟨rfl, rfl⟩⟩, ?_, unhide HU4, unhide HK⟩
                    have h := unhide HO
                    rw [← unhide HC] at h
                    simpa [bs] using h
                  case measure => simp [intOf]; omega
              · have h92' : (num c == 92) = false := by simpa using h92
                by_cases hpr : 32 ≤ num c ∧ num c ≤ 126
                · obtain ⟨hp1, hp2⟩ := hpr
                  have HP : Hid (pieceB t a c = ([c], 1)) := by show _ = _; unfold pieceB; rw [if_neg (fun e => h92 (by rw [e]; rfl)), if_pos ⟨hp1, hp2⟩]
                  rw [unhide HP] at HU3
                  clear hx h34 h92 HU HU2
                  go_wp2_with (at_builtin; refine wp_app1 rfl _ _ rfl rfl rfl (unhide HO) (unhide HK) (by omega) ?_; intro g1 c1 w5 ho5 hk5; replace HO := hide ho5; replace HK := hide hk5; clear ho5 hk5)
                  go_roundw
                  case rel =>
                    refine ⟨a + 1, f, b ++ [c], by go_num, by omega, by omega, by omega, by simp; omega, ⟨_, _, by simp; exact ⟨rfl, rfl⟩⟩, ?_, unhide HU3, unhide HK⟩
                    simpa [bs] using unhide HO
                  case measure => simp [intOf]; omega
                · obtain ⟨n, hn⟩ : ∃ n : Nat, runeB t a = n := ⟨(runeB t a).toNat, by have := runeB_le t a; omega⟩
                  have hrl := runeB_le t a
                  have HQ := hide (rune_any t a ht wr)
                  rw [hn] at hrl HQ
                  rw [Int.toNat_natCast] at hrl
                  have HP : Hid (pieceB t a c = ((t.drop a).take n, n)) := by
                    show _ = _
                    unfold pieceB
                    rw [if_neg (fun e => h92 (by rw [e]; rfl)), if_neg hpr, hn, Int.toNat_natCast]
                  rw [unhide HP] at HU3
                  have hpr' : num c < 32 ∨ 126 < num c := by omega
                  clear hx h34 h92 HU HU2 hn hpr
                  rcases hpr' with hlo | hhi
                  case' inl => go_wp2_with fail
                  case' inr =>
                    have hlo : 32 ≤ num c := by omega
                    go_wp2_with fail
                  all_goals
                    refine (unhide HQ).mono ?_
                    rintro e w4 ⟨rfl, rfl⟩
                    clear HQ
                    go_wp2_with fail
                    clear hcv
                    go_loopw [5, 11] (fun o i w6 => ∃ (j : Nat), j ≤ n ∧ i = .int .i64 j ∧ (∃ oo' oc', o = .slice oo' (b.length + j) oc') ∧ w6.ownsRow w.heap.size 5 1 o (b.length + j) (bs b ++ bs ((t.drop a).take j)) ∧ Keeps (fun _ => False) w w6) (fun _ i _ => n - (intOf i).toNat)
                    case atStart => exact ⟨0, Nat.zero_le _, rfl, ⟨_, _, rfl⟩, by simpa [bs] using unhide HO, unhide HK⟩
                    case round =>
                      obtain ⟨j, hj, rfl, ⟨oo', oc', rfl⟩, hown6, hk6⟩ := hrel
                      have HO6 := hide hown6
                      have HK6 := hide hk6
                      clear hown6 hk6
                      by_cases hjn : j < n
                      · obtain ⟨y, hy⟩ : ∃ y, t[a + j]? = some y := ⟨_, List.getElem?_eq_getElem (by omega)⟩
                        have h2 := get_lt hy
                        have q2 := str_at hy
                        have e2 : (y.toNat : Int) = num y := rfl
                        have i2 : (j : Int) < (n : Int) := by omega
                        have HY : Hid ((t.drop a).take (j + 1) = (t.drop a).take j ++ [y]) := take_snoc _ _ _ (by rw [List.getElem?_drop]; exact hy)
                        have hn4 : n ≤ 4 := by omega
                        clear hy
                        go_wp2_with (at_builtin; refine wp_app1 rfl _ _ rfl rfl rfl (unhide HO6) (unhide HK6) (by omega) ?_; intro g1 c1 w5 ho5 hk5; replace HO6 := hide ho5; replace HK6 := hide hk5; clear ho5 hk5)
                        go_roundw
                        case rel =>
                          refine ⟨j + 1, by omega, by go_num, ⟨_, _, rfl⟩, ?_, unhide HK6⟩
                          rw [unhide HY, show bs ((t.drop a).take j ++ [y]) = bs ((t.drop a).take j) ++ [.int .u8 (num y)] by simp [bs], ← List.append_assoc]
                          exact unhide HO6
                        case measure => simp [intOf]; omega
                      · obtain rfl : j = n := by omega
                        by_cases hn0 : j = 0
                        · have HE9 : Hid (D = ([], 0, 63)) := by show _ = _; rw [unhide HE, unhide HU3, if_pos hn0]; rfl
                          have hj0 : ((j : Int) == 0) = true := by simp [hn0]
                          clear hn0
                          go_wp2_with fail
                          go_ret3
                          exact ⟨ret_sii (by rw [unhide HE9]) (by rw [unhide HE9]; rfl) (by rw [unhide HE9]), unhide HK6⟩
                        · have hj0 : ((j : Int) == 0) = false := by simp; omega
                          have HU4 := hide (unhide HU3)
                          rw [if_neg hn0] at HU4
                          have hj2 : 2 ≤ j := by omega
                          have hjt : a + j ≤ t.length := by omega
                          have hj4 : j ≤ 4 := by omega
                          have htl : ((t.drop a).take j).length = j := by simp; omega
                          go_wp2_with fail
                          go_roundw
                          case rel =>
                            refine ⟨a + j, f, b ++ (t.drop a).take j, by go_num, by omega, hjt, by omega, by rw [List.length_append, htl]; omega, ⟨_, _, by rw [List.length_append, htl]⟩, ?_, unhide HU4, unhide HK6⟩
                            rw [List.length_append, htl, show bs (b ++ (t.drop a).take j) = bs b ++ bs ((t.drop a).take j) by simp [bs]]
                            exact unhide HO6
                          case measure => simp [intOf]; omega
          · have hb20' : (20 : Int) < (b.length : Int) := by omega
            have HE9 : Hid (D = ([], 0, 63)) := by show _ = _; rw [unhide HE, unhide HU, unqLoop_end (Or.inr (by omega))]; rfl
            clear hx hb20
            go_wp2_with fail
            go_ret3
            exact ⟨ret_sii (by rw [unhide HE9]) (by rw [unhide HE9]; rfl) (by rw [unhide HE9]), unhide HK⟩
    · have hd' : (num d != 34) = true := by simpa using hd
      have HE : Hid (D = ([], 0, 63)) := by
        show _ = _
        rw [← unhide HD]
        unfold unquoteB
        rw [if_neg]
        rw [h0]
        simp only [Option.some.injEq]
        rintro rfl
        exact hd rfl
      clear h0 hd
      go_enter Tryz.func41, Tryz.ntmps41
      go_wp2
      go_ret3
      exact ⟨ret_sii (by rw [unhide HE]) (by rw [unhide HE]; rfl) (by rw [unhide HE]), Keeps.refl _ _⟩

end Go.Proofs.YtbfkoamledkhnaaGreatDoor
