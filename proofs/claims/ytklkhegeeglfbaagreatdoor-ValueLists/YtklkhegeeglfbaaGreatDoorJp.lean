import Derived.Test.YtklkhegeeglfbaaGreatDoorJk
import Derived.Lib.ConvBytes
import Derived.Test.YtklkhegeeglfbaaGreatDoorJh
import Derived.Test.YtklkhegeeglfbaaGreatDoorJg
namespace Go.Proofs.YtklkhegeeglfbaaGreatDoor
open Go.RowKit Go.Maps

theorem hex_lo (n : Nat) (h : n < 10) : num (hexD n) = (n : Int) + 48 := by
  have : ∀ n : Fin 10, num (hexD n.val) = (n.val : Int) + 48 := by decide +kernel
  exact this ⟨n, h⟩
theorem hex_hi (n : Nat) (h : ¬ n < 10) (h2 : n < 16) : num (hexD n) = (n : Int) + 87 ∧ bits .or .u8 (num (hexD n)) 32 = (n : Int) + 87 := by
  have : ∀ n : Fin 16, ¬ n.val < 10 → num (hexD n.val) = (n.val : Int) + 87 ∧ bits .or .u8 (num (hexD n.val)) 32 = (n.val : Int) + 87 := by decide +kernel
  exact this ⟨n, h2⟩ h
/-- What the first k of two digits make. -/
def hexV (a b k : Nat) : Nat := if k = 0 then 0 else if k = 1 then a else 16 * a + b

set_option maxRecDepth 100000 in
set_option maxHeartbeats 1000000 in
theorem parseUint_v (a b : Nat) (ha : a < 16) (hb : b < 16) (w : World) :
    Calls Tryz.prog 132 #[str [hexD a, hexD b], .int .i64 16, .int .i64 8] w fun e w' => e = .returned (.tuple #[.int .u64 ((16 * a + b : Nat) : Int), .nilIface]) ∧ Keeps (fun _ => False) w w' := by
  have hne : (str [hexD a, hexD b] = .string ⟨#[]⟩) = False := by simp [str]
  have hcv : (convert 9 30 (str [hexD a, hexD b])).run Tryz.prog w = _ := Lib.run_convert_string_bytes (P := Tryz.prog) w 9 30 5 ⟨#[hexD a, hexD b]⟩ Tryz.underlying9 Tryz.underlying30 Tryz.underlying5
  have HK : Hid (Keeps (fun _ => False) w (Lib.bytesWorld w 5 ⟨#[hexD a, hexD b]⟩)) := ⟨rfl, rfl, rfl, by rw [Lib.bytesWorld_size]; omega, fun k hk _ => Lib.bytesWorld_at_old w 5 _ k hk⟩
  have HC : Hid (∀ k, k < 2 → ∃ x N : Nat, x < 16 ∧ N < 16 ∧ hexV a b k = N ∧ hexV a b (k + 1) = 16 * N + x ∧ (Lib.bytesWorld w 5 ⟨#[hexD a, hexD b]⟩).cell? ⟨w.heap.size, k, none⟩ = some (.int .u8 (num (hexD x)))) := by
    intro k hk
    rcases (by omega : k = 0 ∨ k = 1) with rfl | rfl
    · exact ⟨a, 0, ha, by omega, rfl, by simp [hexV], Lib.bytesWorld_cell w 5 _ 0 (by show 0 < 2; omega)⟩
    · exact ⟨b, a, hb, ha, rfl, by simp [hexV], Lib.bytesWorld_cell w 5 _ 1 (by show 1 < 2; omega)⟩
  have hsz : ByteArray.size ⟨#[hexD a, hexD b]⟩ = 2 := rfl
  rw [hsz] at hcv
  generalize Lib.bytesWorld w 5 ⟨#[hexD a, hexD b]⟩ = w1 at *
  generalize grownCap w 2 0 5 = cap at *
  clear hsz
  go_enter Tryz.func132, Tryz.ntmps132
  go_wp2_with fail
  clear hcv hne
  obtain ⟨cut, hcut⟩ : ∃ c : Int, c = 1152921504606846976 := ⟨_, rfl⟩
  have h16 : 16 ≤ cut := by omega
  rw [← hcut]
  clear hcut
  go_loopw [12, 13, 101] (fun u n i wr => ∃ k : Nat, k ≤ 2 ∧ i = .int .i64 k ∧ u = .bool false ∧ n = .int .u64 (hexV a b k) ∧ wr = w1) (fun _ _ i _ => 2 - (intOf i).toNat)
  case atStart => exact ⟨0, by omega, rfl, rfl, rfl, rfl⟩
  case round =>
    obtain ⟨k, hk, rfl, rfl, rfl, rfl⟩ := hrel
    by_cases h2 : k < 2
    · obtain ⟨x, N, hx, hN, e1, e2, hc⟩ := (unhide HC) k h2
      rw [e1]
      have HE := hide e2
      clear e1 e2
      by_cases h10 : x < 10
      · rw [hex_lo x h10] at hc
        go_wp2_with fail
        go_roundw
        case rel => exact ⟨k + 1, by omega, by go_num, rfl, by rw [unhide HE]; go_num, trivial⟩
        case measure => simp [intOf]; omega
      · obtain ⟨l1, l2⟩ := hex_hi x h10 hx
        have HQ := hide (Tryz.internal_strconv_lower (num (hexD x)) wr)
        rw [l2] at HQ
        rw [l1] at HQ hc
        clear l1 l2
        go_wp2_with (go_at_call 142; refine (unhide HQ).mono ?_; rintro e w' ⟨rfl, rfl⟩)
        go_roundw
        case rel => exact ⟨k + 1, by omega, by go_num, rfl, by rw [unhide HE]; go_num, trivial⟩
        case measure => simp [intOf]; omega
    · obtain rfl : k = 2 := by omega
      go_wp2_with fail
      go_ret2
      exact ⟨rfl, unhide HK⟩
end Go.Proofs.YtklkhegeeglfbaaGreatDoor
namespace Go.Proofs.YtklkhegeeglfbaaGreatDoor
open Go.RowKit Go.Maps

set_option maxRecDepth 100000 in
theorem parse_v (a b : Nat) (ha : a < 16) (hb : b < 16) (w : World) :
    Calls Tryz.prog 150 #[str [hexD a, hexD b], .int .i64 16, .int .i64 8] w fun e w' => e = .returned (.tuple #[.int .u64 ((16 * a + b : Nat) : Int), .nilIface]) ∧ Keeps (fun _ => False) w w' := by
  have HQ := hide (parseUint_v a b ha hb w)
  generalize 16 * a + b = N at *
  generalize str [hexD a, hexD b] = s at *
  go_enter Tryz.func150, Tryz.ntmps150
  go_wp2_with fail
  refine (unhide HQ).mono ?_
  rintro e w2 ⟨rfl, hk⟩
  have HK := hide hk
  clear hk
  go_wp2_with fail
  go_ret2
  exact ⟨rfl, unhide HK⟩

set_option maxRecDepth 100000 in
theorem unquoteHex_v (T : Txt) (c : UInt8) (a b : Nat) (ha : a < 16) (hb : b < 16) (hc : c.toNat = 16 * a + b) (h4 : 4 ≤ T.length) (hT : (T.drop 2).take 2 = [hexD a, hexD b]) (w : World) :
    Calls Tryz.prog 146 #[str T] w fun e w' => e = .returned (.tuple #[str [c], .int .i64 4]) ∧ Keeps (fun _ => False) w w' := by
  have HQ := hide (parse_v a b ha hb w)
  have hx : (ByteArray.mk T.toArray).extract 2 4 = ⟨[hexD a, hexD b].toArray⟩ := by rw [ext_str, hT]
  have hN : 16 * a + b < 256 := by omega
  have hcn : num c = ((16 * a + b : Nat) : Int) := by unfold num; rw [hc]
  clear hc ha hb hT
  generalize 16 * a + b = N at *
  generalize [hexD a, hexD b] = D at *
  have h5 : ¬ ((T.length : Int) < 4) := by omega
  go_enter Tryz.func146, Tryz.ntmps146
  go_wp2_with fail
  refine (unhide HQ).mono ?_
  rintro e w2 ⟨rfl, hk⟩
  have HK := hide hk
  obtain ⟨HX, hxb, hxc⟩ := boxed w2 #[.int .u8 (N : Int)] 5
  have hcv := conv_bytes (w2.alloc (.cells #[.int .u8 (N : Int)] 5)) w2.heap.size 1 [c] (fun j x hj => by
    match j, hj with
    | 0, hj => simp at hj; subst hj; rw [hcn]; exact hxc 0 _ rfl)
  simp only [List.length_cons, List.length_nil, Nat.zero_add] at hcv
  clear hk hxc hxb HQ hx
  go_wp2_with fail
  go_ret2
  exact ⟨rfl, (unhide HK).trans (unhide HX)⟩
end Go.Proofs.YtklkhegeeglfbaaGreatDoor
namespace Go.Proofs.YtklkhegeeglfbaaGreatDoor
open Go.RowKit Go.Maps

set_option maxRecDepth 100000 in
theorem escape_same (T : Txt) (y : UInt8) (hy : y = 34 ∨ y = 92) (h2 : 2 ≤ T.length) (h1 : T[1]? = some y) (w : World) :
    Calls Tryz.prog 137 #[str T] w fun e w' => e = .returned (.tuple #[str [y], .int .i64 2]) ∧ w' = w := by
  have q := str_at h1
  have hx : (ByteArray.mk T.toArray).extract 1 2 = ⟨[y].toArray⟩ := by
    rw [ext_str]
    have : (T.drop 1).take 1 = [y] := by
      rw [List.take_one]
      simp [h1]
    rw [show 2 - 1 = 1 from rfl, this]
  have h5 : ¬ ((T.length : Int) < 2) := by omega
  rcases hy with rfl | rfl
  all_goals
    go_enter Tryz.func137, Tryz.ntmps137
    go_wp2_with fail
    go_ret2
    exact ⟨rfl, rfl⟩

set_option maxRecDepth 100000 in
theorem escape_hex (T : Txt) (c : UInt8) (a b : Nat) (ha : a < 16) (hb : b < 16) (hc : c.toNat = 16 * a + b) (h4 : 4 ≤ T.length) (h1 : T[1]? = some 120) (hT : (T.drop 2).take 2 = [hexD a, hexD b]) (w : World) :
    Calls Tryz.prog 137 #[str T] w fun e w' => e = .returned (.tuple #[str [c], .int .i64 4]) ∧ Keeps (fun _ => False) w w' := by
  have HQ := hide (unquoteHex_v T c a b ha hb hc h4 hT w)
  have q := str_at h1
  have h5 : ¬ ((T.length : Int) < 2) := by omega
  clear hT hc ha hb h1
  go_enter Tryz.func137, Tryz.ntmps137
  go_wp2_with fail
  refine (unhide HQ).mono ?_
  rintro e w2 ⟨rfl, hk⟩
  have HK := hide hk
  clear hk
  go_wp2_with fail
  go_ret2
  exact ⟨rfl, unhide HK⟩

set_option maxRecDepth 100000 in
theorem piece_v (c : UInt8) (R : Txt) (w : World) :
    Calls Tryz.prog 121 #[str (quote1 c ++ R)] w fun e w' => e = .returned (.tuple #[str [c], .int .i64 (quote1 c).length]) ∧ Keeps (fun _ => False) w w' := by
  by_cases hesc : c = 34 ∨ c = 92
  · have HC : quote1 c = [92, c] := by unfold quote1; rw [if_pos hesc]
    rw [HC]
    obtain ⟨T, hT⟩ : ∃ T, T = [92, c] ++ R := ⟨_, rfl⟩
    have HQ := hide (escape_same T c hesc (by rw [hT]; simp) (by rw [hT]; simp) w)
    have q : ∀ hk, (ByteArray.mk T.toArray)[0]'hk = 92 := str_at (by rw [hT]; simp)
    have hl : T.length = R.length + 2 := by rw [hT]; simp
    rw [← hT]
    clear hT hesc HC
    go_enter Tryz.func121, Tryz.ntmps121
    go_wp2_with fail
    refine (unhide HQ).mono ?_
    rintro e w2 ⟨rfl, rfl⟩
    go_wp2_with fail
    go_ret2
    exact ⟨rfl, Keeps.refl _ _⟩
  · have n34 : num c ≠ 34 := fun e => hesc (.inl (num_inj (a := c) (b := 34) e))
    have n92 : num c ≠ 92 := fun e => hesc (.inr (num_inj (a := c) (b := 92) e))
    have e1 : (c.toNat : Int) = num c := rfl
    by_cases hpl : 32 ≤ num c ∧ num c ≤ 126
    · have HC : quote1 c = [c] := by rw [quote1_num c _ _ rfl rfl, if_neg (by simp [n34, n92]), if_pos hpl]
      rw [HC]
      obtain ⟨T, hT⟩ : ∃ T, T = [c] ++ R := ⟨_, rfl⟩
      have HP := hide (plain_v (num c) w)
      rw [decide_eq_true hpl.1, decide_eq_true hpl.2, Bool.and_true] at HP
      have q : ∀ hk, (ByteArray.mk T.toArray)[0]'hk = c := str_at (by rw [hT]; simp)
      have hl : T.length = R.length + 1 := by rw [hT]; simp
      have hx : (ByteArray.mk T.toArray).extract 0 1 = ⟨[c].toArray⟩ := by rw [ext_str, hT]; simp
      have d92 : (num c == 92) = false := by simpa using n92
      rw [← hT]
      clear hT hesc HC n34 hpl
      go_enter Tryz.func121, Tryz.ntmps121
      go_wp2_with fail
      refine (unhide HP).mono ?_
      rintro e w2 ⟨rfl, rfl⟩
      go_wp2_with fail
      go_ret2
      exact ⟨rfl, Keeps.refl _ _⟩
    · have HC : quote1 c = [92, 120, hexD (c.toNat / 16), hexD (c.toNat % 16)] := by rw [quote1_num c _ _ rfl rfl, if_neg (by simp [n34, n92]), if_neg hpl]
      rw [HC]
      obtain ⟨T, hT⟩ : ∃ T, T = [92, 120, hexD (c.toNat / 16), hexD (c.toNat % 16)] ++ R := ⟨_, rfl⟩
      have hcl := c.toNat_lt
      have HQ := hide (escape_hex T c (c.toNat / 16) (c.toNat % 16) (by omega) (by omega) (by omega) (by rw [hT]; simp) (by rw [hT]; simp) (by rw [hT]; simp) w)
      have q : ∀ hk, (ByteArray.mk T.toArray)[0]'hk = 92 := str_at (by rw [hT]; simp)
      have hl : T.length = R.length + 4 := by rw [hT]; simp
      rw [← hT]
      clear hT hesc HC n34 n92 hpl e1
      go_enter Tryz.func121, Tryz.ntmps121
      go_wp2_with fail
      refine (unhide HQ).mono ?_
      rintro e w2 ⟨rfl, hk⟩
      have HK := hide hk
      clear hk
      go_wp2_with fail
      go_ret2
      exact ⟨rfl, unhide HK⟩
end Go.Proofs.YtklkhegeeglfbaaGreatDoor
namespace Go.Proofs.YtklkhegeeglfbaaGreatDoor
open Go.RowKit Go.Maps

theorem quote1_head (c : UInt8) : ∃ y z, quote1 c = y :: z ∧ (num y == 34) = false := by
  unfold quote1
  by_cases h : c = 34 ∨ c = 92
  · rw [if_pos h]; exact ⟨_, _, rfl, rfl⟩
  · rw [if_neg h]
    split
    · refine ⟨_, _, rfl, ?_⟩
      have : num c ≠ 34 := fun e => h (.inl (num_inj (a := c) (b := 34) e))
      simpa using this
    · exact ⟨_, _, rfl, rfl⟩
theorem quote_split (t R : Txt) (k : Nat) : quoteB t ++ R = quoteTo t k ++ ((t.drop k).flatMap quote1 ++ 34 :: R) := by
  unfold quoteB quoteTo
  have h : t.flatMap quote1 = (t.take k).flatMap quote1 ++ (t.drop k).flatMap quote1 := by rw [← List.flatMap_append, List.take_append_drop]
  rw [h]
  simp
theorem quote_split1 {t : Txt} (R : Txt) {k : Nat} {c : UInt8} (h : t[k]? = some c) : quoteB t ++ R = quoteTo t k ++ (quote1 c ++ ((t.drop (k + 1)).flatMap quote1 ++ 34 :: R)) := by
  rw [quote_split t R k]
  congr 1
  have hl := get_lt h
  rw [List.drop_eq_getElem_cons hl]
  have : t[k] = c := by rw [List.getElem?_eq_getElem hl] at h; simpa using h
  rw [this]
  simp
theorem quoteTo_len_le (t R : Txt) (k : Nat) : (quoteTo t k).length < (quoteB t ++ R).length := by rw [quote_split t R k]; simp only [List.length_append, List.length_cons]; omega
theorem quoteTo_full (t : Txt) : (quoteTo t t.length).length + 1 = (quoteB t).length := by unfold quoteTo quoteB; rw [List.take_length]; simp
/-- What Unquote says of a literal with whatever behind it. -/
def unqE (t : Txt) : Value := if t.length ≤ 20 then .tuple #[str t, .int .i64 (quoteB t).length, .int .i64 0] else .tuple #[str [], .int .i64 0, .int .i64 63]

theorem owns_keep {w w' : World} {B e sz n : Nat} {v : Value} {xs : List Value} (h : w.ownsRow B e sz v n xs) (k : Keeps (fun _ => False) w w') : w'.ownsRow B e sz v n xs :=
  ⟨h.1, h.2.imp id fun ⟨g, cap, cur, e1, e2, e3, e4⟩ => ⟨g, cap, cur, e1, e2, (k.block g (by
    rcases Nat.lt_or_ge g w.heap.size with h' | h'
    · exact h'
    · simp [Array.getElem?_eq_none h'] at e3) id).trans e3, e4⟩⟩
theorem conv_ownrow {w5 : World} {B g c : Nat} {A : Txt} (h : w5.ownsRow B 5 1 (.slice (some ⟨g, 0, none⟩) A.length c) A.length (bs A)) : (convert 30 9 (.slice (some ⟨g, 0, none⟩) A.length c)).run Tryz.prog w5 = .ok (str A) w5 :=
  conv_bytes w5 g c A (fun j x hj => by
    have h1 := h.cells (g := g) rfl j (.int .u8 (num x)) (by rw [bs_get, hj]; rfl)
    rwa [Addr.add_lit, Nat.zero_add] at h1)

set_option maxRecDepth 100000 in
set_option maxHeartbeats 2000000 in
theorem unquote_v (t R : Txt) (w : World) (hX : (quoteB t ++ R).length ≤ 140737488355328) :
    Calls Tryz.prog 102 #[str (quoteB t ++ R)] w fun e w' => e = .returned (unqE t) ∧ Keeps (fun _ => False) w w' := by
  obtain ⟨i0, hi, hz0, hz1, hz2⟩ := info_parts Tryz.info5
  obtain ⟨X, HX⟩ : ∃ X, Hid (X = quoteB t ++ R) := ⟨_, rfl⟩
  rw [← unhide HX] at hX ⊢
  have HQ := hide (Tryz.strings_HasPrefix ⟨X.toArray⟩ ⟨#[34]⟩ w)
  have hpf : Lib.hasPrefix X [34] = true := by rw [unhide HX]; rfl
  have hpf' : Lib.hasPrefix (ByteArray.mk X.toArray).data.toList (ByteArray.mk #[34]).data.toList = true := by simpa using hpf
  rw [hpf'] at HQ
  clear hpf hpf'
  have hmk : (Instr.makeSlice 30 (.int .i64 0) (.int .i64 20)).run Tryz.prog w = _ := run_mkb 0 20 (by omega) (by omega) w
  have HOM := hide (owns_made w 0 20 (by omega) (by omega))
  have HA : Hid (Keeps (fun _ => False) w (w.alloc (.cells (madeCells #[.int .u8 0] 20) 5))) := (Keeps.refl _ _).alloc _
  go_enter Tryz.func102, Tryz.ntmps102
  go_wp2_with fail
  refine (unhide HQ).mono ?_
  rintro e w' ⟨rfl, rfl⟩
  go_wp2_with fail
  clear hmk
  go_loopw [5, 6] (fun bb at' wr => ∃ (k A g cap : Nat), k ≤ t.length ∧ k ≤ 20 ∧ at' = .int .i64 A ∧ Hid (A = (quoteTo t k).length) ∧ bb = .slice (some ⟨g, 0, none⟩) k cap ∧ wr.ownsRow w'.heap.size 5 1 (.slice (some ⟨g, 0, none⟩) k cap) k (bs (t.take k)) ∧ Keeps (fun _ => False) w' wr) (fun _ i _ => X.length - (intOf i).toNat)
  case atStart => exact ⟨0, 1, _, _, Nat.zero_le _, Nat.zero_le _, rfl, rfl, rfl, by simpa [bs] using unhide HOM, unhide HA⟩
  case round =>
    clear HOM HA
    obtain ⟨k, A, g, cap, hk, hk20, rfl, HAE, rfl, hown, hkp⟩ := hrel
    have HO := hide hown
    have HK := hide hkp
    have s0 := hkp.size
    have hAX : A < X.length := by rw [unhide HAE, unhide HX]; exact quoteTo_len_le t R k
    clear hown hkp
    cases hx : t[k]? with
    | none =>
      have h1 := get_ge hx
      obtain rfl : k = t.length := by omega
      have q : ∀ hk, (ByteArray.mk X.toArray)[A]'hk = 34 := str_at (by rw [unhide HX, quote_split t R t.length, unhide HAE, List.getElem?_append_right (Nat.le_refl _)]; simp)
      have hcv : (convert 30 9 (.slice (some ⟨g, 0, none⟩) t.length cap)).run Tryz.prog wr = .ok (str t) wr := conv_ownrow (by have h := unhide HO; rwa [List.take_length] at h)
      have HF := hide (quoteTo_full t)
      clear hx h1
      go_wp2_with fail
      go_ret3
      refine ⟨?_, unhide HK⟩
      unfold unqE
      rw [if_pos hk20]
      have e3 : ((quoteB t).length : Int) = (A : Int) + 1 := by have := unhide HF; have := unhide HAE; omega
      rw [e3]
      rfl
    | some c =>
      have h1 := get_lt hx
      obtain ⟨y, z, hyz, hy⟩ := quote1_head c
      have e1 : (y.toNat : Int) = num y := rfl
      obtain ⟨S, HS⟩ : ∃ S, Hid (S = (t.drop (k + 1)).flatMap quote1 ++ 34 :: R) := ⟨_, rfl⟩
      have HXS : Hid (X = quoteTo t k ++ (quote1 c ++ S)) := by show _ = _; rw [unhide HX, quote_split1 R hx, unhide HS]
      have q : ∀ hk, (ByteArray.mk X.toArray)[A]'hk = y := str_at (by rw [unhide HXS, unhide HAE, List.getElem?_append_right (Nat.le_refl _), hyz]; simp)
      have hsl : (ByteArray.mk X.toArray).extract A X.length = ⟨(quote1 c ++ S).toArray⟩ := by
        rw [ext_str, unhide HXS, unhide HAE, List.drop_left, List.take_of_length_le (by simp)]
      have HP := hide (piece_v c S wr)
      have HT := hide (take_snoc _ _ _ hx)
      have HQS := hide (quoteTo_snoc hx)
      have hq1 : 1 ≤ (quote1 c).length := by rw [hyz]; simp
      have hq4 := quote1_le c
      obtain ⟨n, hn⟩ : ∃ n, n = (quote1 c).length := ⟨_, rfl⟩
      rw [← hn] at HP hq1 hq4
      have HN := hide hn
      have dn : ((n : Int) == 0) = false := by simp; omega
      clear hx hyz hn
      go_wp2_with fail
      refine (unhide HP).mono ?_
      rintro e w2 ⟨rfl, hk2⟩
      have HO2 := hide (owns_keep (unhide HO) hk2)
      have HK2 := hide ((unhide HK).trans hk2)
      have s2 := (unhide HK2).size
      clear hk2 HO HK
      by_cases h20 : k + 1 ≤ 20
      · go_wp2_with (at_builtin; refine Lib.wpList_append_own_string _ rfl _ _ 30 9 rfl w'.heap.size 5 i0 Tryz.underlying30 Tryz.underlying9 hi hz0 hz1 hz2 _ _ _ rfl (unhide HO2) ⟨#[c]⟩ rfl ?c3 ?c4 ?c5 ?_)
        case c3 => show k + 1 ≤ maxLen; unfold maxLen; omega
        case c4 => show k + 1 ≤ _; omega
        case c5 => omega
        intro v' w3 hown3 hgrow _
        have hown4 : w3.ownsRow w'.heap.size 5 1 v' (k + 1) (bs (t.take (k + 1))) := by
          rw [unhide HT, show bs (t.take k ++ [c]) = bs (t.take k) ++ Lib.strCells ⟨[c].toArray⟩ by rw [strCells_bs]; simp [bs]]
          exact hown3
        obtain ⟨g', cap', rfl⟩ : ∃ g cap, v' = .slice (some ⟨g, 0, none⟩) (k + 1) cap := by
          rcases hown4.2 with ⟨_, h0⟩ | ⟨g, cap, cur, hv, _⟩
          · omega
          · exact ⟨g, cap, hv⟩
        have HO4 := hide hown4
        have HK4 := hide ((unhide HK2).grown hgrow (fun q e hq => by have := ((unhide HO2).lt q e).1; omega))
        clear hown3 hown4 hgrow
        go_wp2_with fail
        go_roundw
        case rel => exact ⟨k + 1, A + n, g', cap', by omega, by omega, by go_num, by show _ = _; rw [unhide HQS, List.length_append, ← unhide HAE, ← unhide HN], rfl, unhide HO4, unhide HK4⟩
        case measure => simp [intOf]; omega
      · go_wp2_with fail
        go_ret3
        refine ⟨?_, unhide HK2⟩
        unfold unqE
        rw [if_neg (by omega)]
        rfl
end Go.Proofs.YtklkhegeeglfbaaGreatDoor
namespace Go.Proofs.YtklkhegeeglfbaaGreatDoor
open Go.RowKit Go.Maps

theorem str_cat (a b c : Txt) (h : a ++ b = c) : Value.string (ByteArray.mk a.toArray ++ ByteArray.mk b.toArray) = str c := by
  rw [ByteArray.mk_append_mk, ← h]

/-- The law's own reading of a literal's inside: none, if a byte may not stand where it does. -/
def scanQ : Bool → Txt → Option Bool
  | s, [] => some s
  | s, x :: r => if num x < 32 ∨ num x > 126 ∨ (num x = 34 ∧ s = false) then none else scanQ (decide (num x = 92) && !s) r
theorem scanQ_hex : ∀ n : Fin 16, ¬ (num (hexD n.val) < 32 ∨ num (hexD n.val) > 126 ∨ num (hexD n.val) = 34) ∧ num (hexD n.val) ≠ 92 := by decide +kernel
theorem scanQ_hex1 (n : Nat) (h : n < 16) (r : Txt) : scanQ false (hexD n :: r) = scanQ false r := by
  have := scanQ_hex ⟨n, h⟩
  simp only at this
  rw [scanQ, if_neg (by rintro (h | h | h) <;> simp_all), decide_eq_false this.2]
  rfl
theorem scanQ_one (c : UInt8) (r : Txt) : scanQ false (quote1 c ++ r) = scanQ false r := by
  by_cases hesc : c = 34 ∨ c = 92
  · rw [show quote1 c = [92, c] by unfold quote1; rw [if_pos hesc]]
    rcases hesc with rfl | rfl <;> rfl
  · have n34 : num c ≠ 34 := fun e => hesc (.inl (num_inj (a := c) (b := 34) e))
    have n92 : num c ≠ 92 := fun e => hesc (.inr (num_inj (a := c) (b := 92) e))
    by_cases hpl : 32 ≤ num c ∧ num c ≤ 126
    · rw [show quote1 c = [c] by rw [quote1_num c _ _ rfl rfl, if_neg (by simp [n34, n92]), if_pos hpl]]
      show scanQ false (c :: r) = _
      rw [scanQ, if_neg (by omega), decide_eq_false n92]
      rfl
    · rw [show quote1 c = [92, 120, hexD (c.toNat / 16), hexD (c.toNat % 16)] by rw [quote1_num c _ _ rfl rfl, if_neg (by simp [n34, n92]), if_neg hpl]]
      have hcl := c.toNat_lt
      show scanQ false (hexD _ :: hexD _ :: r) = _
      rw [scanQ_hex1 _ (by omega), scanQ_hex1 _ (by omega)]
theorem scanQ_all : ∀ t : Txt, scanQ false (t.flatMap quote1) = some false
  | [] => rfl
  | c :: r => by rw [List.flatMap_cons, scanQ_one]; exact scanQ_all r

end Go.Proofs.YtklkhegeeglfbaaGreatDoor
