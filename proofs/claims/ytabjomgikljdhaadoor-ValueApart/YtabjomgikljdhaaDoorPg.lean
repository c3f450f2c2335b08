import Derived.Test.YtabjomgikljdhaaDoorPf
import Derived.Test.YtabjomgikljdhaaDoorPb
namespace Go.Proofs.YtabjomgikljdhaaDoor
open Go.RowKit Go.Maps

theorem str_cat (a b c : Txt) (h : a ++ b = c) : Value.string (ByteArray.mk a.toArray ++ ByteArray.mk b.toArray) = str c := by
  rw [ByteArray.mk_append_mk, ← h]

/-- The law's own reading of a literal's inside: none, if a byte may not stand where it does. -/
def scanQ : Bool → Txt → Option Bool
  | s, [] => some s
  | s, x :: r => if num x < 32 ∨ num x > 126 ∨ (num x = 34 ∧ s = false) then none else scanQ (decide (num x = 92) && !s) r
theorem scanQ_hex : ∀ n : Fin 16, ¬ (num (hexD n.val) < 32 ∨ num (hexD n.val) > 126 ∨ num (hexD n.val) = 34) ∧ num (hexD n.val) ≠ 92 := by decide +kernel
theorem scanQ_hex1 (n : Nat) (h : n < 16) (r : Txt) : scanQ false (hexD n :: r) = scanQ false r := by
  have := scanQ_hex ⟨n, h⟩
  simp only at this
  rw [scanQ, if_neg (by rintro (h | h | h) <;> simp_all), decide_eq_false this.2]
  rfl
theorem scanQ_one (c : UInt8) (r : Txt) : scanQ false (quote1 c ++ r) = scanQ false r := by
  by_cases hesc : c = 34 ∨ c = 92
  · rw [show quote1 c = [92, c] by unfold quote1; rw [if_pos hesc]]
    rcases hesc with rfl | rfl <;> rfl
  · have n34 : num c ≠ 34 := fun e => hesc (.inl (num_inj (a := c) (b := 34) e))
    have n92 : num c ≠ 92 := fun e => hesc (.inr (num_inj (a := c) (b := 92) e))
    by_cases hpl : 32 ≤ num c ∧ num c ≤ 126
    · rw [show quote1 c = [c] by rw [quote1_num c _ _ rfl rfl, if_neg (by simp [n34, n92]), if_pos hpl]]
      show scanQ false (c :: r) = _
      rw [scanQ, if_neg (by omega), decide_eq_false n92]
      rfl
    · rw [show quote1 c = [92, 120, hexD (c.toNat / 16), hexD (c.toNat % 16)] by rw [quote1_num c _ _ rfl rfl, if_neg (by simp [n34, n92]), if_neg hpl]]
      have hcl := c.toNat_lt
      show scanQ false (hexD _ :: hexD _ :: r) = _
      rw [scanQ_hex1 _ (by omega), scanQ_hex1 _ (by omega)]
theorem scanQ_all : ∀ t : Txt, scanQ false (t.flatMap quote1) = some false
  | [] => rfl
  | c :: r => by rw [List.flatMap_cons, scanQ_one]; exact scanQ_all r

set_option maxRecDepth 100000 in
set_option maxHeartbeats 2000000 in
theorem valueQuoted_walk (t R : Txt) (w : World) (ht : t.length ≤ 1099511627776) (hR : R.length ≤ 1099511627776) :
    Calls Tryd.prog 4 #[str t, str R] w fun e w' => e = .returned (.bool true) ∧ Keeps (fun _ => False) w w' := by
  have HQ := hide (quote_v t w ht)
  obtain ⟨T, HT⟩ : ∃ T, Hid (T = quoteB t) := ⟨_, rfl⟩
  obtain ⟨I, HI⟩ : ∃ I, Hid (I = t.flatMap quote1) := ⟨_, rfl⟩
  have HTI : Hid (T = 34 :: (I ++ [34])) := by show _ = _; rw [unhide HT, unhide HI]; rfl
  have hlen : T.length = I.length + 2 := by rw [unhide HTI]; simp
  have hI : I.length ≤ 4398046511104 := by rw [unhide HI]; have := flat_le4 t; omega
  rw [← unhide HT] at HQ
  have HS0 : Hid (scanQ false I = some false) := by show _ = _; rw [unhide HI]; exact scanQ_all t
  have q0 : ∀ hk, (ByteArray.mk T.toArray)[0]'hk = 34 := str_at (by rw [unhide HTI]; rfl)
  have qe : ∀ hk, (ByteArray.mk T.toArray)[I.length + 1]'hk = 34 := str_at (by rw [unhide HTI]; simp)
  go_enter Tryd.func4, Tryd.ntmps4
  go_wp2_with fail
  refine (unhide HQ).mono ?_
  rintro e w2 ⟨rfl, hk⟩
  have HK := hide hk
  clear hk HQ
  go_wp2_with fail
  clear q0 qe
  go_loopw [6, 7] (fun u i wr => ∃ (m : Nat) (b : Bool), m ≤ I.length ∧ i = .int .i64 ((m : Int) + 1) ∧ u = .bool b ∧ Hid (scanQ b (I.drop m) = some false) ∧ wr = w2) (fun _ i _ => I.length + 1 - (intOf i).toNat)
  case atStart => exact ⟨0, false, Nat.zero_le _, rfl, rfl, unhide HS0, rfl⟩
  case round =>
    obtain ⟨m, b, hm, rfl, rfl, HS, rfl⟩ := hrel
    cases hx : I[m]? with
    | none =>
      have h1 := get_ge hx
      obtain rfl : m = I.length := by omega
      obtain rfl : b = false := by have h := unhide HS; rw [List.drop_length] at h; simpa [scanQ] using h
      have HU := hide (unquote_v t R wr (by rw [← unhide HT, List.length_append]; omega))
      have hcat : Value.string (ByteArray.mk T.toArray ++ ByteArray.mk R.toArray) = str (quoteB t ++ R)   := str_cat _ _ _ (by rw [unhide HT])
      clear hx h1 HS
      unfold unqE at HU
      by_cases h20 : t.length ≤ 20
      · rw [if_pos h20, ← unhide HT] at HU
        rw [← unhide HT] at hcat
        go_wp2_with fail
        refine (unhide HU).mono ?_
        rintro e w3 ⟨rfl, hk3⟩
        have HK3 := hide ((unhide HK).trans hk3)
        clear hk3 HU
        go_wp2_with fail
        go_ret
        exact ⟨rfl, unhide HK3⟩
      · rw [if_neg h20, ← unhide HT] at HU
        rw [← unhide HT] at hcat
        go_wp2_with fail
        refine (unhide HU).mono ?_
        rintro e w3 ⟨rfl, hk3⟩
        have HK3 := hide ((unhide HK).trans hk3)
        clear hk3 HU
        go_wp2_with fail
        go_ret
        exact ⟨rfl, unhide HK3⟩
    | some x =>
      have h1 := get_lt hx
      have q : ∀ hk, (ByteArray.mk T.toArray)[m + 1]'hk = x := str_at (by rw [unhide HTI]; simp [List.getElem?_append_left h1, hx])
      have e1 : (x.toNat : Int) = num x := rfl
      have hd : I.drop m = x :: I.drop (m + 1) := by
        rw [List.drop_eq_getElem_cons h1]
        have : I[m] = x := by rw [List.getElem?_eq_getElem h1] at hx; simpa using hx
        rw [this]
      have hsc := unhide HS
      rw [hd, scanQ] at hsc
      split at hsc
      · cases hsc
      · rename_i hno
        have l1 : ¬ num x < 32 := fun h => hno (.inl h)
        have l2 : ¬ num x > 126 := fun h => hno (.inr (.inl h))
        have l3 : num x = 34 → b = true := fun h => by cases b <;> simp_all
        have HSN := hide hsc
        clear hsc hd hx HS hno
        by_cases h34 : num x = 34
        · obtain rfl := l3 h34
          have e34 : (num x == 34) = true := by simpa using h34
          have e92 : (num x == 92) = false := by simp; omega
          have HD : Hid ((decide (num x = 92) && !true) = false) := by simp [Hid]
          rw [unhide HD] at HSN
          clear l3
          go_wp2_with fail
          go_roundw
          case rel => exact ⟨m + 1, false, by omega, by go_num, rfl, unhide HSN, trivial⟩
          case measure => simp [intOf]; omega
        · have e34 : (num x == 34) = false := by simpa using h34
          clear l3
          by_cases h92 : num x = 92
          · have e92 : (num x == 92) = true := by simpa using h92
            rw [decide_eq_true h92, Bool.true_and] at HSN
            go_wp2_with fail
            all_goals
              go_roundw
              case rel => exact ⟨m + 1, !b, by omega, by go_num, by first | rfl | simp, unhide HSN, trivial⟩
              case measure => simp [intOf]; omega
          · have e92 : (num x == 92) = false := by simpa using h92
            rw [decide_eq_false h92, Bool.false_and] at HSN
            go_wp2_with fail
            all_goals
              go_roundw
              case rel => exact ⟨m + 1, false, by omega, by go_num, rfl, unhide HSN, trivial⟩
              case measure => simp [intOf]; omega
end Go.Proofs.YtabjomgikljdhaaDoor
