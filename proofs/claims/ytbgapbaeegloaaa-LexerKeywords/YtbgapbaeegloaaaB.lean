import Derived.Test.YtbgapbaeegloaaaA
namespace Go.Proofs.Ytbgapbaeegloaaa
open Go.RowKit Go.Maps

theorem str_at {t : Txt} {k : Nat} {c : UInt8} (h : t[k]? = some c) : ∀ hk, (ByteArray.mk t.toArray)[k]'hk = c := by
  intro hk
  obtain ⟨_, rfl⟩ := List.getElem?_eq_some_iff.1 h
  rfl
theorem str_cat (a b c : Txt) (h : a ++ b = c) : Value.string (ByteArray.mk a.toArray ++ ByteArray.mk b.toArray) = str c := by
  rw [ByteArray.mk_append_mk, ← h]

set_option maxRecDepth 100000 in
set_option maxHeartbeats 1000000 in
theorem keyword_v (x : Txt) (w : World) : Calls Try.prog 6 #[str x] w fun e w' => e = .returned (.bool (decide (x ∈ kws))) ∧ w' = w := by
  go_enter Try.func6, Try.ntmps6
  go_wp2
  all_goals (go_ret; refine ⟨ret_bool ?_, rfl⟩; simp_all [kws])

set_option maxRecDepth 100000 in
set_option maxHeartbeats 1000000 in
theorem listed_v (l x : Txt) (hl : l.length ≤ 4096) (hx : x.length ≤ 140737488355328) (w : World) :
    Calls Try.prog 7 #[str l, str x] w fun e w' => e = .returned (.bool (listedB l x)) ∧ w' = w := by
  obtain ⟨D, HD⟩ : ∃ D, Hid (listedB l x = D) := ⟨_, rfl⟩
  rw [unhide HD]
  by_cases h0 : x = []
  · subst h0
    have HE : Hid (D = false) := by show _ = _; rw [← unhide HD]; simp [listedB]
    go_enter Try.func7, Try.ntmps7
    go_wp2_with fail
    go_ret
    exact ⟨ret_bool (unhide HE).symm, rfl⟩
  have hne : (x == []) = false := by simpa using h0
  go_enter Try.func7, Try.ntmps7
  go_wp2_with fail
  go_loopw [5] (fun i wr => ∃ j : Nat, j ≤ x.length ∧ i = .int .i64 j ∧ Hid ((x.take j).all (fun c => decide (c ≠ 32)) = true) ∧ wr = w) (fun i _ => x.length - (intOf i).toNat)
  case atStart => exact ⟨0, Nat.zero_le _, rfl, by simp [Hid], rfl⟩
  case round =>
    obtain ⟨j, hj, rfl, HA, rfl⟩ := hrel
    cases hy : x[j]? with
    | some y =>
      have h1 := get_lt hy
      have q := str_at hy
      have e1 : (y.toNat : Int) = num y := rfl
      have HY := hide hy
      clear hy
      by_cases h32 : num y = 32
      · have HE : Hid (D = false) := by
          show _ = _
          rw [← unhide HD]
          unfold listedB
          rw [show x.all (fun c => decide (c ≠ 32)) = false by
            rw [List.all_eq_false]
            exact ⟨y, List.mem_of_getElem? (unhide HY), by simp [num_inj (a := y) (b := 32) h32]⟩]
          simp
        have e32 : (num y == 32) = true := by simpa using h32
        go_wp2_with fail
        go_ret
        exact ⟨ret_bool (unhide HE).symm, rfl⟩
      · have e32 : (num y == 32) = false := by simpa using h32
        have HN : Hid (y ≠ 32) := fun e => h32 (by rw [e]; rfl)
        go_wp2_with fail
        go_roundw
        case rel =>
          refine ⟨j + 1, by omega, by go_num, ?_, trivial⟩
          show _ = true
          rw [take_snoc _ _ _ (unhide HY), List.all_append, unhide HA]
          simpa using unhide HN
        case measure => simp [intOf]; omega
    | none =>
      have h1 := get_ge hy
      obtain rfl : j = x.length := by omega
      clear hy
      rw [List.take_length] at HA
      obtain ⟨W, HW⟩ : ∃ W : Txt, Hid ((32 :: (x ++ [32]) : Txt) = W) := ⟨_, hide rfl⟩
      have hWl : W.length ≤ 140737488355330 := by rw [← unhide HW]; simp; omega
      have hcat1 : Value.string (ByteArray.mk #[32] ++ ByteArray.mk x.toArray) = str (32 :: x) := str_cat [32] x _ rfl
      have hcat2 : Value.string (ByteArray.mk (32 :: x).toArray ++ ByteArray.mk #[32]) = str W := str_cat (32 :: x) [32] _ (by rw [← unhide HW]; rfl)
      have HS : Hid (D = standsB l W 0) := by
        show _ = _
        rw [← unhide HD]
        unfold listedB
        rw [unhide HA, unhide HW, decide_eq_true h0]
        rfl
      clear h1
      go_wp2_with fail
      obtain ⟨w0, hw0⟩ : ∃ w0, w0 = wr := ⟨_, rfl⟩
      subst hw0
      go_loopw [7] (fun i wr => ∃ k : Nat, k ≤ l.length + 1 ∧ i = .int .i64 k ∧ Hid (D = standsB l W k) ∧ wr = w0) (fun i _ => l.length + 1 - (intOf i).toNat)
      case atStart => exact ⟨0, Nat.zero_le _, rfl, unhide HS, rfl⟩
      case round =>
        obtain ⟨k, hk, rfl, HK, rfl⟩ := hrel
        by_cases hkl : k + W.length ≤ l.length
        · have HT := hide (stands_step hkl)
          have hsl : (ByteArray.mk l.toArray).extract k (k + W.length) = ⟨((l.drop k).take W.length).toArray⟩ := by rw [ext_str, Nat.add_sub_cancel_left]
          obtain ⟨Y, HY⟩ : ∃ Y : Txt, Hid ((l.drop k).take W.length = Y) := ⟨_, hide rfl⟩
          rw [unhide HY] at hsl HT
          have hk1 : (k : Int) + (W.length : Int) ≤ (l.length : Int) := by omega
          by_cases hyw : Y = W
          · have HE : Hid (D = true) := by show _ = _; rw [unhide HK, unhide HT, decide_eq_true hyw]; rfl
            have e1 : (Y == W) = true := by simpa using hyw
            clear hyw
            go_wp2_with fail
            go_ret
            exact ⟨ret_bool (unhide HE).symm, rfl⟩
          · have HE : Hid (D = standsB l W (k + 1)) := by show _ = _; rw [unhide HK, unhide HT, decide_eq_false hyw]; rfl
            have e1 : (Y == W) = false := by simpa using hyw
            clear hyw
            go_wp2_with fail
            go_roundw
            case rel => exact ⟨k + 1, by omega, by go_num, unhide HE, trivial⟩
            case measure => simp [intOf]; omega
        · have HE : Hid (D = false) := by show _ = _; rw [unhide HK, stands_end (by omega)]
          have hk1 : (l.length : Int) < (k : Int) + (W.length : Int) := by omega
          go_wp2_with fail
          go_ret
          exact ⟨ret_bool (unhide HE).symm, rfl⟩
end Go.Proofs.Ytbgapbaeegloaaa
