import Derived.Test.YtgdabnkjipcbhaaGreatDoorW

namespace Go.Proofs.YtgdabnkjipcbhaaGreatDoor
open Go.RowKit Go.Maps

theorem decN_length (k : Nat) : ∀ u, u < 10 ^ k → (decN u).length ≤ k := by
  induction k with
  | zero => intro u h; simp at h; subst h; simp [decN_zero]
  | succ k ih =>
    intro u h
    by_cases h0 : u = 0
    · subst h0; simp [decN_zero]
    · rw [decN_pos (by omega)]
      have := ih (u / 10) (by rw [Nat.pow_succ] at h; omega)
      simp; omega
theorem decN_20 (u : Nat) (h : u ≤ 9223372036854775808) : (decN u).length ≤ 19 := decN_length 19 u (by omega)
theorem add_str (w : World) (a b : Txt) (h : a.length + b.length ≤ 9223372036854775807) : (Op.stringOp .add ⟨a.toArray⟩ ⟨b.toArray⟩).run Tryz.prog w = .ok (str (a ++ b)) w := by
  have ha : (ByteArray.mk a.toArray).size = a.length := rfl
  have hb : (ByteArray.mk b.toArray).size = b.length := rfl
  rw [run_string_add_sum w _ _ (by omega), ByteArray.mk_append_mk]
theorem digit_num (u : Nat) : num (UInt8.ofNat (48 + u % 10)) = 48 + (u : Int) % 10 := by
  unfold num
  rw [UInt8.toNat_ofNat']
  have : u % 10 < 10 := Nat.mod_lt _ (by decide)
  omega
theorem decN_digit {u : Nat} (h : 0 < u) : ∃ c, num c = 48 + (u : Int) % 10 ∧ decN u = decN (u / 10) ++ [c] := ⟨_, digit_num u, decN_pos h⟩
/-- The start of a decimal's loop. -/
def startU (n : Int) : Int := if n < 0 then IntKind.u64.wrap (-IntKind.u64.wrap n) else IntKind.u64.wrap n
theorem startU_eq (n : Int) (h0 : -9223372036854775808 ≤ n) (h1 : n ≤ 9223372036854775807) : startU n = (n.natAbs : Int) := by
  unfold startU
  rw [IntKind.wrap_u64, IntKind.wrap_u64]
  split <;> omega
set_option maxRecDepth 100000 in
set_option maxHeartbeats 1000000 in
theorem decimal_any (n : Int) (h0 : -9223372036854775808 ≤ n) (h1 : n ≤ 9223372036854775807) (w : World) :
    Calls Tryz.prog 21 #[.int .i64 n] w fun e w' => e = .returned (str (decimal n)) ∧ Keeps (fun _ => False) w w' := by
  by_cases hz : n = 0
  · subst hz
    go_enter Tryz.func21, Tryz.ntmps21
    go_wp2
    go_ret
    exact ⟨rfl, Keeps.refl _ _⟩
  obtain ⟨m, hm⟩ : ∃ m, m = n.natAbs := ⟨_, rfl⟩
  have HD : Hid (decimal n = if n < 0 then 45 :: decN m else decN m) := by show _ = _; unfold decimal; rw [if_neg hz, hm]
  have hm' : m ≤ 9223372036854775808 := by omega
  have HM : Hid (startU n = (m : Int)) := by show _ = _; rw [startU_eq n h0 h1, hm]
  generalize decimal n = r at *
  have HL := hide (decN_20 m hm')
  clear hm
  by_cases hn : n < 0
  all_goals
    have HN := hide hn
    go_enter Tryz.func21, Tryz.ntmps21
    go_wp2
    go_loopw [3, 4] (fun u s wr => ∃ (k : Nat) (l : Txt), u = .int .u64 k ∧ k ≤ m ∧ s = str l ∧ Hid (decN m = decN k ++ l) ∧ Keeps (fun _ => False) w wr) (fun u _ _ => (intOf u).toNat)
    case atStart =>
      refine ⟨m, [], ?_, Nat.le_refl _, rfl, by simp [Hid], Keeps.refl _ _⟩
      rw [← unhide HM]
      unfold startU
      first | rw [if_pos (unhide HN)] | rw [if_neg (by have := unhide HN; omega), IntWalk.u64_in n ⟨unhide HN, by omega⟩]
    case round =>
      obtain ⟨k, l, rfl, hk, rfl, HE, hkp⟩ := hrel
      have HK := hide hkp
      have hl : l.length ≤ 20 := by have h := congrArg List.length (unhide HE); have := unhide HL; simp at h; omega
      clear hkp
      by_cases hp : 0 < k
      · obtain ⟨c, hc, hcd⟩ := decN_digit hp
        have HC := hide hcd
        have hadd := fun w => add_str w [c] l (by simp; omega)
        have hconv : (convert 62 9 (.slice (some ⟨wr.heap.size, 0, none⟩) 1 1)).run Tryz.prog (wr.alloc (.cells #[.int .u8 (48 + (k : Int) % 10)] 5)) = .ok (str [c]) (wr.alloc (.cells #[.int .u8 (48 + (k : Int) % 10)] 5)) :=
          conv_bytes _ _ 1 [c] (fun j d hj => by
            rw [cell_of_blk (heap_alloc_new wr _)]
            cases j with
            | zero => simp at hj; subst hj; simp [hc]
            | succ j => simp at hj)
        clear hcd hc
        go_wp2
        go_roundw
        case rel =>
          refine ⟨k / 10, c :: l, by go_num, by omega, rfl, ?_, (unhide HK).alloc _⟩
          show _ = _
          rw [unhide HE, unhide HC]
          simp
        case measure => simp [intOf]; omega
      · obtain rfl : k = 0 := by omega
        go_wp2
        go_ret
        refine ⟨?_, unhide HK⟩
        have hd := unhide HD
        have he := unhide HE
        rw [decN_zero] at he
        first | rw [if_pos (unhide HN)] at hd | rw [if_neg (by have := unhide HN; omega)] at hd
        rw [hd, he]
        first | rfl | (rw [ByteArray.mk_append_mk]; rfl)
end Go.Proofs.YtgdabnkjipcbhaaGreatDoor
