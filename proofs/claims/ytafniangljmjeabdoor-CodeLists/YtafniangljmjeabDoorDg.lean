import Derived.Test.YtafniangljmjeabDoorDf
namespace Go.Proofs.YtafniangljmjeabDoor
open Go.RowKit Go.Maps

theorem xorU (a : Int) (h0 : 0 ≤ a) (h1 : a < 18446744073709551616) : bits .xor .u64 IntKind.u64.max a = 18446744073709551615 - a := by
  show IntKind.u64.wrap ((BitVec.ofInt 64 18446744073709551615 ^^^ BitVec.ofInt 64 a).toNat : Int) = _
  rw [show BitVec.ofInt 64 18446744073709551615 = BitVec.allOnes 64 from rfl, BitVec.allOnes_xor, BitVec.toNat_not, BitVec.toNat_ofInt, IntKind.wrap_u64]
  omega
theorem turn_neg (n : Int) (h0 : -9223372036854775808 ≤ n) (h : n < 0) : bits .xor .u64 IntKind.u64.max (IntKind.u64.wrap (IntKind.u64.wrap n * 2)) = (tn n : Int) := by
  have e : IntKind.u64.wrap (IntKind.u64.wrap n * 2) = (n * 2) % 18446744073709551616 := by
    rw [IntKind.wrap_u64, IntKind.wrap_u64]
    omega
  rw [e, xorU _ (by omega) (by omega), ← tn_eq]
  unfold turned
  rw [if_neg (by omega)]
  omega
theorem turn_pos (n : Int) (h : ¬ n < 0) : n * 2 = (tn n : Int) := by
  rw [← tn_eq]
  unfold turned
  rw [if_pos (by omega)]
  omega
set_option maxRecDepth 100000 in
set_option maxHeartbeats 2000000 in
theorem turned_v (n : Int) (h0 : -9223372036854775808 ≤ n) (h1 : n ≤ 9223372036854775807) (w : World) :
    Calls Tryd.prog 41 #[.int .i64 n] w fun e w' => ∃ v, e = .returned v ∧ w'.ownsRow w.heap.size 5 1 v (groups (tn n)).length (bs (groups (tn n))) ∧ Keeps (fun _ => False) w w' := by
  obtain ⟨i0, hi, hz0, hz1, hz2⟩ := info_parts Tryd.info5
  have hu := tn_le n h0 h1
  have HG := hide (groups_10 _ hu)
  have HTN : Hid (n < 0 → _) := turn_neg n h0
  have HTP : Hid (¬ n < 0 → _) := turn_pos n
  generalize tn n = U at *
  by_cases hn : n < 0
  case' pos =>
    have HT := hide (unhide HTN hn)
    clear HTN HTP
    go_enter Tryd.func41, Tryd.ntmps41
    go_wp2_with fail
  case' neg =>
    have HT := hide (unhide HTP hn)
    clear HTN HTP
    go_enter Tryd.func41, Tryd.ntmps41
    go_wp2_with fail
  all_goals
    rw [unhide HT]
    clear HT
    go_loopw [3, 4] (fun u o wr => ∃ (k : Nat) (d : Txt), u = .int .u64 k ∧ k ≤ U ∧ Hid (groups U = d ++ groups k) ∧ wr.ownsRow w.heap.size 5 1 o d.length (bs d) ∧ Keeps (fun _ => False) w wr) (fun u _ _ => (intOf u).toNat)
    case atStart => exact ⟨U, [], rfl, Nat.le_refl _, rfl, World.ownsRow_nil _ w.heap.size 5 1, Keeps.refl _ _⟩
    case round =>
      obtain ⟨k, d, rfl, hk, HD, hown, hkp⟩ := hrel
      have HO := hide hown
      have HK := hide hkp
      have hd : d.length ≤ 10 := by have h := congrArg List.length (unhide HD); have := unhide HG; simp at h; omega
      clear hown hkp
      by_cases hge : 128 ≤ k
      · have HC : Hid (num (UInt8.ofNat (k % 128 + 128)) = (k : Int) % 128 + 128) := by show _ = _; rw [num_of _ (by omega)]; omega
        generalize hc : UInt8.ofNat (k % 128 + 128) = c at *
        have HCC := hide hc
        clear hc
        have hge' : (128 : Int) ≤ (k : Int) := by omega
        go_wp2_with (at_builtin; refine wpList_append_lies _ rfl _ _ _ rfl w.heap.size 5 i0 _ 1 1 Tryd.underlying38 hi hz0 hz1 hz2 rfl (by omega) u4 d.length (bs d) rfl ((unhide HO).alloc _) ⟨wr.heap.size, 0, none⟩ 1 1 [.int .u8 ((k : Int) % 128 + 128)] rfl rfl (World.news_of_block (cs := #[.int .u8 ((k : Int) % 128 + 128)]) (t := 5) (fr := (0, 0)) (heap_alloc_new wr _)) (by simp [Value.oneCell']) (by omega) (by unfold maxLen; omega) (by omega) (by have := (unhide HK).size; simp; omega) (wr.heap.size + 1) (by simp) ?_; intro g cap w2 hown1 hgrow hat hlt1)
        go_roundw
        case rel =>
          refine ⟨k / 128, d ++ [c], by go_num, by omega, ?_, ?_, ?_⟩
          · show _ = _
            rw [unhide HD, groups_big hge, unhide HCC]; simp
          · have h := hown1
            simp only [List.length_append, List.length_singleton, bs, List.map_append, List.map_cons, List.map_nil, unhide HC] at h ⊢
            exact h
          · exact ((unhide HK).alloc _).grown hgrow (fun q e hq => by have := ((unhide HO).lt q e).1; omega)
        case measure => simp [intOf]; omega
      · have HC : Hid (num (UInt8.ofNat k) = (k : Int)) := num_of k (by omega)
        generalize hc : UInt8.ofNat k = c at *
        have HCC := hide hc
        clear hc
        have hge' : (k : Int) < 128 := by omega
        go_wp2_with (at_builtin; refine wpList_append_lies _ rfl _ _ _ rfl w.heap.size 5 i0 _ 1 1 Tryd.underlying38 hi hz0 hz1 hz2 rfl (by omega) u4 d.length (bs d) rfl ((unhide HO).alloc _) ⟨wr.heap.size, 0, none⟩ 1 1 [.int .u8 (k : Int)] rfl rfl (World.news_of_block (cs := #[.int .u8 (k : Int)]) (t := 5) (fr := (0, 0)) (heap_alloc_new wr _)) (by simp [Value.oneCell']) (by omega) (by unfold maxLen; omega) (by omega) (by have := (unhide HK).size; simp; omega) (wr.heap.size + 1) (by simp) ?_; intro g cap w2 hown1 hgrow hat hlt1)
        go_ret
        refine ⟨_, rfl, ?_, ?_⟩
        · have h := hown1
          rw [unhide HD, groups_small (by omega), unhide HCC]
          simp only [List.length_append, List.length_singleton, bs, List.map_append, List.map_cons, List.map_nil, unhide HC] at h ⊢
          exact h
        · exact ((unhide HK).alloc _).grown hgrow (fun q e hq => by have := ((unhide HO).lt q e).1; omega)

end Go.Proofs.YtafniangljmjeabDoor
