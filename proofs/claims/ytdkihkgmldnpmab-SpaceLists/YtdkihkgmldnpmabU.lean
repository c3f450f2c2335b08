import Derived.Test.YtdkihkgmldnpmabT
namespace Go.Proofs.Ytdkihkgmldnpmab
open Go.RowKit Go.Maps

set_option maxRecDepth 100000 in
set_option maxHeartbeats 1000000 in
theorem rused_any (w : World) (B t : Nat) (T : TR) (b : Bk) (h : TriBk w B t T b) :
    Calls Try.prog 15 #[.pointer (some ⟨T.V, 0, none⟩)] w fun e w' => ∃ v, e = .returned v ∧ w'.ownsRow w.heap.size 3 1 v (usedTo b.now b.n).length (is (usedTo b.now b.n)) ∧ Keeps (fun _ => False) w w' := by
  obtain ⟨i0, hi, hz0, hz1, hz2⟩ := info_parts Try.info3
  have n2 := h.n2
  have HS := hide h
  have hV := lt_of_block h.tri.blk
  have c0 := h.c0
  clear h
  go_enter Try.func15, Try.ntmps15
  go_wp2
  go_loopw [3, 4] (fun o i wr => ∃ k : Nat, k ≤ b.n ∧ i = .int .i64 k ∧ wr.ownsRow w.heap.size 3 1 o (usedTo b.now k).length (is (usedTo b.now k)) ∧ Keeps (fun _ => False) w wr) (fun _ i _ => b.n - (intOf i).toNat)
  case atStart => exact ⟨0, Nat.zero_le _, rfl, by simpa [is, usedTo] using World.ownsRow_nil w w.heap.size 3 1, Keeps.refl _ _⟩
  case round =>
    obtain ⟨k, hk, rfl, hown, hkeep⟩ := hrel
    have hul := usedTo_le b.now k
    have HO := hide hown
    have HK := hide hkeep
    have HU := hide (usedTo_succ b.now k)
    have d0 : wr.cell? ⟨T.V, 0, none⟩ = some (.slice (some ⟨T.g1, 0, none⟩) b.n T.c1) := ((unhide HS).keepF hkeep).c0
    clear hown hkeep
    obtain ⟨u, HE⟩ : ∃ u, Hid (usedTo b.now k = u) := ⟨_, rfl⟩
    rw [unhide HE] at HO HU hul
    by_cases hlt : k < b.n
    · have p1 := ((unhide HS).keepF (unhide HK)).e1 hlt
      have i3 : (k : Int) < (b.n : Int) := by omega
      have i4 : (0 : Int) ≤ (k : Int) := by omega
      cases ho : on b.now k with
      | true =>
        rw [ho] at p1
        have HO2 := hide ho
        clear ho
        go_wp2_with (at_builtin; refine wpList_append_lies _ rfl _ _ _ rfl w.heap.size 3 i0 _ 1 8 Try.underlying51 hi hz0 hz1 hz2 rfl (by omega) u3 u.length (is u) rfl ((unhide HO).alloc _) ⟨wr.heap.size, 0, none⟩ 1 1 [.int .i64 (k : Int)] rfl rfl (World.news_of_block (cs := #[.int .i64 (k : Int)]) (t := 3) (fr := (0, 0)) (heap_alloc_new wr _)) (by simp [Value.oneCell']) (by omega) (by unfold maxLen; omega) (by omega) (by have := (unhide HK).size; simp; omega) (wr.heap.size + 1) (by simp) ?_; intro g cap w1 hown1 hgrow hat hlt1)
        go_roundw
        case rel =>
          refine ⟨k + 1, by omega, by go_num, ?_, ((unhide HK).alloc _).grown hgrow (fun q e hq => by have := ((unhide HO).lt q e).1; omega)⟩
          rw [unhide HU, unhide HO2]
          simpa [is] using hown1
        case measure => simp [intOf]; omega
      | false =>
        rw [ho] at p1
        have HO2 := hide ho
        clear ho
        go_wp2
        go_roundw
        case rel =>
          refine ⟨k + 1, by omega, by go_num, ?_, unhide HK⟩
          rw [unhide HU, unhide HO2]
          simp only [Bool.false_eq_true, if_false, List.append_nil]
          exact unhide HO
        case measure => simp [intOf]; omega
    · have e : k = b.n := by omega
      go_wp2
      go_ret
      refine ⟨_, rfl, ?_, unhide HK⟩
      rw [← e, unhide HE]
      exact unhide HO

set_option maxRecDepth 100000 in
set_option maxHeartbeats 1000000 in
theorem rleft_any (w : World) (B t : Nat) (T : TR) (b : Bk) (h : TriBk w B t T b) :
    Calls Try.prog 53 #[.pointer (some ⟨T.V, 0, none⟩)] w fun e w' => e = .returned (.int .i64 b.left) ∧ w' = w := by
  have c0 := h.c0
  have n2 := h.n2
  have HS := hide h
  clear h
  go_enter Try.func53, Try.ntmps53
  go_wp2
  go_loop [3, 4, 5] (fun a i _ => ∃ k : Nat, k ≤ b.n ∧ a = .int .i64 (cnt b.isOpen k) ∧ i = .int .i64 k) (fun _ i _ => b.n - (intOf i).toNat)
  case atStart => exact ⟨0, Nat.zero_le _, rfl, rfl⟩
  case round =>
    obtain ⟨k, hk, rfl, rfl⟩ := hrel
    have hle := cnt_le b.isOpen k
    have HSU := hide (cnt_succ b.isOpen k)
    by_cases hlt : k < b.n
    · have HO := hide (ropen_any w B t T b (unhide HS) k hlt)
      have i3 : (k : Int) < (b.n : Int) := by omega
      cases ho : b.isOpen k with
      | true =>
        rw [ho] at HO HSU
        clear ho
        generalize cnt b.isOpen k = L at *
        go_wp2_with fail
        refine (unhide HO).mono ?_; rintro e w ⟨rfl, rfl⟩
        go_wp2
        go_round
        case rel => exact ⟨k + 1, by omega, by rw [unhide HSU]; simp, by go_num⟩
        case measure => simp [intOf]; omega
      | false =>
        rw [ho] at HO HSU
        clear ho
        generalize cnt b.isOpen k = L at *
        go_wp2_with fail
        refine (unhide HO).mono ?_; rintro e w ⟨rfl, rfl⟩
        go_wp2
        go_round
        case rel => exact ⟨k + 1, by omega, by rw [unhide HSU]; simp, by go_num⟩
        case measure => simp [intOf]; omega
    · have e : k = b.n := by omega
      go_wp2
      go_ret
      exact ⟨ret_int (by unfold Bk.left; rw [← e]), rfl⟩

theorem pw_le (k : Nat) (h : k < 8) : 1 ≤ pw k ∧ pw k ≤ 128 := by
  match k, h with
  | 0, _ => decide
  | 1, _ => decide
  | 2, _ => decide
  | 3, _ => decide
  | 4, _ => decide
  | 5, _ => decide
  | 6, _ => decide
  | 7, _ => decide
theorem pw_succ (k : Nat) : pw (k + 1) = pw k * 2 := by simp [pw, Int.pow_succ]

set_option maxRecDepth 100000 in
set_option maxHeartbeats 1000000 in
theorem power_any (w : World) (n : Nat) (hn : n < 8) : Calls Try.prog 34 #[.int .i64 n] w fun e w' => e = .returned (.int .i64 (pw n)) ∧ w' = w := by
  go_enter Try.func34, Try.ntmps34
  go_wp2
  go_loop [3, 4] (fun a i => ∃ k : Nat, k ≤ n ∧ a = .int .i64 (pw k) ∧ i = .int .i64 k) (fun _ i => n - (intOf i).toNat)
  case atStart => exact ⟨0, Nat.zero_le _, rfl, rfl⟩
  case round =>
    obtain ⟨k, hk, rfl, rfl⟩ := hrel
    obtain ⟨b1, b2⟩ := pw_le k (by omega)
    have HS := hide (pw_succ k)
    have HE : Hid (k = n → pw k = pw n) := fun e => by rw [e]
    generalize pw k = p at *
    by_cases hlt : k < n
    · have i3 : (k : Int) < (n : Int) := by omega
      go_wp2
      go_round
      case rel => exact ⟨k + 1, by omega, by rw [unhide HS], by go_num⟩
      case measure => simp [intOf]; omega
    · have e : k = n := by omega
      go_wp2
      go_ret
      exact ⟨ret_int (unhide HE e), rfl⟩

end Go.Proofs.Ytdkihkgmldnpmab
