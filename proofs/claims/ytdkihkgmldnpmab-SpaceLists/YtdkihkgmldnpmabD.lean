import Derived.Test.YtdkihkgmldnpmabC
namespace Go.Proofs.Ytdkihkgmldnpmab
open Go.RowKit Go.Maps

def newSP (B n : Nat) : SP := ⟨B + 6, B + 1, B + 3, B + 5, B, B + 2, B + 4, n, List.replicate n false, List.replicate n false, List.replicate n false⟩

set_option maxRecDepth 100000 in
set_option maxHeartbeats 400000 in
theorem new_yes (w : World) (n : Nat) (h1 : 1 ≤ n) (h2 : n ≤ 2048) :
    Calls Try.prog 24 #[.int .i64 n] w fun e w' => e = .returned (.tuple #[.pointer (some ⟨w.heap.size + 6, 0, none⟩), .int .i64 0]) ∧ SpaceAt w' w.heap.size (newSP w.heap.size n) ∧ w'.heap.size = w.heap.size + 7 ∧ Keeps (fun _ => False) w w' := by
  have i1 : (1 : Int) ≤ (n : Int) := by omega
  have i2 : (n : Int) ≤ 2048 := by omega
  go_enter Try.func24, Try.ntmps24
  go_wp2_with fail
  refine (empty_any n _ h2).mono ?_
  rintro e w1 ⟨rfl, hs1, hz1, hk1⟩
  have S1 := hide hs1
  have Z1 := hide hz1
  have K1 := hide hk1
  clear hs1 hz1 hk1
  go_wp2_with fail
  refine (empty_any n _ h2).mono ?_
  rintro e w2 ⟨rfl, hs2, hz2, hk2⟩
  rw [unhide Z1] at hs2 hz2 ⊢
  have S2 := hide hs2
  have Z2 := hide hz2
  have K2 := hide hk2
  clear hs2 hz2 hk2
  go_wp2_with fail
  refine (empty_any n _ h2).mono ?_
  rintro e w3 ⟨rfl, hs3, hz3, hk3⟩
  rw [unhide Z2] at hs3 hz3 ⊢
  have S3 := hide hs3
  have Z3 := hide hz3
  have K3 := hide hk3
  clear hs3 hz3 hk3
  go_wp2
  go_ret2
  have z3 : w3.heap.size = w.heap.size + 6 := by have := unhide Z3; omega
  refine ⟨by rw [z3]; rfl, ?_, by simp [z3], (((unhide K1).trans (unhide K2)).trans (unhide K3)).alloc _⟩
  have k : Keeps (fun _ => False) w3 (w3.alloc (.cells #[.int .i64 n, .pointer (some ⟨w.heap.size + 1, 0, none⟩), .pointer (some ⟨w.heap.size + 3, 0, none⟩), .pointer (some ⟨w.heap.size + 5, 0, none⟩)] 66)) := (Keeps.refl _ _).alloc _
  refine ⟨?_, (((unhide S1).kept (unhide K2) id id).kept (unhide K3) id id).kept k id id, ((unhide S2).kept (unhide K3) id id).kept k id id, (unhide S3).kept k id id, ?_, ?_, ?_, ?_, h1⟩
  · have := heap_alloc_new w3 (.cells #[.int .i64 n, .pointer (some ⟨w.heap.size + 1, 0, none⟩), .pointer (some ⟨w.heap.size + 3, 0, none⟩), .pointer (some ⟨w.heap.size + 5, 0, none⟩)] 66)
    rw [z3] at this
    exact this
  · show w.heap.size ≠ w.heap.size + 2; omega
  · show w.heap.size ≠ w.heap.size + 4; omega
  · show w.heap.size + 2 ≠ w.heap.size + 4; omega
  · show w.heap.size ≤ w.heap.size ∧ w.heap.size ≤ w.heap.size + 2 ∧ w.heap.size ≤ w.heap.size + 4; omega

set_option maxRecDepth 100000 in
set_option maxHeartbeats 400000 in
theorem new_no (w : World) (n : Int) (h : n < 1 ∨ 2048 < n) :
    Calls Try.prog 24 #[.int .i64 n] w fun e w' => e = .returned (.tuple #[.pointer none, .int .i64 1]) ∧ w' = w := by
  by_cases h1 : n < 1
  · go_enter Try.func24, Try.ntmps24
    go_wp2
    go_ret2
    exact ⟨rfl, rfl⟩
  · have h2 : 2048 < n := by omega
    go_enter Try.func24, Try.ntmps24
    go_wp2
    go_ret2
    exact ⟨rfl, rfl⟩

set_option maxRecDepth 100000 in
set_option maxHeartbeats 400000 in
theorem take_some (w : World) (B : Nat) (s : SP) (h : SpaceAt w B s) (i : Nat) (hi : i < s.n) (ho : s.isOpen i = true) (hm : ∀ j, j < i → s.isOpen j = false) :
    Calls Try.prog 36 #[.pointer (some ⟨s.S, 0, none⟩)] w fun e w' => e = .returned (.tuple #[.int .i64 i, .int .i64 0]) ∧ SpaceAt w' B { s with now := s.now.set i true } ∧ Keeps (fun k => k = s.x) w w' := by
  have c0 := h.c0
  have n2 := h.n2
  have HS := hide h
  have HM := hide hm
  have HO := hide ho
  clear h hm ho
  go_enter Try.func36, Try.ntmps36
  go_wp2
  go_loopw [2, 3, 4, 11] (fun a b _ t wr => ∃ k : Nat, k ≤ i ∧ a = .int .i64 0 ∧ b = .int .i64 0 ∧ t = .int .i64 k ∧ ∃ m, wr = w.drewN m) (fun _ _ _ t _ => s.n - (intOf t).toNat)
  case atStart => exact ⟨0, Nat.zero_le _, rfl, rfl, rfl, 0, rfl⟩
  case round =>
    obtain ⟨k, hk, rfl, rfl, rfl, m, rfl⟩ := hrel
    have hlt : (k : Int) < (s.n : Int) := by omega
    have HC := hide (open_any _ B s ((unhide HS).drewN m) k (by omega))
    by_cases e : k = i
    · subst e
      rw [unhide HO] at HC
      have c1 := (unhide HS).c1
      have HJ := hide (fun q => join_any _ s.a s.x s.n s.now ((unhide HS).now.drewN q) k hi)
      go_wp2_with fail
      refine (unhide HC).mono ?_
      rintro e w1 ⟨rfl, k1, rfl⟩
      rw [World.drewN_drewN]
      go_wp2_with fail
      refine (unhide HJ _).mono ?_
      rintro e w2 ⟨rfl, hs2, hk2⟩
      have H2 := hide hs2
      have K2 := hide hk2
      clear hs2 hk2
      go_wp2
      go_ret2
      have hk' : Keeps (fun q => q = s.x) w w2 := Keeps.trans ((Keeps.refl _ w).drewN _) (unhide K2)
      exact ⟨rfl, (unhide HS).upd_now (unhide H2) hk', hk'⟩
    · rw [unhide HM k (by omega)] at HC
      go_wp2_with fail
      refine (unhide HC).mono ?_
      rintro e w1 ⟨rfl, k1, rfl⟩
      rw [World.drewN_drewN]
      go_wp2
      go_roundw
      case rel => exact ⟨k + 1, by omega, rfl, rfl, by go_num, _, rfl⟩
      case measure => simp [intOf]; omega

set_option maxRecDepth 100000 in
set_option maxHeartbeats 400000 in
theorem take_none (w : World) (B : Nat) (s : SP) (h : SpaceAt w B s) (hm : ∀ j, j < s.n → s.isOpen j = false) :
    Calls Try.prog 36 #[.pointer (some ⟨s.S, 0, none⟩)] w fun e w' => e = .returned (.tuple #[.int .i64 0, .int .i64 30]) ∧ ∃ k, w' = w.drewN k := by
  have c0 := h.c0
  have n2 := h.n2
  have HS := hide h
  have HM := hide hm
  clear h hm
  go_enter Try.func36, Try.ntmps36
  go_wp2
  go_loopw [2, 3, 4, 11] (fun a b _ t wr => ∃ k : Nat, k ≤ s.n ∧ a = .int .i64 0 ∧ b = .int .i64 0 ∧ t = .int .i64 k ∧ ∃ m, wr = w.drewN m) (fun _ _ _ t _ => s.n - (intOf t).toNat)
  case atStart => exact ⟨0, Nat.zero_le _, rfl, rfl, rfl, 0, rfl⟩
  case round =>
    obtain ⟨k, hk, rfl, rfl, rfl, m, rfl⟩ := hrel
    by_cases hlt : k < s.n
    · have HC := hide (open_any _ B s ((unhide HS).drewN m) k (by omega))
      rw [unhide HM k (by omega)] at HC
      go_wp2_with fail
      refine (unhide HC).mono ?_
      rintro e w1 ⟨rfl, k1, rfl⟩
      rw [World.drewN_drewN]
      go_wp2
      go_roundw
      case rel => exact ⟨k + 1, by omega, rfl, rfl, by go_num, _, rfl⟩
      case measure => simp [intOf]; omega
    · go_wp2
      go_ret2
      exact ⟨rfl, _, rfl⟩

set_option maxHeartbeats 400000 in
theorem take_nil (w : World) : Calls Try.prog 36 #[.pointer none] w fun e w' => e = .returned (.tuple #[.int .i64 0, .int .i64 1]) ∧ w' = w := by
  go_enter Try.func36, Try.ntmps36
  go_wp2
  go_ret2
  exact ⟨rfl, rfl⟩

set_option maxRecDepth 100000 in
set_option maxHeartbeats 400000 in
theorem give_yes (w : World) (B : Nat) (s : SP) (h : SpaceAt w B s) (i : Nat) (hi : on s.now i = true) :
    Calls Try.prog 38 #[.pointer (some ⟨s.S, 0, none⟩), .int .i64 i] w fun e w' => e = .returned (.int .i64 0) ∧ SpaceAt w' B { s with now := s.now.set i false } ∧ Keeps (fun k => k = s.x) w w' := by
  have c1 := h.c1
  have hin : i < s.n := by have := on_lt hi; rw [h.now.len] at this; exact this
  have HH := hide (has_in w s.a s.x s.n s.now h.now i hin)
  rw [hi] at HH
  have HL := hide (fun q => leave_any _ s.a s.x s.n s.now (h.now.drewN q) i hin)
  have HS := hide h
  clear h hi
  go_enter Try.func38, Try.ntmps38
  go_wp2_with fail
  refine (unhide HH).mono ?_
  rintro e w1 ⟨rfl, k1, rfl⟩
  go_wp2_with fail
  refine (unhide HL _).mono ?_
  rintro e w2 ⟨rfl, hs2, hk2⟩
  have H2 := hide hs2
  have K2 := hide hk2
  clear hs2 hk2
  go_wp2
  go_ret
  have hk' : Keeps (fun q => q = s.x) w w2 := Keeps.trans ((Keeps.refl _ w).drewN _) (unhide K2)
  exact ⟨rfl, (unhide HS).upd_now (unhide H2) hk', hk'⟩

set_option maxRecDepth 100000 in
set_option maxHeartbeats 400000 in
theorem give_no (w : World) (B : Nat) (s : SP) (h : SpaceAt w B s) (i : Int) (hi : i < 0 ∨ on s.now i.toNat = false) :
    Calls Try.prog 38 #[.pointer (some ⟨s.S, 0, none⟩), .int .i64 i] w fun e w' => e = .returned (.int .i64 31) ∧ ∃ k, w' = w.drewN k := by
  have c1 := h.c1
  have hh : Calls Try.prog 48 #[.pointer (some ⟨s.a, 0, none⟩), .int .i64 i] w fun e w' => e = .returned (.bool false) ∧ ∃ k, w' = w.drewN k := by
    by_cases ho : i < 0 ∨ (s.n : Int) ≤ i
    · exact has_out w s.a s.x s.n s.now h.now i ho
    · obtain ⟨j, rfl⟩ := Int.eq_ofNat_of_zero_le (show 0 ≤ i by omega)
      have := has_in w s.a s.x s.n s.now h.now j (by omega)
      rcases hi with hi | hi
      · omega
      · simp only [Int.toNat_natCast] at hi
        rw [hi] at this
        exact this
  have HH := hide hh
  clear h hi hh
  go_enter Try.func38, Try.ntmps38
  go_wp2_with fail
  refine (unhide HH).mono ?_
  rintro e w1 ⟨rfl, k1, rfl⟩
  go_wp2
  go_ret
  exact ⟨rfl, _, rfl⟩

set_option maxHeartbeats 400000 in
theorem give_nil (w : World) (v : Value) : Calls Try.prog 38 #[.pointer none, v] w fun e w' => e = .returned (.int .i64 1) ∧ w' = w := by
  go_enter Try.func38, Try.ntmps38
  go_wp2
  go_ret
  exact ⟨rfl, rfl⟩

set_option maxRecDepth 100000 in
set_option maxHeartbeats 400000 in
theorem mark_any (w : World) (B : Nat) (s : SP) (h : SpaceAt w B s) :
    Calls Try.prog 40 #[.pointer (some ⟨s.S, 0, none⟩)] w fun e w' => e = .returned (.tuple #[]) ∧ SpaceAt w' B { s with mark := s.now } ∧ Keeps (fun k => k = s.y) w w' := by
  have c1 := h.c1
  have c2 := h.c2
  have HS := hide h
  have hb := become_any w.drew s.b s.y s.a s.x s.n s.mark s.now (h.mark.drewN 1) (h.now.drewN 1)
  have hb' : Calls Try.prog 47 #[.pointer (some ⟨s.b, 0, none⟩), .pointer (some ⟨s.a, 0, none⟩)] w.drew fun e w' => e = .returned (.tuple #[]) ∧ (SpaceAt w' B { s with mark := s.now } ∧ Keeps (fun k => k = s.y) w w') := by
    refine hb.mono ?_
    rintro e w' ⟨rfl, h1, h2⟩
    have hk : Keeps (fun k => k = s.y) w w' := Keeps.trans ((Keeps.refl _ w).drewN 1) h2
    exact ⟨rfl, h.upd_mark h1 hk, hk⟩
  have HB := hide hb'
  clear h hb hb'
  go_enter Try.func40, Try.ntmps40
  go_wp2_with fail
  go_region_held3 (fun w' => w'.cell? ⟨s.S, 1, none⟩ = some (.pointer (some ⟨s.a, 0, none⟩)) ∧ w'.cell? ⟨s.S, 2, none⟩ = some (.pointer (some ⟨s.b, 0, none⟩)))
    (go_keep)
    (first
      | (go_at_call 47
         refine (unhide HB).mono ?_
         rintro e w1 ⟨rfl, hs, hk⟩
         have k1 := hs.c1
         have k2 := hs.c2
         simp only at k1 k2
         have H1 := hide hs
         have K1 := hide hk
         clear hs hk))
  go_wp2
  go_end0
  exact ⟨rfl, unhide H1, unhide K1⟩

set_option maxHeartbeats 400000 in
theorem mark_nil (w : World) : Calls Try.prog 40 #[.pointer none] w fun e w' => e = .returned (.tuple #[]) ∧ w' = w := by
  go_enter Try.func40, Try.ntmps40
  go_wp2
  refine bodyPost_ret (results_none rfl _ _ _) rfl ?_
  exact ⟨rfl, rfl⟩

set_option maxRecDepth 100000 in
set_option maxHeartbeats 400000 in
theorem undo_any (w : World) (B : Nat) (s : SP) (h : SpaceAt w B s) :
    Calls Try.prog 42 #[.pointer (some ⟨s.S, 0, none⟩)] w fun e w' => e = .returned (.tuple #[]) ∧ SpaceAt w' B { s with now := s.mark } ∧ Keeps (fun k => k = s.x) w w' := by
  have c1 := h.c1
  have c2 := h.c2
  have HS := hide h
  have hb := become_any w.drew s.a s.x s.b s.y s.n s.now s.mark (h.now.drewN 1) (h.mark.drewN 1)
  have hb' : Calls Try.prog 47 #[.pointer (some ⟨s.a, 0, none⟩), .pointer (some ⟨s.b, 0, none⟩)] w.drew fun e w' => e = .returned (.tuple #[]) ∧ (SpaceAt w' B { s with now := s.mark } ∧ Keeps (fun k => k = s.x) w w') := by
    refine hb.mono ?_
    rintro e w' ⟨rfl, h1, h2⟩
    have hk : Keeps (fun k => k = s.x) w w' := Keeps.trans ((Keeps.refl _ w).drewN 1) h2
    exact ⟨rfl, h.upd_now h1 hk, hk⟩
  have HB := hide hb'
  clear h hb hb'
  go_enter Try.func42, Try.ntmps42
  go_wp2_with fail
  go_region_held3 (fun w' => w'.cell? ⟨s.S, 1, none⟩ = some (.pointer (some ⟨s.a, 0, none⟩)) ∧ w'.cell? ⟨s.S, 2, none⟩ = some (.pointer (some ⟨s.b, 0, none⟩)))
    (go_keep)
    (first
      | (go_at_call 47
         refine (unhide HB).mono ?_
         rintro e w1 ⟨rfl, hs, hk⟩
         have k1 := hs.c1
         have k2 := hs.c2
         simp only at k1 k2
         have H1 := hide hs
         have K1 := hide hk
         clear hs hk))
  go_wp2
  go_end0
  exact ⟨rfl, unhide H1, unhide K1⟩

set_option maxHeartbeats 400000 in
theorem undo_nil (w : World) : Calls Try.prog 42 #[.pointer none] w fun e w' => e = .returned (.tuple #[]) ∧ w' = w := by
  go_enter Try.func42, Try.ntmps42
  go_wp2
  refine bodyPost_ret (results_none rfl _ _ _) rfl ?_
  exact ⟨rfl, rfl⟩

set_option maxRecDepth 100000 in
set_option maxHeartbeats 400000 in
theorem settle_any (w : World) (B : Nat) (s : SP) (h : SpaceAt w B s) :
    Calls Try.prog 27 #[.pointer (some ⟨s.S, 0, none⟩)] w fun e w' => e = .returned (.tuple #[]) ∧ SpaceAt w' B { s with mark := s.now, last := s.now } ∧ Keeps (fun k => k = s.y ∨ k = s.z) w w' := by
  have c1 := h.c1
  have c2 := h.c2
  have hb := become_any w.drew s.b s.y s.a s.x s.n s.mark s.now (h.mark.drewN 1) (h.now.drewN 1)
  have hb' : Calls Try.prog 47 #[.pointer (some ⟨s.b, 0, none⟩), .pointer (some ⟨s.a, 0, none⟩)] w.drew fun e w' => e = .returned (.tuple #[]) ∧ (SpaceAt w' B { s with mark := s.now } ∧ Keeps (fun k => k = s.y) w w') := by
    refine hb.mono ?_
    rintro e w' ⟨rfl, h1, h2⟩
    have hk : Keeps (fun k => k = s.y) w w' := Keeps.trans ((Keeps.refl _ w).drewN 1) h2
    exact ⟨rfl, h.upd_mark h1 hk, hk⟩
  have HB := hide hb'
  have hc : ∀ w1, SpaceAt w1 B { s with mark := s.now } → Calls Try.prog 47 #[.pointer (some ⟨s.c, 0, none⟩), .pointer (some ⟨s.a, 0, none⟩)] w1.drew fun e w' => e = .returned (.tuple #[]) ∧ (SpaceAt w' B { s with mark := s.now, last := s.now } ∧ Keeps (fun k => k = s.z) w1 w') := by
    intro w1 h1
    refine (become_any w1.drew s.c s.z s.a s.x s.n s.last s.now (h1.last.drewN 1) (h1.now.drewN 1)).mono ?_
    rintro e w' ⟨rfl, h3, h4⟩
    have hk : Keeps (fun k => k = s.z) w1 w' := Keeps.trans ((Keeps.refl _ w1).drewN 1) h4
    exact ⟨rfl, h1.upd_last h3 hk, hk⟩
  have HC := hide hc
  clear h hb hb' hc
  go_enter Try.func27, Try.ntmps27
  go_wp2_with fail
  go_region_held3 (fun w' => w'.cell? ⟨s.S, 1, none⟩ = some (.pointer (some ⟨s.a, 0, none⟩)) ∧ w'.cell? ⟨s.S, 2, none⟩ = some (.pointer (some ⟨s.b, 0, none⟩)))
    (go_keep)
    (first
      | (go_at_call 47
         refine (unhide HB).mono ?_
         rintro e w1 ⟨rfl, hs, hk⟩
         have k1 := hs.c1
         have k2 := hs.c2
         have k3 := hs.c3
         simp only at k1 k2 k3
         have H1 := hide hs
         have K1 := hide hk
         clear hs hk))
  have HC1 := hide (unhide HC _ (unhide H1))
  go_wp2_with fail
  go_region_held3 (fun w' => w'.cell? ⟨s.S, 1, none⟩ = some (.pointer (some ⟨s.a, 0, none⟩)) ∧ w'.cell? ⟨s.S, 3, none⟩ = some (.pointer (some ⟨s.c, 0, none⟩)))
    (go_keep)
    (first
      | (go_at_call 47
         refine (unhide HC1).mono ?_
         rintro e w2 ⟨rfl, hs, hk⟩
         have k4 := hs.c1
         have k5 := hs.c3
         simp only at k4 k5
         have H2 := hide hs
         have K2 := hide hk
         clear hs hk))
  go_wp2
  go_end0
  exact ⟨rfl, unhide H2, ((unhide K1).mono (fun _ _ e => Or.inl e)).trans ((unhide K2).mono (fun _ _ e => Or.inr e))⟩

set_option maxHeartbeats 400000 in
theorem settle_nil (w : World) : Calls Try.prog 27 #[.pointer none] w fun e w' => e = .returned (.tuple #[]) ∧ w' = w := by
  go_enter Try.func27, Try.ntmps27
  go_wp2
  refine bodyPost_ret (results_none rfl _ _ _) rfl ?_
  exact ⟨rfl, rfl⟩

end Go.Proofs.Ytdkihkgmldnpmab
