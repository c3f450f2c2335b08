import Derived.Test.YtbgapbaeegloaaaDoorLd
namespace Go.Proofs.YtbgapbaeegloaaaDoor
open Go.RowKit Go.Maps

theorem decU_step {u : Nat} (h : 10 ≤ u) : decU u = decU (u / 10) ++ [UInt8.ofNat (48 + u % 10)] := by
  unfold decU
  rw [if_neg (by omega), if_neg (by omega), decN_pos (by omega)]
theorem decU_one {u : Nat} (h : u < 10) : decU u = [UInt8.ofNat (48 + u)] := by
  unfold decU
  split
  · rename_i e; subst e; rfl
  · rw [decN_pos (by omega), show u / 10 = 0 by omega, decN_zero, show u % 10 = u by omega]; rfl
theorem decU_len (u : Nat) (h : u < 18446744073709551616) : (decU u).length ≤ 20 := by
  unfold decU
  split
  · simp
  · exact decN_length 20 u (by omega)
theorem conv1 (W : World) (b : Nat) (c : UInt8) (h : W.cell? ⟨b, 0, none⟩ = some (.int .u8 (num c))) : (convert 39 9 (.slice (some ⟨b, 0, none⟩) 1 1)).run Tryd.prog W = .ok (str [c]) W :=
  conv_bytes _ _ 1 [c] (fun j d hj => by
    cases j with
    | zero => simp at hj; subst hj; exact h
    | succ j => simp at hj)
set_option maxRecDepth 100000 in
set_option maxHeartbeats 2000000 in
theorem rdec_v (u : Nat) : u < 18446744073709551616 → ∀ w : World, Calls Tryd.prog 30 #[.int .u64 u] w fun e w' => e = .returned (str (decU u)) ∧ Keeps (fun _ => False) w w' := by
  induction u using Nat.strongRecOn with
  | ind u ih =>
    intro hu w
    by_cases h10 : u < 10
    · have hc : num (UInt8.ofNat (48 + u)) = 48 + (u : Int) := by have := digit_num u; rw [show u % 10 = u by omega] at this; rw [this]; omega
      have hconv : (convert 39 9 (.slice (some ⟨w.heap.size, 0, none⟩) 1 1)).run Tryd.prog (w.alloc (.cells #[.int .u8 (48 + (u : Int))] 5)) = .ok (str [UInt8.ofNat (48 + u)]) (w.alloc (.cells #[.int .u8 (48 + (u : Int))] 5)) :=
        conv1 _ _ _ (by rw [cell_of_blk (heap_alloc_new w _), hc]; rfl)
      rw [decU_one h10]
      have h10' : (u : Int) < 10 := by omega
      generalize UInt8.ofNat (48 + u) = c at *
      clear hc ih
      go_enter Tryd.func30, Tryd.ntmps30
      go_wp2
      go_ret
      exact ⟨rfl, (Keeps.refl _ _).alloc _⟩
    · have HQ := hide (ih (u / 10) (by omega) (by omega))
      have hl := decU_len (u / 10) (by omega)
      have HS := hide (decU_step (u := u) (by omega))
      obtain ⟨c, hc, HC⟩ : ∃ c, num c = 48 + (u : Int) % 10 ∧ Hid (UInt8.ofNat (48 + u % 10) = c) := ⟨_, digit_num u, rfl⟩
      rw [unhide HC] at HS
      generalize decU (u / 10) = A at *
      have t1 : ∀ w' : World, (Op.stringOp .add (ByteArray.mk A.toArray) (ByteArray.mk [c].toArray)).run Tryd.prog w' = .ok (str (A ++ [c])) w' := fun w' => add_str w' A [c] (by simp; omega)
      have hq : IntKind.u64.wrap ((u : Int) / 10) = ((u / 10 : Nat) : Int) := by rw [IntKind.wrap_u64]; omega
      rw [← hq] at HQ
      have hn10 : (10 : Int) ≤ (u : Int) := by omega
      have hV : (IntKind.u8.wrap (IntKind.u64.wrap (48 + (u : Int).tmod 10))) = num c := by
        rw [hc, Int.tmod_eq_emod_of_nonneg (by omega), IntKind.wrap_u64, IntKind.wrap_u8]
        omega
      have hconv : ∀ W : World, (convert 39 9 (.slice (some ⟨W.heap.size, 0, none⟩) 1 1)).run Tryd.prog (W.alloc (.cells #[.int .u8 (IntKind.u8.wrap (IntKind.u64.wrap (48 + (u : Int).tmod 10)))] 5)) = .ok (str [c]) (W.alloc (.cells #[.int .u8 (IntKind.u8.wrap (IntKind.u64.wrap (48 + (u : Int).tmod 10)))] 5)) := fun W => conv1 _ _ c (by rw [cell_of_blk (heap_alloc_new W _), hV]; rfl)
      have hconvD : ∀ W : World, (convert 39 9 (.slice (some ⟨W.heap.size, 0, none⟩) 1 1)).run Tryd.prog (W.alloc (.cells #[.int .u8 (IntKind.u8.wrap (IntKind.u64.wrap (48 + (u : Int).tmod 10)))] 5)).drew = .ok (str [c]) (W.alloc (.cells #[.int .u8 (IntKind.u8.wrap (IntKind.u64.wrap (48 + (u : Int).tmod 10)))] 5)).drew := fun W => conv1 _ _ c (by have h := cell_of_blk (heap_alloc_new W (.cells #[.int .u8 (IntKind.u8.wrap (IntKind.u64.wrap (48 + (u : Int).tmod 10)))] 5)) 0; rw [← hV]; exact h)
      have HC8 : Hid (∀ (W : World) (b : Nat), W.cell? ⟨b, 0, none⟩ = some (.int .u8 (IntKind.u8.wrap (IntKind.u64.wrap (48 + (u : Int).tmod 10)))) → (convert 39 9 (.slice (some ⟨b, 0, none⟩) 1 1)).run Tryd.prog W = .ok (str [c]) W) := fun W b h => conv1 W b c (by rw [h, hV])
      rw [unhide HS]
      clear ih hq hc hV h10
      go_enter Tryd.func30, Tryd.ntmps30
      go_wp2_with fail
      go_region_with (first
          | (go_at_call 30
             with_reducible refine (unhide HQ w.drew).mono ?_
             rintro e w7 ⟨rfl, hk7⟩
             have HK7 := hide ((Keeps.refl _ w).drew.trans hk7)
             clear hk7)
          | (go_at_call 30
             with_reducible refine (unhide HQ (w.alloc (.cells #[.int .u8 (IntKind.u8.wrap (IntKind.u64.wrap (48 + (u : Int).tmod 10)))] 5)).drew).mono ?_
             rintro e w8 ⟨rfl, hk8⟩
             have q := (hk8.cell (k := w.heap.size) (o := 0) (by simp) id).trans (cell_of_blk (heap_alloc_new w _) 0)
             have c8 := unhide HC8 w8 w.heap.size q
             have HK8 := hide (((Keeps.refl _ w).alloc _).drew.trans hk8)
             clear hk8))
      all_goals go_wp2_with fail
      all_goals go_ret
      all_goals first | exact ⟨rfl, (unhide HK7).alloc _⟩ | exact ⟨rfl, unhide HK8⟩
end Go.Proofs.YtbgapbaeegloaaaDoor
