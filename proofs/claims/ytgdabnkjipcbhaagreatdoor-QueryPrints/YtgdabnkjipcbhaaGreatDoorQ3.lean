import Derived.Test.YtgdabnkjipcbhaaGreatDoorQ1
namespace Go.Proofs.YtgdabnkjipcbhaaGreatDoor
open Go.RowKit Go.Maps

/-- The words of the verbs. -/
def verbT (k : Int) : Txt := if k = 1 then [114, 111, 119, 115] else if k = 2 then [99, 111, 117, 110, 116] else if k = 3 then [115, 117, 109] else if k = 4 then [109, 105, 110] else if k = 5 then [109, 97, 120] else if k = 6 then [97, 110, 121] else [97, 108, 108]
/-- One row of the table of verbs. -/
def VerbAt (w : World) (g i : Nat) : Prop := ∃ (tok : Int) (n c : Nat) (ao : Option Addr) (fn : Fn) (ca : Array Value), w.cell? ⟨g, i * 5, none⟩ = some (.int .i64 ((i : Int) + 1)) ∧ w.cell? ⟨g, i * 5 + 1, none⟩ = some (.int .i64 tok) ∧ w.cell? ⟨g, i * 5 + 2, none⟩ = some (str (verbT ((i : Int) + 1))) ∧ w.cell? ⟨g, i * 5 + 3, none⟩ = some (.slice ao n c) ∧ w.cell? ⟨g, i * 5 + 4, none⟩ = some (.func fn #[] ca) ∧ (n = 0 ↔ i < 2)
def VerbsAt (w : World) (g : Nat) : Prop := g < w.heap.size ∧ ∀ i, i < 7 → VerbAt w g i
theorem VerbsAt.keepF {w w' : World} {g : Nat} (h : VerbsAt w g) (hk : Keeps (fun _ => False) w w') : VerbsAt w' g := by
  refine ⟨Nat.lt_of_lt_of_le h.1 hk.size, fun i hi => ?_⟩
  obtain ⟨tok, n, c, ao, fn, ca, h1, h2, h3, h4, h5, h6⟩ := h.2 i hi
  exact ⟨tok, n, c, ao, fn, ca, (hk.cell h.1 id).trans h1, (hk.cell h.1 id).trans h2, (hk.cell h.1 id).trans h3, (hk.cell h.1 id).trans h4, (hk.cell h.1 id).trans h5, h6⟩

set_option maxRecDepth 100000 in
theorem valued_v (m : Nat) (w : World) : Calls Tryz.prog 37 #[.func (.func m) #[] #[]] w fun e w' => e = .returned (.func (.func 59) #[] #[.pointer (some ⟨w.heap.size, 0, none⟩)]) ∧ Keeps (fun _ => False) w w' := by
  have hmf : ∀ (fn : Fn) (first cap : Array Value) (w : World), (Instr.makeFunc fn first cap).run Tryz.prog w = .ok (.func fn first cap) w := fun _ _ _ _ => rfl
  go_enter Tryz.func37, Tryz.ntmps37
  go_wp2_with fail
  go_ret
  exact ⟨rfl, (Keeps.refl _ _).alloc _⟩

set_option maxRecDepth 100000 in
set_option maxHeartbeats 4000000 in
theorem verbs_v (w : World) : Calls Tryz.prog 24 #[] w fun e w' => ∃ g, e = .returned (.slice (some ⟨g, 0, none⟩) 7 7) ∧ w.heap.size ≤ g ∧ VerbsAt w' g ∧ Keeps (fun _ => False) w w' := by
  have HK := hide (Keeps.refl (fun _ => False) w)
  go_enter Tryz.func24, Tryz.ntmps24
  go_wp2_with (go_at_call 37; refine (valued_v _ _).mono ?_; rintro e w1 ⟨rfl, hk1⟩; replace HK := hide (by first | exact (unhide HK).trans hk1 | exact ((unhide HK).alloc _).trans hk1 : Keeps (fun _ => False) w w1); clear hk1)
  go_ret
  refine ⟨_, rfl, (unhide HK).size, ⟨by simp, ?_⟩, (unhide HK).alloc _⟩
  intro i hi
  rcases i with _ | _ | _ | _ | _ | _ | _ | i
  · exact ⟨_, 0, _, _, _, _, (cell_of_blk (heap_alloc_new _ _) _).trans rfl, (cell_of_blk (heap_alloc_new _ _) _).trans rfl, (cell_of_blk (heap_alloc_new _ _) _).trans rfl, (cell_of_blk (heap_alloc_new _ _) _).trans rfl, (cell_of_blk (heap_alloc_new _ _) _).trans rfl, by omega⟩
  · exact ⟨_, 0, _, _, _, _, (cell_of_blk (heap_alloc_new _ _) _).trans rfl, (cell_of_blk (heap_alloc_new _ _) _).trans rfl, (cell_of_blk (heap_alloc_new _ _) _).trans rfl, (cell_of_blk (heap_alloc_new _ _) _).trans rfl, (cell_of_blk (heap_alloc_new _ _) _).trans rfl, by omega⟩
  · exact ⟨_, 1, _, _, _, _, (cell_of_blk (heap_alloc_new _ _) _).trans rfl, (cell_of_blk (heap_alloc_new _ _) _).trans rfl, (cell_of_blk (heap_alloc_new _ _) _).trans rfl, (cell_of_blk (heap_alloc_new _ _) _).trans rfl, (cell_of_blk (heap_alloc_new _ _) _).trans rfl, by omega⟩
  · exact ⟨_, 2, _, _, _, _, (cell_of_blk (heap_alloc_new _ _) _).trans rfl, (cell_of_blk (heap_alloc_new _ _) _).trans rfl, (cell_of_blk (heap_alloc_new _ _) _).trans rfl, (cell_of_blk (heap_alloc_new _ _) _).trans rfl, (cell_of_blk (heap_alloc_new _ _) _).trans rfl, by omega⟩
  · exact ⟨_, 2, _, _, _, _, (cell_of_blk (heap_alloc_new _ _) _).trans rfl, (cell_of_blk (heap_alloc_new _ _) _).trans rfl, (cell_of_blk (heap_alloc_new _ _) _).trans rfl, (cell_of_blk (heap_alloc_new _ _) _).trans rfl, (cell_of_blk (heap_alloc_new _ _) _).trans rfl, by omega⟩
  · exact ⟨_, 1, _, _, _, _, (cell_of_blk (heap_alloc_new _ _) _).trans rfl, (cell_of_blk (heap_alloc_new _ _) _).trans rfl, (cell_of_blk (heap_alloc_new _ _) _).trans rfl, (cell_of_blk (heap_alloc_new _ _) _).trans rfl, (cell_of_blk (heap_alloc_new _ _) _).trans rfl, by omega⟩
  · exact ⟨_, 1, _, _, _, _, (cell_of_blk (heap_alloc_new _ _) _).trans rfl, (cell_of_blk (heap_alloc_new _ _) _).trans rfl, (cell_of_blk (heap_alloc_new _ _) _).trans rfl, (cell_of_blk (heap_alloc_new _ _) _).trans rfl, (cell_of_blk (heap_alloc_new _ _) _).trans rfl, by omega⟩
  · omega

set_option maxRecDepth 100000 in
set_option maxHeartbeats 2000000 in
theorem isVerb_v (k vk tok : Int) (n c : Nat) (ao : Option Addr) (s : Txt) (f : Value) (qb : Nat) (w : World) (hq : w.cell? ⟨qb, 1, none⟩ = some (.int .i64 k)) (hl : qb < w.heap.size) :
    Calls Tryz.prog 26 #[.agg #[.int .i64 vk, .int .i64 tok, str s, .slice ao n c, f], .pointer (some ⟨qb, 0, none⟩)] w fun e w' => e = .returned (.bool (decide (vk = k))) ∧ Keeps (fun _ => False) w w' := by
  obtain ⟨HX, hxb, hxc⟩ := boxedT w #[.int .i64 vk, .int .i64 tok, str s, .slice ao n c, f] 40
  have c0 := hxc 0 (.int .i64 vk) rfl
  have q1 := ((unhide HX).cell (o := 1) hl id).trans hq
  clear hxc hq
  go_enter Tryz.func26, Tryz.ntmps26
  go_wp2_with fail
  go_ret
  exact ⟨ret_bool (by rw [Bool.eq_iff_iff]; simp), unhide HX⟩

set_option maxRecDepth 100000 in
set_option maxHeartbeats 4000000 in
theorem index_v (k : Int) (g qb : Nat) (w : World) (hV : VerbsAt w g) (hq : w.cell? ⟨qb, 1, none⟩ = some (.int .i64 k)) (hl : qb < w.heap.size) :
    Calls Tryz.prog 25 #[.slice (some ⟨g, 0, none⟩) 7 7, .func (.func 26) #[] #[.pointer (some ⟨qb, 0, none⟩)]] w fun e w' => e = .returned (.int .i64 (if 1 ≤ k ∧ k ≤ 7 then k - 1 else -1)) ∧ Keeps (fun _ => False) w w' := by
  obtain ⟨R, hR⟩ : ∃ R : Int, R = (if 1 ≤ k ∧ k ≤ 7 then k - 1 else -1) := ⟨_, rfl⟩
  rw [← hR]
  have HR := hide hR
  have HV := hide hV
  have HQ := hide hq
  clear hV hq hR
  go_enter Tryz.func25, Tryz.ntmps25
  go_wp2_with fail
  go_loopw [8] (fun i wr => ∃ j : Nat, j ≤ 7 ∧ i = .int .i64 (j : Int) ∧ Hid (∀ m : Nat, m < j → k ≠ (m : Int) + 1) ∧ Hid (Keeps (fun _ => False) w wr)) (fun i _ => 7 - (intOf i).toNat)
  case atStart => exact ⟨0, by omega, rfl, fun m hm => by omega, hide (Keeps.refl _ _)⟩
  case round =>
    obtain ⟨j, hj, rfl, HN, HK⟩ := hrel
    by_cases hlt : j < 7
    · obtain ⟨tok, n, c, ao, fn, ca, h1, h2, h3, h4, h5, _⟩ := ((unhide HV).keepF (unhide HK)).2 j hlt
      have i1 : (j : Int) < 7 := by omega
      have HC := hide (isVerb_v k ((j : Int) + 1) tok n c ao (verbT ((j : Int) + 1)) (.func fn #[] ca) qb wr (((unhide HK).cell hl id).trans (unhide HQ)) (Nat.lt_of_lt_of_le hl (unhide HK).size))
      go_wp2_with (go_at_call 26; refine (unhide HC).mono ?_; rintro e w1 ⟨rfl, hk1⟩; have HK1 := hide ((unhide HK).trans hk1); clear hk1)
      · go_ret
        refine ⟨ret_int ?_, unhide HK1⟩
        have hkj : (j : Int) + 1 = k := by first | assumption | simp_all
        rw [unhide HR, if_pos (by omega)]
        omega
      · go_roundw
        case rel =>
          have hkj : ¬ (j : Int) + 1 = k := by first | assumption | simp_all
          refine ⟨j + 1, by omega, by go_num, hide (fun m hm => ?_), HK1⟩
          rcases Nat.lt_or_eq_of_le (Nat.le_of_lt_succ hm) with h | h
          · exact unhide HN m h
          · subst h; omega
        case measure => simp [intOf]; omega
    · obtain rfl : j = 7 := by omega
      go_wp2_with fail
      go_ret
      refine ⟨ret_int ?_, unhide HK⟩
      rw [unhide HR, if_neg (fun hc => by have := unhide HN (k.toNat - 1) (by omega); omega)]
end Go.Proofs.YtgdabnkjipcbhaaGreatDoor
