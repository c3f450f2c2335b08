import Derived.Test.YtiinohibmcefkaaGreatDoorZa
namespace Go.Proofs.YtiinohibmcefkaaGreatDoor
open Go.RowKit Go.Maps

set_option maxRecDepth 100000 in
theorem near44 (w : World) (c : Nat) (n : Int) (d : Bool) (h : w.cell? ⟨c, 0, none⟩ = some (.int .i64 n)) :
    Calls Tryz.prog 38 #[.pointer (some ⟨c, 0, none⟩), .bool d] w fun e w' => e = .returned (.bool (d || decide (67108864 < n))) ∧ Keeps (fun _ => False) w w' := by
  go_enter Tryz.func38, Tryz.ntmps38
  cases d with
  | true =>
    go_wp2_with fail
    go_ret
    exact ⟨by first | rfl | simp, Keeps.refl _ _⟩
  | false =>
    go_wp2_with fail
    go_ret
    exact ⟨by first | rfl | simp, Keeps.refl _ _⟩
set_option maxRecDepth 100000 in
set_option maxHeartbeats 800000 in
/-- Would the expressions be too great, if more were built round them? -/
theorem near_v (B up : Nat) (l : EL) (v : Value) (w : World) (hB : B ≤ w.heap.size) (hS : SlE (argZ B) w up v l) :
    Calls Tryz.prog 9 #[v] w fun e w' => ∃ r : Bool, e = .returned (.bool r) ∧ Keeps (fun _ => False) w w' ∧ (r = false → l.size ≤ 67108864) := by
  have HS := hide (hS.keepF ((Keeps.refl _ w).alloc (.cells #[.int .i64 0] 80)))
  have HK : Hid (Keeps (fun _ => False) w (w.alloc (.cells #[.int .i64 0] 80))) := hide ((Keeps.refl _ w).alloc _)
  obtain ⟨ao, cap, rfl, hc⟩ := hS.head
  clear hS
  go_enter Tryz.func9, Tryz.ntmps9
  go_wp2_with fail
  refine (parts_exprs B w.heap.size hB (l.size + 1) l (by omega) _ up _ 0 65528 (unhide HS) (heap_alloc_new w _) (by omega) (by omega) (by omega) (by omega)).mono ?_
  rintro e w1 ⟨r, n1, rfl, hc1, hk1, hn1, hr1⟩
  have m0 := (cell_of_blk hc1 0).trans rfl
  have HKE := hide (keeps_new (unhide HK) hk1)
  have HR1 := hide hr1
  clear hc1 hk1 hr1 HS
  cases r with
  | true =>
    go_wp2_with fail
    refine (near44 w1 w.heap.size n1 true m0).mono ?_
    rintro e w2 ⟨rfl, hk2⟩
    have HK2 := hide ((unhide HKE).trans hk2)
    clear hk2
    go_wp2_with fail
    go_ret
    exact ⟨true, by first | rfl | simp, unhide HK2, fun h => by cases h⟩
  | false =>
    go_wp2_with fail
    refine (near44 w1 w.heap.size n1 false m0).mono ?_
    rintro e w2 ⟨rfl, hk2⟩
    have HK2 := hide ((unhide HKE).trans hk2)
    clear hk2
    go_wp2_with fail
    go_ret
    exact ⟨decide (67108864 < n1), by first | rfl | simp, unhide HK2, fun h => by have := (unhide HR1 (by first | rfl | trivial)).1; have h2 : ¬ (67108864 < n1) := by simpa using h
                                                                                  omega⟩
end Go.Proofs.YtiinohibmcefkaaGreatDoor
