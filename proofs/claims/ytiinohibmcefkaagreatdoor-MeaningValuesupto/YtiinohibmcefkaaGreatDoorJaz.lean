import Derived.Test.YtiinohibmcefkaaGreatDoorJzab
namespace Go.Proofs.YtiinohibmcefkaaGreatDoor
open Go.RowKit Go.Maps
set_option maxRecDepth 100000 in
set_option maxHeartbeats 800000 in
theorem checkExpr_v (Z : Zone) (op n : Int) (s : Txt) (kids : EL) (hsz : kids.size + 1 ≤ 4294967294) (w : World) (up : Nat) (v : Value) (hF : Forms w) (hS : SlE Z w up v kids) :
    Calls Tryz.prog 70 #[exV op n s v] w fun e w' => e = .returned (.int .i64 (checkE (.cons op n s kids .nil))) ∧ Keeps (fun _ => False) w w' := by
  obtain ⟨ao, cap, rfl, hc⟩ := hS.head
  have HK : Hid (Keeps (fun _ => False) w ((w.alloc (.cells #[.int .i64 op, .int .i64 n, str s, .slice ao kids.len cap] 27)).alloc (.cells #[.int .i64 op, .int .i64 n, str s, .slice ao kids.len cap] 27))) := hide (((Keeps.refl _ w).alloc _).alloc _)
  have hg : ((w.alloc (.cells #[.int .i64 op, .int .i64 n, str s, .slice ao kids.len cap] 27)).alloc (.cells #[.int .i64 op, .int .i64 n, str s, .slice ao kids.len cap] 27)).heap[w.heap.size + 1]? = some (.cells #[.int .i64 op, .int .i64 n, str s, .slice ao kids.len cap] 27 (0, 0)) := by
    have h := heap_alloc_new (w.alloc (.cells #[.int .i64 op, .int .i64 n, str s, .slice ao kids.len cap] 27)) (.cells #[.int .i64 op, .int .i64 n, str s, .slice ao kids.len cap] 27)
    simpa using h
  have hone := one_at hg (hS.keepF (unhide HK)) (Nat.le_refl 1) 0
  have hsz' : (EL.cons op n s kids .nil).size ≤ 4294967294 := by simp only [EL.size]; omega
  have HW := hide (exprsWellMade_v anyZ ((EL.cons op n s kids .nil).size + 1) (.cons op n s kids .nil) (by omega) hsz' _ 0 _ (hF.keepF (unhide HK)) hone)
  have HD := fun (w' : World) (hk : Keeps (fun _ => False) _ w') => hide (exprsDepth_v anyZ ((EL.cons op n s kids .nil).size + 1) (.cons op n s kids .nil) (by omega) hsz' w' 0 _ (hone.keepF hk))
  unfold checkE
  clear hF hS hg hone hsz'
  generalize wellE (.cons op n s kids .nil) = bw at HW ⊢
  generalize depthE (.cons op n s kids .nil) = nd at HD ⊢
  cases bw with
  | false =>
    rw [if_pos rfl]
    go_enter Tryz.func70, Tryz.ntmps70
    go_wp2_with (go_at_call 111; refine (unhide HW).mono ?_; rintro e w1 ⟨rfl, hk1⟩)
    go_ret
    exact ⟨rfl, (unhide HK).trans hk1⟩
  | true =>
    rw [if_neg (by simp)]
    by_cases h12 : 12 < nd
    · rw [if_pos h12]
      have g12 : (12 : Int) < (nd : Int) := by omega
      go_enter Tryz.func70, Tryz.ntmps70
      go_wp2_with (first
        | (go_at_call 111; refine (unhide HW).mono ?_; rintro e w1 ⟨rfl, hk1⟩; have HK1 := hide hk1; clear hk1)
        | (go_at_call 112; refine (unhide (HD _ (unhide HK1))).mono ?_; rintro e w2 ⟨rfl, hk2⟩; have HK2 := hide ((unhide HK1).trans hk2); clear hk2))
      go_ret
      exact ⟨rfl, (unhide HK).trans (unhide HK2)⟩
    · rw [if_neg h12]
      have g12 : ¬ (12 : Int) < (nd : Int) := by omega
      go_enter Tryz.func70, Tryz.ntmps70
      go_wp2_with (first
        | (go_at_call 111; refine (unhide HW).mono ?_; rintro e w1 ⟨rfl, hk1⟩; have HK1 := hide hk1; clear hk1)
        | (go_at_call 112; refine (unhide (HD _ (unhide HK1))).mono ?_; rintro e w2 ⟨rfl, hk2⟩; have HK2 := hide ((unhide HK1).trans hk2); clear hk2))
      go_ret
      exact ⟨rfl, (unhide HK).trans (unhide HK2)⟩
end Go.Proofs.YtiinohibmcefkaaGreatDoor
