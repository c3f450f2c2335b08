import Derived.Test.YtnaajeldbgmdjaaDoorEv
namespace Go.Proofs.YtnaajeldbgmdjaaDoor
open Go.RowKit Go.Maps

set_option maxRecDepth 100000 in
set_option maxHeartbeats 800000 in
theorem rCheck_v (Z : Zone) (l : SL) (hsz : l.size ≤ 2147483647) (w : World) (up : Nat) (v : Value) (hS : SlS Z w up v l) :
    Calls Tryd.prog 24 #[v] w fun e w' => e = .returned (.int .i64 (checkS l)) ∧ Keeps (fun _ => False) w w' := by
  have HW := hide (rWell_v Z (l.size + 1) l (by omega) hsz w up v hS)
  have HC := fun (w' : World) (hk : Keeps (fun _ => False) w w') => hide (rCount_v Z (l.size + 1) l (by omega) hsz w' up v (hS.keepF hk))
  have HD := fun (w' : World) (hk : Keeps (fun _ => False) w w') => hide (rDepth_v Z (l.size + 1) l (by omega) hsz w' up v (hS.keepF hk))
  obtain ⟨ao, cap, rfl, hc⟩ := hS.head
  unfold checkS
  clear hS
  generalize wellS l = bw at HW ⊢
  generalize countS l = nc at HC ⊢
  generalize depthS l = nd at HD ⊢
  cases bw with
  | false =>
    rw [if_pos rfl]
    go_enter Tryd.func24, Tryd.ntmps24
    go_wp2_with (go_at_call 46; refine (unhide HW).mono ?_; rintro e w1 ⟨rfl, hk1⟩)
    go_ret
    exact ⟨rfl, hk1⟩
  | true =>
    rw [if_neg (by simp)]
    by_cases h32 : 32 < nc
    · rw [if_pos h32]
      have g32 : (32 : Int) < (nc : Int) := by omega
      go_enter Tryd.func24, Tryd.ntmps24
      go_wp2_with (first
        | (go_at_call 46; refine (unhide HW).mono ?_; rintro e w1 ⟨rfl, hk1⟩; have HK1 := hide hk1; clear hk1)
        | (go_at_call 47; refine (unhide (HC _ (unhide HK1))).mono ?_; rintro e w2 ⟨rfl, hk2⟩; have HK2 := hide ((unhide HK1).trans hk2); clear hk2))
      go_ret
      exact ⟨rfl, unhide HK2⟩
    · rw [if_neg h32]
      have g32 : ¬ (32 : Int) < (nc : Int) := by omega
      by_cases h12 : 12 < nd
      · rw [if_pos h12]
        have g12 : (12 : Int) < (nd : Int) := by omega
        go_enter Tryd.func24, Tryd.ntmps24
        go_wp2_with (first
          | (go_at_call 46; refine (unhide HW).mono ?_; rintro e w1 ⟨rfl, hk1⟩; have HK1 := hide hk1; clear hk1)
          | (go_at_call 47; refine (unhide (HC _ (unhide HK1))).mono ?_; rintro e w2 ⟨rfl, hk2⟩; have HK2 := hide ((unhide HK1).trans hk2); clear hk2)
          | (go_at_call 48; refine (unhide (HD _ (unhide HK2))).mono ?_; rintro e w3 ⟨rfl, hk3⟩; have HK3 := hide ((unhide HK2).trans hk3); clear hk3))
        go_ret
        exact ⟨rfl, unhide HK3⟩
      · rw [if_neg h12]
        have g12 : ¬ (12 : Int) < (nd : Int) := by omega
        go_enter Tryd.func24, Tryd.ntmps24
        go_wp2_with (first
          | (go_at_call 46; refine (unhide HW).mono ?_; rintro e w1 ⟨rfl, hk1⟩; have HK1 := hide hk1; clear hk1)
          | (go_at_call 47; refine (unhide (HC _ (unhide HK1))).mono ?_; rintro e w2 ⟨rfl, hk2⟩; have HK2 := hide ((unhide HK1).trans hk2); clear hk2)
          | (go_at_call 48; refine (unhide (HD _ (unhide HK2))).mono ?_; rintro e w3 ⟨rfl, hk3⟩; have HK3 := hide ((unhide HK2).trans hk3); clear hk3))
        go_ret
        exact ⟨rfl, unhide HK3⟩

set_option maxRecDepth 100000 in
set_option maxHeartbeats 800000 in
theorem rCheckExpr_v (Z : Zone) (op n : Int) (s : Txt) (kids : EL) (hsz : kids.size + 1 ≤ 2147483647) (w : World) (up : Nat) (v : Value) (hS : SlE Z w up v kids) :
    Calls Tryd.prog 12 #[exV op n s v] w fun e w' => e = .returned (.int .i64 (checkE (.cons op n s kids .nil))) ∧ Keeps (fun _ => False) w w' := by
  have HW := fun (w' : World) (hk : Keeps (fun _ => False) w w') => hide (wellExpr_v Z (kids.size + 1) kids (by omega) (by omega) op n s w' up v (hS.keepF hk))
  have HD := fun (w' : World) (hk : Keeps (fun _ => False) w w') => hide (depthExpr_v Z (kids.size + 1) kids (by omega) (by omega) op n s w' up v (hS.keepF hk))
  obtain ⟨ao, cap, rfl, hc⟩ := hS.head
  have e1 : wellE (.cons op n s kids .nil) = (rootB op n s kids.len && wellE kids) := by simp [wellE]
  have e2 : depthE (.cons op n s kids .nil) = 1 + depthE kids := by simp [depthE]
  unfold checkE
  rw [e1, e2]
  clear hS e1 e2
  generalize (rootB op n s kids.len && wellE kids) = bw at HW ⊢
  generalize 1 + depthE kids = nd at HD ⊢
  obtain ⟨HB, hxb, hxc⟩ := boxedT w #[.int .i64 op, .int .i64 n, str s, .slice ao kids.len cap] 27
  have c0 := hxc 0 (.int .i64 op) rfl
  have c1 := hxc 1 (.int .i64 n) rfl
  have c2 := hxc 2 (str s) rfl
  have c3 := hxc 3 (.slice ao kids.len cap) rfl
  clear hxc
  cases bw with
  | false =>
    rw [if_pos rfl]
    go_enter Tryd.func12, Tryd.ntmps12
    go_wp2_with (go_at_call 36; refine (unhide (HW _ (unhide HB))).mono ?_; rintro e w1 ⟨rfl, hk1⟩)
    go_ret
    exact ⟨rfl, (unhide HB).trans hk1⟩
  | true =>
    rw [if_neg (by simp)]
    by_cases h12 : 12 < nd
    · rw [if_pos h12]
      have g12 : (12 : Int) < (nd : Int) := by omega
      go_enter Tryd.func12, Tryd.ntmps12
      go_wp2_with (first
        | (go_at_call 36; refine (unhide (HW _ (unhide HB))).mono ?_; rintro e w1 ⟨rfl, hk1⟩; have HK1 := hide ((unhide HB).trans hk1); have r0 := (hk1.cell (o := 0) hxb id).trans c0; have r1 := (hk1.cell (o := 1) hxb id).trans c1; have r2 := (hk1.cell (o := 2) hxb id).trans c2; have r3 := (hk1.cell (o := 3) hxb id).trans c3; clear hk1)
        | (go_at_call 37; refine (unhide (HD _ (unhide HK1))).mono ?_; rintro e w2 ⟨rfl, hk2⟩; have HK2 := hide ((unhide HK1).trans hk2); clear hk2))
      go_ret
      exact ⟨rfl, unhide HK2⟩
    · rw [if_neg h12]
      have g12 : ¬ (12 : Int) < (nd : Int) := by omega
      go_enter Tryd.func12, Tryd.ntmps12
      go_wp2_with (first
        | (go_at_call 36; refine (unhide (HW _ (unhide HB))).mono ?_; rintro e w1 ⟨rfl, hk1⟩; have HK1 := hide ((unhide HB).trans hk1); have r0 := (hk1.cell (o := 0) hxb id).trans c0; have r1 := (hk1.cell (o := 1) hxb id).trans c1; have r2 := (hk1.cell (o := 2) hxb id).trans c2; have r3 := (hk1.cell (o := 3) hxb id).trans c3; clear hk1)
        | (go_at_call 37; refine (unhide (HD _ (unhide HK1))).mono ?_; rintro e w2 ⟨rfl, hk2⟩; have HK2 := hide ((unhide HK1).trans hk2); clear hk2))
      go_ret
      exact ⟨rfl, unhide HK2⟩
end Go.Proofs.YtnaajeldbgmdjaaDoor
