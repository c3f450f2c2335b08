import Derived.Test.YtjhppnecadnekaaDoorEl
namespace Go.Proofs.YtjhppnecadnekaaDoor
open Go.RowKit Go.Maps

/-- Anywhere. -/
def anyZ : Zone := ⟨fun _ _ _ => True, fun _ _ => True, fun _ _ h => h⟩
theorem ExIn.any {Z : Zone} {w : World} : ∀ {l : EL} {b o : Nat}, ExIn Z w l b o → ExIn anyZ w l b o
  | .nil, _, _, _ => trivial
  | .cons op n s kids rest, b, o, ⟨h1, _, h3, h4, h5, ⟨ao, cap, h6, h7, h8⟩, h9⟩ =>
    ⟨h1, trivial, h3, h4, h5, ⟨ao, cap, h6, h7, fun h0 => by
      obtain ⟨b', o', e, _, hr⟩ := h8 h0
      exact ⟨b', o', e, trivial, hr.any⟩⟩, h9.any⟩
theorem SlE.any {Z : Zone} {w : World} {up : Nat} {v : Value} {l : EL} (h : SlE Z w up v l) (up' : Nat) : SlE anyZ w up' v l := by
  obtain ⟨ao, cap, e, hc, hr⟩ := h
  refine ⟨ao, cap, e, hc, fun h0 => ?_⟩
  obtain ⟨b, o, e1, _, hx⟩ := hr h0
  exact ⟨b, o, e1, trivial, hx.any⟩

set_option maxRecDepth 100000 in
set_option maxHeartbeats 800000 in
theorem check_v (Z : Zone) (l : SL) (hsz : l.size ≤ 4294967294) (w : World) (up : Nat) (v : Value) (hF : Forms w) (hS : SlS Z w up v l) :
    Calls Tryd.prog 41 #[v] w fun e w' => e = .returned (.int .i64 (checkS l)) ∧ Keeps (fun _ => False) w w' := by
  have HW := hide (wellMade_v Z (l.size + 1) l (by omega) hsz w up v hF hS)
  have HC := fun (w' : World) (hk : Keeps (fun _ => False) w w') => hide (count_v Z (l.size + 1) l (by omega) hsz w' up v (hS.keepF hk))
  have HD := fun (w' : World) (hk : Keeps (fun _ => False) w w') => hide (depth_v Z (l.size + 1) l (by omega) hsz w' up v (hS.keepF hk))
  obtain ⟨ao, cap, rfl, hc⟩ := hS.head
  unfold checkS
  clear hF hS
  generalize wellS l = bw at HW ⊢
  generalize countS l = nc at HC ⊢
  generalize depthS l = nd at HD ⊢
  cases bw with
  | false =>
    rw [if_pos rfl]
    go_enter Tryd.func41, Tryd.ntmps41
    go_wp2_with (go_at_call 63; refine (unhide HW).mono ?_; rintro e w1 ⟨rfl, hk1⟩)
    go_ret
    exact ⟨rfl, hk1⟩
  | true =>
    rw [if_neg (by simp)]
    by_cases h32 : 32 < nc
    · rw [if_pos h32]
      have g32 : (32 : Int) < (nc : Int) := by omega
      go_enter Tryd.func41, Tryd.ntmps41
      go_wp2_with (first
        | (go_at_call 63; refine (unhide HW).mono ?_; rintro e w1 ⟨rfl, hk1⟩; have HK1 := hide hk1; clear hk1)
        | (go_at_call 64; refine (unhide (HC _ (unhide HK1))).mono ?_; rintro e w2 ⟨rfl, hk2⟩; have HK2 := hide ((unhide HK1).trans hk2); clear hk2))
      go_ret
      exact ⟨rfl, unhide HK2⟩
    · rw [if_neg h32]
      have g32 : ¬ (32 : Int) < (nc : Int) := by omega
      by_cases h12 : 12 < nd
      · rw [if_pos h12]
        have g12 : (12 : Int) < (nd : Int) := by omega
        go_enter Tryd.func41, Tryd.ntmps41
        go_wp2_with (first
          | (go_at_call 63; refine (unhide HW).mono ?_; rintro e w1 ⟨rfl, hk1⟩; have HK1 := hide hk1; clear hk1)
          | (go_at_call 64; refine (unhide (HC _ (unhide HK1))).mono ?_; rintro e w2 ⟨rfl, hk2⟩; have HK2 := hide ((unhide HK1).trans hk2); clear hk2)
          | (go_at_call 65; refine (unhide (HD _ (unhide HK2))).mono ?_; rintro e w3 ⟨rfl, hk3⟩; have HK3 := hide ((unhide HK2).trans hk3); clear hk3))
        go_ret
        exact ⟨rfl, unhide HK3⟩
      · rw [if_neg h12]
        have g12 : ¬ (12 : Int) < (nd : Int) := by omega
        go_enter Tryd.func41, Tryd.ntmps41
        go_wp2_with (first
          | (go_at_call 63; refine (unhide HW).mono ?_; rintro e w1 ⟨rfl, hk1⟩; have HK1 := hide hk1; clear hk1)
          | (go_at_call 64; refine (unhide (HC _ (unhide HK1))).mono ?_; rintro e w2 ⟨rfl, hk2⟩; have HK2 := hide ((unhide HK1).trans hk2); clear hk2)
          | (go_at_call 65; refine (unhide (HD _ (unhide HK2))).mono ?_; rintro e w3 ⟨rfl, hk3⟩; have HK3 := hide ((unhide HK2).trans hk3); clear hk3))
        go_ret
        exact ⟨rfl, unhide HK3⟩

/-- A list of one expression. -/
theorem one_at {Z : Zone} {w : World} {g : Nat} {op n : Int} {s : Txt} {v : Value} {t : TypeId} {fr : Nat × Nat} {kids : EL} {up c : Nat} (hb : w.heap[g]? = some (.cells #[.int .i64 op, .int .i64 n, str s, v] t fr)) (hS : SlE Z w up v kids) (hc : 1 ≤ c) (up' : Nat) :
    SlE anyZ w up' (.slice (some ⟨g, 0, none⟩) 1 c) (.cons op n s kids .nil) := by
  obtain ⟨ao, cap, rfl, hl, hr⟩ := hS.any g
  refine ⟨_, c, rfl, hc, fun _ => ⟨g, 0, rfl, trivial, lt_of_block hb, trivial, ?_, ?_, ?_, ⟨ao, cap, ?_, hl, hr⟩, trivial⟩⟩
  all_goals (rw [cell_of_blk hb]; rfl)

end Go.Proofs.YtjhppnecadnekaaDoor
