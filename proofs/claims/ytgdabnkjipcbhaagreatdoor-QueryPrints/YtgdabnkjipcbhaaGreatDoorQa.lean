import Derived.Test.YtgdabnkjipcbhaaGreatDoorQ8
import Derived.Test.YtgdabnkjipcbhaaGreatDoorDc
namespace Go.Proofs.YtgdabnkjipcbhaaGreatDoor
open Go.RowKit Go.Maps

set_option maxRecDepth 100000 in
set_option maxHeartbeats 4000000 in
theorem rverb_v (k : Int) (w : World) : Calls Tryz.prog 20 #[.int .i64 k] w fun e w' => e = .returned (str (verbT k)) ∧ w' = w := by
  unfold verbT
  by_cases h1 : k = 1
  · subst h1; go_enter Tryz.func20, Tryz.ntmps20
    go_wp2_with fail
    go_ret
    exact ⟨rfl, rfl⟩
  rw [if_neg h1]
  have e1 : (k == 1) = false := by simpa using h1
  by_cases h2 : k = 2
  · subst h2; go_enter Tryz.func20, Tryz.ntmps20
    go_wp2_with fail
    go_ret
    exact ⟨rfl, rfl⟩
  rw [if_neg h2]
  have e2 : (k == 2) = false := by simpa using h2
  by_cases h3 : k = 3
  · subst h3; go_enter Tryz.func20, Tryz.ntmps20
    go_wp2_with fail
    go_ret
    exact ⟨rfl, rfl⟩
  rw [if_neg h3]
  have e3 : (k == 3) = false := by simpa using h3
  by_cases h4 : k = 4
  · subst h4; go_enter Tryz.func20, Tryz.ntmps20
    go_wp2_with fail
    go_ret
    exact ⟨rfl, rfl⟩
  rw [if_neg h4]
  have e4 : (k == 4) = false := by simpa using h4
  by_cases h5 : k = 5
  · subst h5; go_enter Tryz.func20, Tryz.ntmps20
    go_wp2_with fail
    go_ret
    exact ⟨rfl, rfl⟩
  rw [if_neg h5]
  have e5 : (k == 5) = false := by simpa using h5
  by_cases h6 : k = 6
  · subst h6; go_enter Tryz.func20, Tryz.ntmps20
    go_wp2_with fail
    go_ret
    exact ⟨rfl, rfl⟩
  rw [if_neg h6]
  have e6 : (k == 6) = false := by simpa using h6
  clear h1 h2 h3 h4 h5 h6
  go_enter Tryz.func20, Tryz.ntmps20
  go_wp2_with fail
  go_ret
  exact ⟨rfl, rfl⟩

/-- Cells that hold expressions whose kids lie in a zone. -/
def Cs (Z : Zone) (w : World) : EL → List Value → Prop
  | .nil, xs => xs = []
  | .cons op n s kids rest, xs => ∃ kv up xs', xs = .int .i64 op :: .int .i64 n :: str s :: kv :: xs' ∧ SlE Z w up kv kids ∧ Cs Z w rest xs'
theorem Cs.keepF {Z : Zone} {w w' : World} (hk : Keeps (fun _ => False) w w') : ∀ {l : EL} {xs : List Value}, Cs Z w l xs → Cs Z w' l xs
  | .nil, _, h => h
  | .cons _ _ _ _ _, _, ⟨kv, up, xs', e, h1, h2⟩ => ⟨kv, up, xs', e, h1.keepF hk, h2.keepF hk⟩
theorem Cs.keepA {B : Nat} {F : Nat → Prop} {w w' : World} (hk : Keeps F w w') (hF : ∀ k, k < B → ¬ F k) : ∀ {l : EL} {xs : List Value}, Cs (belZ B) w l xs → Cs (belZ B) w' l xs
  | .nil, _, h => h
  | .cons _ _ _ _ _, _, ⟨kv, up, xs', e, h1, h2⟩ => ⟨kv, up, xs', e, h1.inKeep hk (fun q _ (hq : q < B) => hF q hq), h2.keepA hk hF⟩
theorem Cs.length {Z : Zone} {w : World} : ∀ {l : EL} {xs : List Value}, Cs Z w l xs → xs.length = l.len * 4
  | .nil, _, h => by have h' : _ = _ := h; subst h'; rfl
  | .cons _ _ _ _ r, _, ⟨kv, up, xs', e, _, h⟩ => by have := Cs.length h; subst e; simp [EL.len, this]; omega
theorem Cs.app {Z : Zone} {w : World} : ∀ {l : EL} {xs : List Value} {m : EL} {ys : List Value}, Cs Z w l xs → Cs Z w m ys → Cs Z w (l.app m) (xs ++ ys)
  | .nil, _, _, _, h, h2 => by have h' : _ = _ := h; subst h'; exact h2
  | .cons _ _ _ _ r, _, _, _, ⟨kv, up, xs', e, h1, h⟩, h2 => by subst e; exact ⟨kv, up, _, rfl, h1, h.app h2⟩
/-- The cells of a list that lies somewhere. -/
theorem ExIn.cs {Z : Zone} {w : World} : ∀ {l : EL} {b o : Nat}, ExIn Z w l b o → ∃ xs, Cs Z w l xs ∧ ∀ j x, xs[j]? = some x → w.cell? ⟨b, o + j, none⟩ = some x
  | .nil, _, _, _ => ⟨[], rfl, fun j x h => by simp at h⟩
  | .cons op n s kids rest, b, o, ⟨h1, h2, h3, h4, h5, ⟨ao, cap, h6, h7, h8⟩, h9⟩ => by
    obtain ⟨xs, hx, hc⟩ := h9.cs
    refine ⟨_, ⟨.slice ao kids.len cap, b, xs, rfl, ⟨ao, cap, rfl, h7, h8⟩, hx⟩, fun j x hj => ?_⟩
    rcases j with _ | _ | _ | _ | j
    · simp at hj; subst hj; exact h3
    · simp at hj; subst hj; exact h4
    · simp at hj; subst hj; exact h5
    · simp at hj; subst hj; exact h6
    · have := hc j x (by simpa using hj)
      rwa [show o + (j + 1 + 1 + 1 + 1) = o + 4 + j by omega]
theorem Cs.one {Z : Zone} {w : World} : ∀ {l : EL} {xs : List Value}, Cs Z w l xs → ∀ u ∈ xs, u.oneCell' = true
  | .nil, _, h, u, hu => by have h' : _ = _ := h; subst h'; simp at hu
  | .cons _ _ _ _ r, _, ⟨kv, up, xs', e, h1, h⟩, u, hu => by
    subst e
    obtain ⟨ao, cap, rfl, _⟩ := h1.head
    simp only [List.mem_cons] at hu
    rcases hu with rfl | rfl | rfl | rfl | hu
    · rfl
    · rfl
    · rfl
    · rfl
    · exact h.one u hu
end Go.Proofs.YtgdabnkjipcbhaaGreatDoor
