import Derived.Test.YtiinohibmcefkaaGreatDoorZzay
namespace Go.Proofs.YtiinohibmcefkaaGreatDoor
open Go.RowKit Go.Maps

set_option maxRecDepth 100000 in
theorem takes_v (j : Nat) (is : Int) (ts : List Int) (tv : Value) (w : World) (h : IntsAt w tv ts) :
    Calls Tryz.prog 175 #[.int .i64 is, tv] w fun e w' => ∃ fv, e = .returned fv ∧ RuleV w' j (.takes is ts) fv ∧ Keeps (fun _ => False) w w' := by
  obtain ⟨to, tc, rfl⟩ := RowAt.form h
  have hk : Keeps (fun _ => False) w ((w.alloc (.cells #[.int .i64 is] 3)).alloc (.cells #[.slice to ts.length tc] 206)) := ((Keeps.refl _ w).alloc _).alloc _
  have h1 : ((w.alloc (.cells #[.int .i64 is] 3)).alloc (.cells #[.slice to ts.length tc] 206)).cell? ⟨w.heap.size, 0, none⟩ = some (.int .i64 is) :=
    cell_past (by simp) (by rw [cell_of_blk (heap_alloc_new w _)]; rfl) _
  have e1 : (w.alloc (.cells #[.int .i64 is] 3)).heap.size = w.heap.size + 1 := by simp
  have h2 : ((w.alloc (.cells #[.int .i64 is] 3)).alloc (.cells #[.slice to ts.length tc] 206)).cell? ⟨w.heap.size + 1, 0, none⟩ = some (.slice to ts.length tc) := by
    have := heap_alloc_new (w.alloc (.cells #[.int .i64 is] 3)) (.cells #[.slice to ts.length tc] 206)
    rw [e1] at this
    rw [cell_of_blk this]; rfl
  have HR : Hid (RuleV ((w.alloc (.cells #[.int .i64 is] 3)).alloc (.cells #[.slice to ts.length tc] 206)) j (.takes is ts) (.func (.func 207) #[] #[.pointer (some ⟨w.heap.size + 1, 0, none⟩), .pointer (some ⟨w.heap.size, 0, none⟩)])) :=
    ⟨_, _, _, rfl, by simp; omega, by simp, h1, h2, h.keepF hk⟩
  have HK := hide hk
  have hmf : ∀ (fn : Fn) (first cap : Array Value) (w : World), (Instr.makeFunc fn first cap).run Tryz.prog w = .ok (.func fn first cap) w := fun _ _ _ _ => rfl
  clear h h1 h2 hk e1
  go_enter Tryz.func175, Tryz.ntmps175
  go_wp2_with fail
  go_ret
  exact ⟨_, rfl, unhide HR, unhide HK⟩
set_option maxRecDepth 100000 in
theorem compares_v (j : Nat) (ts : List Int) (tv : Value) (w : World) (h : IntsAt w tv ts) :
    Calls Tryz.prog 178 #[tv] w fun e w' => ∃ fv, e = .returned fv ∧ RuleV w' j (.compares ts) fv ∧ Keeps (fun _ => False) w w' := by
  obtain ⟨to, tc, rfl⟩ := RowAt.form h
  have hk : Keeps (fun _ => False) w (w.alloc (.cells #[.slice to ts.length tc] 206)) := (Keeps.refl _ w).alloc _
  have h1 : (w.alloc (.cells #[.slice to ts.length tc] 206)).cell? ⟨w.heap.size, 0, none⟩ = some (.slice to ts.length tc) := by rw [cell_of_blk (heap_alloc_new w _)]; rfl
  have HR : Hid (RuleV (w.alloc (.cells #[.slice to ts.length tc] 206)) j (.compares ts) (.func (.func 213) #[] #[.pointer (some ⟨w.heap.size, 0, none⟩)])) :=
    ⟨_, _, rfl, by simp, h1, h.keepF hk⟩
  have HK := hide hk
  have hmf : ∀ (fn : Fn) (first cap : Array Value) (w : World), (Instr.makeFunc fn first cap).run Tryz.prog w = .ok (.func fn first cap) w := fun _ _ _ _ => rfl
  clear h h1 hk
  go_enter Tryz.func178, Tryz.ntmps178
  go_wp2_with fail
  go_ret
  exact ⟨_, rfl, unhide HR, unhide HK⟩
/-- Rules that were made so far. -/
structure Bun (W0 : World) (j : Nat) (L : List (RuleA × Value)) (w : World) : Prop where
  kept : Keeps (fun _ => False) W0 w
  all : ∀ p ∈ L, RuleV w j p.1 p.2
theorem Bun.snoc {W0 : World} {j : Nat} {L : List (RuleA × Value)} {w w' : World} (h : Bun W0 j L w) (hk : Keeps (fun _ => False) w w') {r : RuleA} {fv : Value} (hr : RuleV w' j r fv) : Bun W0 j (L ++ [(r, fv)]) w' :=
  ⟨h.kept.trans hk, fun p hp => by
    rcases List.mem_append.1 hp with hp | hp
    · exact (h.all p hp).keepF hk
    · obtain rfl : p = (r, fv) := by simpa using hp
      exact hr⟩
theorem takes_named {W0 w' : World} {j : Nat} {L : List (RuleA × Value)} {is : Int} {ts : List Int} {fv : Value} {e : Ending} (he : e = .returned fv) (hr : RuleV w' j (.takes is ts) fv) (h : Bun W0 j (L ++ [(.takes is ts, fv)]) w') :
    ∃ tb ib, e = .returned (.func (.func 207) #[] #[.pointer (some ⟨tb, 0, none⟩), .pointer (some ⟨ib, 0, none⟩)]) ∧ Bun W0 j (L ++ [(.takes is ts, (.func (.func 207) #[] #[.pointer (some ⟨tb, 0, none⟩), .pointer (some ⟨ib, 0, none⟩)]))]) w' := by
  obtain ⟨tb, ib, _, rfl, _⟩ := hr
  exact ⟨tb, ib, he, h⟩
theorem compares_named {W0 w' : World} {j : Nat} {L : List (RuleA × Value)} {ts : List Int} {fv : Value} {e : Ending} (he : e = .returned fv) (hr : RuleV w' j (.compares ts) fv) (h : Bun W0 j (L ++ [(.compares ts, fv)]) w') :
    ∃ tb, e = .returned (.func (.func 213) #[] #[.pointer (some ⟨tb, 0, none⟩)]) ∧ Bun W0 j (L ++ [(.compares ts, (.func (.func 213) #[] #[.pointer (some ⟨tb, 0, none⟩)]))]) w' := by
  obtain ⟨tb, _, rfl, _⟩ := hr
  exact ⟨tb, he, h⟩
section
variable {W0 : World} {j : Nat} {L : List (RuleA × Value)} {w : World}
theorem takes0 (h : Bun W0 j L w) (is : Int) : Calls Tryz.prog 175 #[.int .i64 is, .slice none 0 0] w fun e w' => ∃ tb ib, e = .returned (.func (.func 207) #[] #[.pointer (some ⟨tb, 0, none⟩), .pointer (some ⟨ib, 0, none⟩)]) ∧ Bun W0 j (L ++ [(.takes is [], (.func (.func 207) #[] #[.pointer (some ⟨tb, 0, none⟩), .pointer (some ⟨ib, 0, none⟩)]))]) w' :=
  (takes_v j is [] _ w (ints_nil w)).mono fun _ _ ⟨_, he, hr, hk⟩ => takes_named he hr (h.snoc hk hr)
theorem takes1 (h : Bun W0 j L w) (is t : Int) : Calls Tryz.prog 175 #[.int .i64 is, .slice (some ⟨w.heap.size, 0, none⟩) 1 1] (w.alloc (.cells #[.int .i64 t] 3)) fun e w' => ∃ tb ib, e = .returned (.func (.func 207) #[] #[.pointer (some ⟨tb, 0, none⟩), .pointer (some ⟨ib, 0, none⟩)]) ∧ Bun W0 j (L ++ [(.takes is [t], (.func (.func 207) #[] #[.pointer (some ⟨tb, 0, none⟩), .pointer (some ⟨ib, 0, none⟩)]))]) w' :=
  (takes_v j is [t] _ _ (ints_new w [t] 3 1 rfl)).mono fun _ _ ⟨_, he, hr, hk⟩ => takes_named he hr (h.snoc (((Keeps.refl _ w).alloc _).trans hk) hr)
theorem takes2 (h : Bun W0 j L w) (is t u : Int) : Calls Tryz.prog 175 #[.int .i64 is, .slice (some ⟨w.heap.size, 0, none⟩) 2 2] (w.alloc (.cells #[.int .i64 t, .int .i64 u] 3)) fun e w' => ∃ tb ib, e = .returned (.func (.func 207) #[] #[.pointer (some ⟨tb, 0, none⟩), .pointer (some ⟨ib, 0, none⟩)]) ∧ Bun W0 j (L ++ [(.takes is [t, u], (.func (.func 207) #[] #[.pointer (some ⟨tb, 0, none⟩), .pointer (some ⟨ib, 0, none⟩)]))]) w' :=
  (takes_v j is [t, u] _ _ (ints_new w [t, u] 3 2 rfl)).mono fun _ _ ⟨_, he, hr, hk⟩ => takes_named he hr (h.snoc (((Keeps.refl _ w).alloc _).trans hk) hr)
theorem compares2 (h : Bun W0 j L w) (t u : Int) : Calls Tryz.prog 178 #[.slice (some ⟨w.heap.size, 0, none⟩) 2 2] (w.alloc (.cells #[.int .i64 t, .int .i64 u] 3)) fun e w' => ∃ tb, e = .returned (.func (.func 213) #[] #[.pointer (some ⟨tb, 0, none⟩)]) ∧ Bun W0 j (L ++ [(.compares [t, u], (.func (.func 213) #[] #[.pointer (some ⟨tb, 0, none⟩)]))]) w' :=
  (compares_v j [t, u] _ _ (ints_new w [t, u] 3 2 rfl)).mono fun _ _ ⟨_, he, hr, hk⟩ => compares_named he hr (h.snoc (((Keeps.refl _ w).alloc _).trans hk) hr)
theorem compares3 (h : Bun W0 j L w) (t u v : Int) : Calls Tryz.prog 178 #[.slice (some ⟨w.heap.size, 0, none⟩) 3 3] (w.alloc (.cells #[.int .i64 t, .int .i64 u, .int .i64 v] 3)) fun e w' => ∃ tb, e = .returned (.func (.func 213) #[] #[.pointer (some ⟨tb, 0, none⟩)]) ∧ Bun W0 j (L ++ [(.compares [t, u, v], (.func (.func 213) #[] #[.pointer (some ⟨tb, 0, none⟩)]))]) w' :=
  (compares_v j [t, u, v] _ _ (ints_new w [t, u, v] 3 3 rfl)).mono fun _ _ ⟨_, he, hr, hk⟩ => compares_named he hr (h.snoc (((Keeps.refl _ w).alloc _).trans hk) hr)
end
/-- A table of rules, as a judge keeps it. -/
def RulesAt (w : World) (j tab : Nat) : Prop := ∀ (m : Nat) (r : RuleA), (ruleL[m]?).join = some r → ∃ fv, w.cell? ⟨tab, m, none⟩ = some fv ∧ RuleV w j r fv
theorem rules_cells {w : World} {j : Nat} {cs : Array Value} (h : ∀ (m : Nat) (r : RuleA), (ruleL[m]?).join = some r → ∃ fv, cs[m]? = some fv ∧ RuleV w j r fv) (t : TypeId) : RulesAt (w.alloc (.cells cs t)) j w.heap.size := by
  intro m r hr
  obtain ⟨fv, h1, h2⟩ := h m r hr
  exact ⟨fv, by rw [cell_of_blk (heap_alloc_new w _)]; exact h1, h2.keepF ((Keeps.refl _ w).alloc _)⟩
end Go.Proofs.YtiinohibmcefkaaGreatDoor
