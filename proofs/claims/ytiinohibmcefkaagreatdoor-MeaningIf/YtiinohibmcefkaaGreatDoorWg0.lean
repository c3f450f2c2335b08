import Derived.Test.YtiinohibmcefkaaGreatDoorWf
import Derived.Test.YtiinohibmcefkaaGreatDoorJix
namespace Go.Proofs.YtiinohibmcefkaaGreatDoor
open Go.RowKit Go.Maps

set_option maxRecDepth 100000 in
set_option maxHeartbeats 800000 in
/-- Would the statements be too great, if more were built round them? -/
theorem nears_v (B up : Nat) (l : SL) (v : Value) (w : World) (hB : B ≤ w.heap.size) (hS : SlS (argZ B) w up v l) :
    Calls Tryz.prog 10 #[v] w fun e w' => ∃ r : Bool, e = .returned (.bool r) ∧ Keeps (fun _ => False) w w' ∧ (r = false → l.size ≤ 67108864) := by
  have HS := hide (hS.keepF ((Keeps.refl _ w).alloc (.cells #[.int .i64 0] 80)))
  have HK : Hid (Keeps (fun _ => False) w (w.alloc (.cells #[.int .i64 0] 80))) := hide ((Keeps.refl _ w).alloc _)
  obtain ⟨ao, cap, rfl, hc⟩ := hS.head
  clear hS
  go_enter Tryz.func10, Tryz.ntmps10
  go_wp2_with fail
  refine (parts_stmts B w.heap.size hB (l.size + 1) l (by omega) _ up _ 0 65528 (unhide HS) (heap_alloc_new w _) (by omega) (by omega) (by omega) (by omega)).mono ?_
  rintro e w1 ⟨r, n1, rfl, hc1, hk1, hn1, hr1⟩
  have m0 := (cell_of_blk hc1 0).trans rfl
  have HKE := hide (keeps_new (unhide HK) hk1)
  have HR1 := hide hr1
  clear hc1 hk1 hr1 HS
  cases r with
  | true =>
    go_wp2_with fail
    refine (near44 w1 w.heap.size n1 true m0).mono ?_
    rintro e w2 ⟨rfl, hk2⟩
    have HK2 := hide ((unhide HKE).trans hk2)
    clear hk2
    go_wp2_with fail
    go_ret
    exact ⟨true, by first | rfl | simp, unhide HK2, fun h => by cases h⟩
  | false =>
    go_wp2_with fail
    refine (near44 w1 w.heap.size n1 false m0).mono ?_
    rintro e w2 ⟨rfl, hk2⟩
    have HK2 := hide ((unhide HKE).trans hk2)
    clear hk2
    go_wp2_with fail
    go_ret
    exact ⟨decide (67108864 < n1), by first | rfl | simp, unhide HK2, fun h => by have := (unhide HR1 (by first | rfl | trivial)).1; have h2 : ¬ (67108864 < n1) := by simpa using h
                                                                                  omega⟩

theorem eq_pair {h1 h2 : Bool} {v1 v2 : List ValA} (hh : (h1, v1) = (h2, v2)) : (decide (h1 = h2) && decide (v1 = v2)) = true := by
  rw [Prod.mk.injEq] at hh
  rw [hh.1, hh.2]
  simp
/-- One statement in a slice of its own. -/
theorem one_stmt {w : World} {op : Int} {f : Txt} {x : EL} {t e : SL} {xv tv ev : Value} (hx : SlE (argZ w.heap.size) w 0 xv x) (ht : SlS (argZ w.heap.size) w 0 tv t) (he : SlS (argZ w.heap.size) w 0 ev e) :
    SlS (argZ (w.alloc (.cells #[.int .i64 op, str f, xv, tv, ev] 39)).heap.size) (w.alloc (.cells #[.int .i64 op, str f, xv, tv, ev] 39)) 0 (.slice (some ⟨w.heap.size, 0, none⟩) 1 1) (.cons op f x t e .nil) := by
  obtain ⟨HB, hxb, hxc⟩ := boxed w #[.int .i64 op, str f, xv, tv, ev] 39
  have hs : SsIn (argZ w.heap.size) w (.cons op f x t e .nil) [.int .i64 op, str f, xv, tv, ev] := ⟨xv, tv, ev, [], rfl, hx, ht, he, rfl⟩
  refine ⟨_, _, rfl, Nat.le_refl _, fun _ => ⟨w.heap.size, 0, rfl, trivial, (hs.argKeep (unhide HB) (fun _ q => q.elim)).stIn hxb (Nat.le_refl _) (fun j x hx => ?_)⟩⟩
  rw [Nat.zero_add]
  exact hxc j x (by simpa using hx)
theorem sls_top {B : Nat} {w w' : World} {v : Value} {l : SL} (h : SlS (argZ B) w 0 v l) (hk : Keeps (fun _ => False) w w') : SlS (argZ w'.heap.size) w' 0 v l := (h.keepF hk).arg (Nat.le_refl _) 0
/-- A list of one if: the condition in a slice of its own, the list in another. -/
theorem if_list {w : World} {B : Nat} {c : XE} {xo : Option Addr} {xc : Nat} {pv qv : Value} {p q : SL} {w0 : World} (hk : Keeps (fun _ => False) w0 w) (hc : SlE (argZ w.heap.size) w 0 (.slice xo c.kids.len xc) c.kids) (hp : SlS (argZ B) w0 0 pv p) (hq : SlS (argZ B) w0 0 qv q) :
    SlS (argZ ((w.alloc (.cells #[.int .i64 c.op, .int .i64 c.n, str c.s, .slice xo c.kids.len xc] 27)).alloc (.cells #[.int .i64 8, .string ⟨#[]⟩, .slice (some ⟨w.heap.size, 0, none⟩) 1 1, pv, qv] 39)).heap.size) ((w.alloc (.cells #[.int .i64 c.op, .int .i64 c.n, str c.s, .slice xo c.kids.len xc] 27)).alloc (.cells #[.int .i64 8, .string ⟨#[]⟩, .slice (some ⟨w.heap.size, 0, none⟩) 1 1, pv, qv] 39)) 0 (.slice (some ⟨w.heap.size + 1, 0, none⟩) 1 1) (ifS c p q) := by
  have h1 := isL_new (w := w) (l := c.el .nil) (xs := [.int .i64 c.op, .int .i64 c.n, str c.s, .slice xo c.kids.len xc]) ⟨_, _, rfl, hc, rfl⟩
  have kk : Keeps (fun _ => False) w0 (w.alloc (.cells #[.int .i64 c.op, .int .i64 c.n, str c.s, .slice xo c.kids.len xc] 27)) := hk.alloc _
  have h2 := one_stmt (op := 8) (f := []) h1 (sls_top hp kk) (sls_top hq kk)
  have e : (w.alloc (.cells #[.int .i64 c.op, .int .i64 c.n, str c.s, .slice xo c.kids.len xc] 27)).heap.size = w.heap.size + 1 := by simp
  have h3 : SlS _ _ 0 (.slice (some ⟨(w.alloc (.cells #[.int .i64 c.op, .int .i64 c.n, str c.s, .slice xo c.kids.len xc] 27)).heap.size, 0, none⟩) 1 1) (ifS c p q) := h2
  rw [e] at h3
  exact h3
end Go.Proofs.YtiinohibmcefkaaGreatDoor
