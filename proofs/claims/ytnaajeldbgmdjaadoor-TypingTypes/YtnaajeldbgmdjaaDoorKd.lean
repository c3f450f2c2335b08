import Derived.Test.YtnaajeldbgmdjaaDoorKc
namespace Go.Proofs.YtnaajeldbgmdjaaDoor
open Go.RowKit Go.Maps

theorem cell_past {w : World} {b o : Nat} {v : Value} (hb : b < w.heap.size) (h : w.cell? ⟨b, o, none⟩ = some v) (x : Obj) : (w.alloc x).cell? ⟨b, o, none⟩ = some v := (((Keeps.refl (fun _ => False) w).alloc x).cell hb id).trans h

set_option maxRecDepth 100000 in
set_option maxHeartbeats 1000000 in
theorem isPlain_v (k : KA) (ts : List Int) (v : Value) (w : World) (h : IntsAt w v ts) (hl : ts.length ≤ 1000) : Calls Tryd.prog 104 #[kindV k, v] w fun e w' => e = .returned (.int .i64 (plainI k ts)) ∧ Keeps (fun _ => False) w w' := by
  obtain ⟨HB, hxb, hxc⟩ := boxed w #[.int .i64 k.t, .bool k.o] 90
  have c0 := hxc 0 (.int .i64 k.t) rfl
  have c1 := hxc 1 (.bool k.o) rfl
  have HU := fun w' => hide (unless_v (!k.o) 92 w')
  have HC := fun w' (hk : Keeps (fun _ => False) w w') => hide (isOf_v k ts v w' (h.keepF hk) hl)
  have HO := fun (a b : Int) (w' : World) => hide (or_v [a, b] (.slice (some ⟨w'.heap.size, 0, none⟩) 2 2) (w'.alloc (.cells #[.int .i64 a, .int .i64 b] 29)) (ints_new w' [a, b] 29 2 rfl) (by simp))
  obtain ⟨ao, cap, rfl⟩ := RowAt.form h
  rw [plainI_un, ← orL_two]
  clear h hxc
  go_enter Tryd.func104, Tryd.ntmps104
  go_wp2_with fail
  go_region_held3 (fun w' => w'.cell? ⟨w.heap.size, 0, none⟩ = some (.int .i64 k.t) ∧ w'.cell? ⟨w.heap.size, 1, none⟩ = some (.bool k.o)) (first | exact ⟨r0, r1⟩ | exact ⟨c0, c1⟩ | go_keep)
    ((first
    | (go_at_call 110; refine (unhide (HC _ (unhide HB).drew)).mono ?_; rintro e w1 ⟨rfl, hk1⟩; have r0 := (hk1.cell (o := 0) hxb id).trans c0; have r1 := (hk1.cell (o := 1) hxb id).trans c1; have HK1 := hide ((unhide HB).drew.trans hk1); clear hk1)
    | (go_at_call 111; refine (unhide (HU _)).mono ?_; rintro e w2 ⟨rfl, rfl⟩)
    | (go_at_call 107; refine (unhide (HO _ _ _)).mono ?_; rintro e w3 ⟨rfl, rfl⟩)))
  all_goals go_wp2_with fail
  all_goals go_ret
  all_goals exact ⟨rfl, (unhide HK1).alloc _⟩
/-- Held against one type that was laid for the call. -/
theorem isPlain_one (k : KA) (t : Int) (w : World) (H : Nat) (hH : w.heap.size = H) : Calls Tryd.prog 104 #[kindV k, .slice (some ⟨H, 0, none⟩) 1 1] (w.alloc (.cells #[.int .i64 t] 3)).drew fun e w' => e = .returned (.int .i64 (plainI k [t])) ∧ Keeps (fun _ => False) w w' := by
  subst hH
  exact (isPlain_v k [t] (.slice (some ⟨w.heap.size, 0, none⟩) 1 1) (w.alloc (.cells #[.int .i64 t] 3)).drew ((ints_new w [t] 3 1 rfl).keepF (Keeps.refl _ _).drew) (by simp)).mono fun e w' ⟨he, hk⟩ => ⟨he, ((Keeps.refl _ w).alloc _).drew.trans hk⟩
end Go.Proofs.YtnaajeldbgmdjaaDoor
