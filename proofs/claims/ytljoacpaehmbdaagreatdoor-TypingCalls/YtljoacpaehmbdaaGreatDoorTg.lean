import Derived.Test.YtljoacpaehmbdaaGreatDoorTo0
namespace Go.Proofs.YtljoacpaehmbdaaGreatDoor
open Go.RowKit Go.Maps

set_option maxRecDepth 100000 in
set_option maxHeartbeats 4000000 in
theorem own5x (S : List FieldA) (hS : schemaB S = true) (so : Option Addr) (sc : Nat) (f : Txt) (xo to eo : Option Addr) (xn xc tn tc en ec : Nat) (w : World) (hf : FldsAt w (.slice so S.length sc) S) (hno : fieldOf S f = none) :
    Calls Tryz.prog 32 #[.agg #[.slice so S.length sc], stV 5 f (.slice xo xn xc) (.slice to tn tc) (.slice eo en ec)] w fun e w' => e = .returned (.int .i64 90) ∧ Keeps (fun _ => False) w w' := by
  have hl8 := schema_8 hS
  obtain ⟨HX, hxb, hxc⟩ := boxedT w #[.slice so S.length sc] 26
  obtain ⟨HY, hyb, hyc⟩ := boxedT (w.alloc (.cells #[.slice so S.length sc] 26)) #[.int .i64 5, str f, .slice xo xn xc, .slice to tn tc, .slice eo en ec] 66
  rw [World.size_alloc] at hyc hyb
  have HK0 := hide ((unhide HX).trans (unhide HY))
  have SB : ∀ w', Keeps (fun _ => False) ((w.alloc (.cells #[.slice so S.length sc] 26)).alloc (.cells #[.int .i64 5, str f, .slice xo xn xc, .slice to tn tc, .slice eo en ec] 66)) w' → w'.cell? ⟨w.heap.size, 0, none⟩ = some (.slice so S.length sc) ∧ w'.cell? ⟨w.heap.size + 1, 0, none⟩ = some (.int .i64 5) ∧ w'.cell? ⟨w.heap.size + 1, 1, none⟩ = some (str f) := fun w' hk =>
    ⟨(((unhide HY).trans hk).cell hxb id).trans (hxc 0 _ rfl), (hk.cell hyb id).trans (hyc 0 _ rfl), (hk.cell hyb id).trans (hyc 1 _ rfl)⟩
  have y := SB _ (Keeps.refl _ _)
  have HSB := hide SB
  have HFI := hide (refField_no S (.slice so S.length sc) f _ (hf.keepF (unhide HK0)) hl8 hno)
  clear hf hxc hyc SB HX HY hno
  go_enter Tryz.func32, Tryz.ntmps32
  go_wp2_with (go_at_call 55; refine (unhide HFI).mono ?_; rintro e w1 ⟨rfl, hk1⟩; have y1 := unhide HSB _ hk1; have HK0 := hide ((unhide HK0).trans hk1); clear hk1)
  go_ret
  exact ⟨rfl, unhide HK0⟩

set_option maxRecDepth 100000 in
set_option maxHeartbeats 4000000 in
theorem own5true (S : List FieldA) (hS : schemaB S = true) (so : Option Addr) (sc : Nat) (f : Txt) (xo to eo : Option Addr) (xn xc tn tc en ec : Nat) (w : World) (hf : FldsAt w (.slice so S.length sc) S) (kf : Nat) (nm : Txt) (DT : Int) (DO : Bool) (hDO : DO = true) (hkf : S[kf]? = some ⟨nm, DT, DO⟩) (hsome : fieldOf S f = some ⟨nm, DT, DO⟩) :
    Calls Tryz.prog 32 #[.agg #[.slice so S.length sc], stV 5 f (.slice xo xn xc) (.slice to tn tc) (.slice eo en ec)] w fun e w' => e = .returned (.int .i64 0) ∧ Keeps (fun _ => False) w w' := by
  have hl8 := schema_8 hS
  subst hDO
  have hkl := get_lt hkf
  obtain ⟨fb, foff, fc, fe, hfb, hfc⟩ := FldsAt.cells hf (by omega)
  simp only [Value.slice.injEq] at fe
  obtain ⟨rfl, _, rfl⟩ := fe
  have g1 : ¬ (kf : Int) < 0 := by omega
  have g1' : decide ((kf : Int) < 0) = false := decide_eq_false g1
  have i1 : (kf : Int) < (S.length : Int) := by omega
  have i0 : (0 : Int) ≤ (kf : Int) := by omega
  obtain ⟨HX, hxb, hxc⟩ := boxedT w #[.slice (some ⟨fb, foff, none⟩) S.length sc] 26
  obtain ⟨HY, hyb, hyc⟩ := boxedT (w.alloc (.cells #[.slice (some ⟨fb, foff, none⟩) S.length sc] 26)) #[.int .i64 5, str f, .slice xo xn xc, .slice to tn tc, .slice eo en ec] 66
  rw [World.size_alloc] at hyc hyb
  have HK0 := hide ((unhide HX).trans (unhide HY))
  have SB : ∀ w', Keeps (fun _ => False) ((w.alloc (.cells #[.slice (some ⟨fb, foff, none⟩) S.length sc] 26)).alloc (.cells #[.int .i64 5, str f, .slice xo xn xc, .slice to tn tc, .slice eo en ec] 66)) w' → w'.cell? ⟨w.heap.size, 0, none⟩ = some (.slice (some ⟨fb, foff, none⟩) S.length sc) ∧ w'.cell? ⟨w.heap.size + 1, 0, none⟩ = some (.int .i64 5) ∧ w'.cell? ⟨w.heap.size + 1, 1, none⟩ = some (str f) ∧ w'.cell? ⟨fb, foff + kf * 3, none⟩ = some (str nm) ∧ w'.cell? ⟨fb, foff + kf * 3 + 1, none⟩ = some (.int .i64 DT) ∧ w'.cell? ⟨fb, foff + kf * 3 + 2, none⟩ = some (.bool true) := fun w' hk =>
    ⟨(((unhide HY).trans hk).cell hxb id).trans (hxc 0 _ rfl), (hk.cell hyb id).trans (hyc 0 _ rfl), (hk.cell hyb id).trans (hyc 1 _ rfl), (((unhide HK0).trans hk).cell hfb id).trans (hfc kf _ hkf).1, (((unhide HK0).trans hk).cell hfb id).trans (hfc kf _ hkf).2.1, (((unhide HK0).trans hk).cell hfb id).trans (hfc kf _ hkf).2.2⟩
  have y := SB _ (Keeps.refl _ _)
  have HSB := hide SB
  have HFI := hide (refField_at S hS (.slice (some ⟨fb, foff, none⟩) S.length sc) f _ (hf.keepF (unhide HK0)) hl8 kf _ hkf hsome)
  clear hf hxc hyc SB HX HY hfc hkf hsome
  go_enter Tryz.func32, Tryz.ntmps32
  go_wp2_with (go_at_call 55; refine (unhide HFI).mono ?_; rintro e w1 ⟨rfl, hk1⟩; have y1 := unhide HSB _ hk1; have HK0 := hide ((unhide HK0).trans hk1); clear hk1)
  go_ret
  exact ⟨rfl, unhide HK0⟩

set_option maxRecDepth 100000 in
set_option maxHeartbeats 4000000 in
theorem own5false (S : List FieldA) (hS : schemaB S = true) (so : Option Addr) (sc : Nat) (f : Txt) (xo to eo : Option Addr) (xn xc tn tc en ec : Nat) (w : World) (hf : FldsAt w (.slice so S.length sc) S) (kf : Nat) (nm : Txt) (DT : Int) (DO : Bool) (hDO : DO = false) (hkf : S[kf]? = some ⟨nm, DT, DO⟩) (hsome : fieldOf S f = some ⟨nm, DT, DO⟩) :
    Calls Tryz.prog 32 #[.agg #[.slice so S.length sc], stV 5 f (.slice xo xn xc) (.slice to tn tc) (.slice eo en ec)] w fun e w' => e = .returned (.int .i64 92) ∧ Keeps (fun _ => False) w w' := by
  have hl8 := schema_8 hS
  subst hDO
  have hkl := get_lt hkf
  obtain ⟨fb, foff, fc, fe, hfb, hfc⟩ := FldsAt.cells hf (by omega)
  simp only [Value.slice.injEq] at fe
  obtain ⟨rfl, _, rfl⟩ := fe
  have g1 : ¬ (kf : Int) < 0 := by omega
  have g1' : decide ((kf : Int) < 0) = false := decide_eq_false g1
  have i1 : (kf : Int) < (S.length : Int) := by omega
  have i0 : (0 : Int) ≤ (kf : Int) := by omega
  obtain ⟨HX, hxb, hxc⟩ := boxedT w #[.slice (some ⟨fb, foff, none⟩) S.length sc] 26
  obtain ⟨HY, hyb, hyc⟩ := boxedT (w.alloc (.cells #[.slice (some ⟨fb, foff, none⟩) S.length sc] 26)) #[.int .i64 5, str f, .slice xo xn xc, .slice to tn tc, .slice eo en ec] 66
  rw [World.size_alloc] at hyc hyb
  have HK0 := hide ((unhide HX).trans (unhide HY))
  have SB : ∀ w', Keeps (fun _ => False) ((w.alloc (.cells #[.slice (some ⟨fb, foff, none⟩) S.length sc] 26)).alloc (.cells #[.int .i64 5, str f, .slice xo xn xc, .slice to tn tc, .slice eo en ec] 66)) w' → w'.cell? ⟨w.heap.size, 0, none⟩ = some (.slice (some ⟨fb, foff, none⟩) S.length sc) ∧ w'.cell? ⟨w.heap.size + 1, 0, none⟩ = some (.int .i64 5) ∧ w'.cell? ⟨w.heap.size + 1, 1, none⟩ = some (str f) ∧ w'.cell? ⟨fb, foff + kf * 3, none⟩ = some (str nm) ∧ w'.cell? ⟨fb, foff + kf * 3 + 1, none⟩ = some (.int .i64 DT) ∧ w'.cell? ⟨fb, foff + kf * 3 + 2, none⟩ = some (.bool false) := fun w' hk =>
    ⟨(((unhide HY).trans hk).cell hxb id).trans (hxc 0 _ rfl), (hk.cell hyb id).trans (hyc 0 _ rfl), (hk.cell hyb id).trans (hyc 1 _ rfl), (((unhide HK0).trans hk).cell hfb id).trans (hfc kf _ hkf).1, (((unhide HK0).trans hk).cell hfb id).trans (hfc kf _ hkf).2.1, (((unhide HK0).trans hk).cell hfb id).trans (hfc kf _ hkf).2.2⟩
  have y := SB _ (Keeps.refl _ _)
  have HSB := hide SB
  have HFI := hide (refField_at S hS (.slice (some ⟨fb, foff, none⟩) S.length sc) f _ (hf.keepF (unhide HK0)) hl8 kf _ hkf hsome)
  clear hf hxc hyc SB HX HY hfc hkf hsome
  go_enter Tryz.func32, Tryz.ntmps32
  go_wp2_with (go_at_call 55; refine (unhide HFI).mono ?_; rintro e w1 ⟨rfl, hk1⟩; have y1 := unhide HSB _ hk1; have HK0 := hide ((unhide HK0).trans hk1); clear hk1)
  go_ret
  exact ⟨rfl, unhide HK0⟩

set_option maxRecDepth 100000 in
set_option maxHeartbeats 4000000 in
theorem own6 (S : List FieldA) (hS : schemaB S = true) (so : Option Addr) (sc : Nat) (f : Txt) (xo to eo : Option Addr) (xn xc tn tc en ec : Nat) (w : World) (_hf : FldsAt w (.slice so S.length sc) S) :
    Calls Tryz.prog 32 #[.agg #[.slice so S.length sc], stV 6 f (.slice xo xn xc) (.slice to tn tc) (.slice eo en ec)] w fun e w' => e = .returned (.int .i64 0) ∧ Keeps (fun _ => False) w w' := by
  have hl8 := schema_8 hS
  obtain ⟨HX, hxb, hxc⟩ := boxedT w #[.slice so S.length sc] 26
  obtain ⟨HY, hyb, hyc⟩ := boxedT (w.alloc (.cells #[.slice so S.length sc] 26)) #[.int .i64 6, str f, .slice xo xn xc, .slice to tn tc, .slice eo en ec] 66
  rw [World.size_alloc] at hyc hyb
  have HK0 := hide ((unhide HX).trans (unhide HY))
  have SB : ∀ w', Keeps (fun _ => False) ((w.alloc (.cells #[.slice so S.length sc] 26)).alloc (.cells #[.int .i64 6, str f, .slice xo xn xc, .slice to tn tc, .slice eo en ec] 66)) w' → w'.cell? ⟨w.heap.size, 0, none⟩ = some (.slice so S.length sc) ∧ w'.cell? ⟨w.heap.size + 1, 0, none⟩ = some (.int .i64 6) ∧ w'.cell? ⟨w.heap.size + 1, 1, none⟩ = some (str f) := fun w' hk =>
    ⟨(((unhide HY).trans hk).cell hxb id).trans (hxc 0 _ rfl), (hk.cell hyb id).trans (hyc 0 _ rfl), (hk.cell hyb id).trans (hyc 1 _ rfl)⟩
  have y := SB _ (Keeps.refl _ _)
  have HSB := hide SB
  clear hxc hyc SB HX HY
  go_enter Tryz.func32, Tryz.ntmps32
  go_wp2_with fail
  go_ret
  exact ⟨rfl, unhide HK0⟩

set_option maxRecDepth 100000 in
set_option maxHeartbeats 4000000 in
theorem own7 (S : List FieldA) (hS : schemaB S = true) (so : Option Addr) (sc : Nat) (f : Txt) (xo to eo : Option Addr) (xn xc tn tc en ec : Nat) (w : World) (_hf : FldsAt w (.slice so S.length sc) S) :
    Calls Tryz.prog 32 #[.agg #[.slice so S.length sc], stV 7 f (.slice xo xn xc) (.slice to tn tc) (.slice eo en ec)] w fun e w' => e = .returned (.int .i64 0) ∧ Keeps (fun _ => False) w w' := by
  have hl8 := schema_8 hS
  obtain ⟨HX, hxb, hxc⟩ := boxedT w #[.slice so S.length sc] 26
  obtain ⟨HY, hyb, hyc⟩ := boxedT (w.alloc (.cells #[.slice so S.length sc] 26)) #[.int .i64 7, str f, .slice xo xn xc, .slice to tn tc, .slice eo en ec] 66
  rw [World.size_alloc] at hyc hyb
  have HK0 := hide ((unhide HX).trans (unhide HY))
  have SB : ∀ w', Keeps (fun _ => False) ((w.alloc (.cells #[.slice so S.length sc] 26)).alloc (.cells #[.int .i64 7, str f, .slice xo xn xc, .slice to tn tc, .slice eo en ec] 66)) w' → w'.cell? ⟨w.heap.size, 0, none⟩ = some (.slice so S.length sc) ∧ w'.cell? ⟨w.heap.size + 1, 0, none⟩ = some (.int .i64 7) ∧ w'.cell? ⟨w.heap.size + 1, 1, none⟩ = some (str f) := fun w' hk =>
    ⟨(((unhide HY).trans hk).cell hxb id).trans (hxc 0 _ rfl), (hk.cell hyb id).trans (hyc 0 _ rfl), (hk.cell hyb id).trans (hyc 1 _ rfl)⟩
  have y := SB _ (Keeps.refl _ _)
  have HSB := hide SB
  clear hxc hyc SB HX HY
  go_enter Tryz.func32, Tryz.ntmps32
  go_wp2_with fail
  go_ret
  exact ⟨rfl, unhide HK0⟩
end Go.Proofs.YtljoacpaehmbdaaGreatDoor
