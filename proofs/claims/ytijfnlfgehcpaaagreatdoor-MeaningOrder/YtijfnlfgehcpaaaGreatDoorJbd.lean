import Derived.Test.YtijfnlfgehcpaaaGreatDoorJbc
namespace Go.Proofs.YtijfnlfgehcpaaaGreatDoor
open Go.RowKit Go.Maps

/-- The program that works runs. -/
def worksL : SL := .cons 6 [] .nil .nil .nil (.cons 2 [110] (.cons 1 5 [] .nil .nil) .nil .nil .nil)
def worksS : List FieldA := [⟨[110], 1, false⟩]
theorem works_one : runP worksS worksL false [] = ((true, [⟨1, 5, []⟩]), 0) := by decide +kernel
theorem works_two : runP worksS worksL true [⟨1, 5, []⟩] = ((true, [⟨1, 10, []⟩]), 0) := by decide +kernel
end Go.Proofs.YtijfnlfgehcpaaaGreatDoor
namespace Go.Proofs.YtijfnlfgehcpaaaGreatDoor
open Go.RowKit Go.Maps

theorem nil_vals (w : World) : ValsAt w (.slice none 0 0) [] := rowAt_own (World.ownsRow_nil w 0 40 3)
theorem nilE (Z : Zone) (w : World) (up : Nat) : SlE Z w up (.slice none 0 0) .nil := ⟨none, 0, rfl, Nat.le_refl _, fun h => absurd rfl h⟩
theorem worksY (w : World) : ∃ Y, ((((w.alloc (.cells #[.string ⟨#[110]⟩, .int .i64 1, .bool false] 53)).alloc (.cells #[.slice (some ⟨w.heap.size, 0, none⟩) 1 1] 24)).alloc (.cells #[.int .i64 1, .int .i64 5, .string ⟨#[]⟩, .slice none 0 0] 27)).alloc (.cells #[.int .i64 1, .int .i64 5, .string ⟨#[]⟩, .slice none 0 0] 27)).alloc (.cells #[.int .i64 6, .string ⟨#[]⟩, .slice none 0 0, .slice none 0 0, .slice none 0 0, .int .i64 2, .string ⟨#[110]⟩, .slice (some ⟨w.heap.size + 1 + 1 + 1, 0, none⟩) 1 1, .slice none 0 0, .slice none 0 0] 71) = Y ∧ Keeps (fun _ => False) w Y ∧ Y.cell? ⟨w.heap.size + 1, 0, none⟩ = some (.slice (some ⟨w.heap.size, 0, none⟩) 1 1) ∧ FldsAt Y (.slice (some ⟨w.heap.size, 0, none⟩) 1 1) worksS ∧ SlS anyZ Y 0 (.slice (some ⟨w.heap.size + 1 + 1 + 1 + 1, 0, none⟩) 2 2) worksL ∧ w.heap.size + 1 < Y.heap.size := by
  have f1 : FldsAt (w.alloc (.cells #[.string ⟨#[110]⟩, .int .i64 1, .bool false] 53)) (.slice (some ⟨w.heap.size, 0, none⟩) 1 1) worksS := rowAt_own (World.ownsRow_lit (base := 0) (e := 53) (size := 3) w #[.string ⟨#[110]⟩, .int .i64 1, .bool false] 1 (Nat.zero_le _) (by unfold maxLen; omega) rfl)
  have kY : Keeps (fun _ => False) (w.alloc (.cells #[.string ⟨#[110]⟩, .int .i64 1, .bool false] 53)) (((((w.alloc (.cells #[.string ⟨#[110]⟩, .int .i64 1, .bool false] 53)).alloc (.cells #[.slice (some ⟨w.heap.size, 0, none⟩) 1 1] 24)).alloc (.cells #[.int .i64 1, .int .i64 5, .string ⟨#[]⟩, .slice none 0 0] 27)).alloc (.cells #[.int .i64 1, .int .i64 5, .string ⟨#[]⟩, .slice none 0 0] 27)).alloc (.cells #[.int .i64 6, .string ⟨#[]⟩, .slice none 0 0, .slice none 0 0, .slice none 0 0, .int .i64 2, .string ⟨#[110]⟩, .slice (some ⟨w.heap.size + 1 + 1 + 1, 0, none⟩) 1 1, .slice none 0 0, .slice none 0 0] 71)) := ((((Keeps.refl _ _).alloc _).alloc _).alloc _).alloc _
  have bS : (((((w.alloc (.cells #[.string ⟨#[110]⟩, .int .i64 1, .bool false] 53)).alloc (.cells #[.slice (some ⟨w.heap.size, 0, none⟩) 1 1] 24)).alloc (.cells #[.int .i64 1, .int .i64 5, .string ⟨#[]⟩, .slice none 0 0] 27)).alloc (.cells #[.int .i64 1, .int .i64 5, .string ⟨#[]⟩, .slice none 0 0] 27)).alloc (.cells #[.int .i64 6, .string ⟨#[]⟩, .slice none 0 0, .slice none 0 0, .slice none 0 0, .int .i64 2, .string ⟨#[110]⟩, .slice (some ⟨w.heap.size + 1 + 1 + 1, 0, none⟩) 1 1, .slice none 0 0, .slice none 0 0] 71)).heap[w.heap.size + 1]? = some (.cells #[.slice (some ⟨w.heap.size, 0, none⟩) 1 1] 24) := (((((Keeps.refl (fun _ => False) _).alloc _).alloc _).alloc _).block _ (by simp) id).trans (alloc_at _ _ _ (by simp))
  have bX : (((((w.alloc (.cells #[.string ⟨#[110]⟩, .int .i64 1, .bool false] 53)).alloc (.cells #[.slice (some ⟨w.heap.size, 0, none⟩) 1 1] 24)).alloc (.cells #[.int .i64 1, .int .i64 5, .string ⟨#[]⟩, .slice none 0 0] 27)).alloc (.cells #[.int .i64 1, .int .i64 5, .string ⟨#[]⟩, .slice none 0 0] 27)).alloc (.cells #[.int .i64 6, .string ⟨#[]⟩, .slice none 0 0, .slice none 0 0, .slice none 0 0, .int .i64 2, .string ⟨#[110]⟩, .slice (some ⟨w.heap.size + 1 + 1 + 1, 0, none⟩) 1 1, .slice none 0 0, .slice none 0 0] 71)).heap[w.heap.size + 1 + 1 + 1]? = some (.cells #[.int .i64 1, .int .i64 5, .string ⟨#[]⟩, .slice none 0 0] 27) := (((Keeps.refl (fun _ => False) _).alloc _).block _ (by simp) id).trans (alloc_at _ _ _ (by simp))
  have bP : (((((w.alloc (.cells #[.string ⟨#[110]⟩, .int .i64 1, .bool false] 53)).alloc (.cells #[.slice (some ⟨w.heap.size, 0, none⟩) 1 1] 24)).alloc (.cells #[.int .i64 1, .int .i64 5, .string ⟨#[]⟩, .slice none 0 0] 27)).alloc (.cells #[.int .i64 1, .int .i64 5, .string ⟨#[]⟩, .slice none 0 0] 27)).alloc (.cells #[.int .i64 6, .string ⟨#[]⟩, .slice none 0 0, .slice none 0 0, .slice none 0 0, .int .i64 2, .string ⟨#[110]⟩, .slice (some ⟨w.heap.size + 1 + 1 + 1, 0, none⟩) 1 1, .slice none 0 0, .slice none 0 0] 71)).heap[w.heap.size + 1 + 1 + 1 + 1]? = some (.cells #[.int .i64 6, .string ⟨#[]⟩, .slice none 0 0, .slice none 0 0, .slice none 0 0, .int .i64 2, .string ⟨#[110]⟩, .slice (some ⟨w.heap.size + 1 + 1 + 1, 0, none⟩) 1 1, .slice none 0 0, .slice none 0 0] 71) := alloc_at _ _ _ (by simp)
  have f2 := f1.keepF kY
  have kw : Keeps (fun _ => False) w (((((w.alloc (.cells #[.string ⟨#[110]⟩, .int .i64 1, .bool false] 53)).alloc (.cells #[.slice (some ⟨w.heap.size, 0, none⟩) 1 1] 24)).alloc (.cells #[.int .i64 1, .int .i64 5, .string ⟨#[]⟩, .slice none 0 0] 27)).alloc (.cells #[.int .i64 1, .int .i64 5, .string ⟨#[]⟩, .slice none 0 0] 27)).alloc (.cells #[.int .i64 6, .string ⟨#[]⟩, .slice none 0 0, .slice none 0 0, .slice none 0 0, .int .i64 2, .string ⟨#[110]⟩, .slice (some ⟨w.heap.size + 1 + 1 + 1, 0, none⟩) 1 1, .slice none 0 0, .slice none 0 0] 71)) := ((Keeps.refl _ _).alloc _).trans kY
  generalize ((((w.alloc (.cells #[.string ⟨#[110]⟩, .int .i64 1, .bool false] 53)).alloc (.cells #[.slice (some ⟨w.heap.size, 0, none⟩) 1 1] 24)).alloc (.cells #[.int .i64 1, .int .i64 5, .string ⟨#[]⟩, .slice none 0 0] 27)).alloc (.cells #[.int .i64 1, .int .i64 5, .string ⟨#[]⟩, .slice none 0 0] 27)).alloc (.cells #[.int .i64 6, .string ⟨#[]⟩, .slice none 0 0, .slice none 0 0, .slice none 0 0, .int .i64 2, .string ⟨#[110]⟩, .slice (some ⟨w.heap.size + 1 + 1 + 1, 0, none⟩) 1 1, .slice none 0 0, .slice none 0 0] 71) = Y at *
  refine ⟨Y, rfl, kw, (cell_of_blk bS 0).trans rfl, f2, ?_, lt_of_block bS⟩
  have cx := fun j => cell_of_blk bX j
  have cp := fun j => cell_of_blk bP j
  have hx : SlE anyZ Y (w.heap.size + 1 + 1 + 1 + 1) (.slice (some ⟨w.heap.size + 1 + 1 + 1, 0, none⟩) 1 1) (.cons 1 5 [] .nil .nil) :=
    ⟨_, 1, rfl, Nat.le_refl _, fun _ => ⟨_, 0, rfl, trivial, lt_of_block bX, trivial, (cx 0).trans rfl, (cx 1).trans rfl, (cx 2).trans rfl, ⟨none, 0, (cx 3).trans rfl, Nat.le_refl _, fun h => absurd rfl h⟩, trivial⟩⟩
  exact ⟨_, 2, rfl, Nat.le_refl _, fun _ => ⟨_, 0, rfl, trivial, lt_of_block bP, trivial, (cp 0).trans rfl, (cp 1).trans rfl, ⟨_, (cp 2).trans rfl, nilE _ _ _⟩, ⟨none, 0, (cp 3).trans rfl, Nat.le_refl _, fun h => absurd rfl h⟩, ⟨none, 0, (cp 4).trans rfl, Nat.le_refl _, fun h => absurd rfl h⟩,
    lt_of_block bP, trivial, (cp 5).trans rfl, (cp 6).trans rfl, ⟨_, (cp 7).trans rfl, hx⟩, ⟨none, 0, (cp 8).trans rfl, Nat.le_refl _, fun h => absurd rfl h⟩, ⟨none, 0, (cp 9).trans rfl, Nat.le_refl _, fun h => absurd rfl h⟩, trivial⟩⟩
set_option maxRecDepth 100000 in
set_option maxHeartbeats 2000000 in
theorem works_v (w : World) (hT : Types w) (hF : Forms w) : Calls Tryz.prog 11 #[] w fun e w' => e = .returned (.bool true) ∧ Keeps (fun _ => False) w w' := by
  obtain ⟨Y, hY, kY, cS, fS, pS, lS⟩ := worksY w
  have h1 := mrun_v anyZ worksS worksL (by decide) false [] (.slice (some ⟨w.heap.size, 0, none⟩) 1 1) (.slice none 0 0) (.slice (some ⟨w.heap.size + 1 + 1 + 1 + 1, 0, none⟩) 2 2) Y 0 (hT.keepF kY) (hF.keepF kY) fS (nil_vals Y) pS
  rw [works_one] at h1
  have HC1 := hide h1
  have HC2 : ∀ W' u, Keeps (fun _ => False) Y W' → ValsAt W' u [⟨1, 5, []⟩] → Hid (Calls Tryz.prog 16 #[.agg #[.slice (some ⟨w.heap.size, 0, none⟩) 1 1], .slice (some ⟨w.heap.size + 1 + 1 + 1 + 1, 0, none⟩) 2 2, .agg #[.bool true, u]] W' (RowPost W' ((true, [⟨1, 10, []⟩]), 0))) := fun W' u hk hu => by
    have := mrun_v anyZ worksS worksL (by decide) true [⟨1, 5, []⟩] (.slice (some ⟨w.heap.size, 0, none⟩) 1 1) u (.slice (some ⟨w.heap.size + 1 + 1 + 1 + 1, 0, none⟩) 2 2) W' 0 (hT.keepF (kY.trans hk)) (hF.keepF (kY.trans hk)) (fS.keepF hk) hu (pS.keepF hk)
    rw [works_two] at this
    exact this
  have HKY := hide kY
  clear hT hF h1 fS pS kY
  go_enter Tryz.func11, Tryz.ntmps11
  go_wp2_with fail
  refine (unhide HC1).mono ?_
  rintro e w1 ⟨ao, ac, rfl, hown, hk1⟩
  have hv : ValsAt w1 (.slice ao 1 ac) [⟨1, 5, []⟩] := rowAt_own hown
  obtain ⟨b, off, cp, e1, hb, hc⟩ := hv.cells (by simp)
  simp at e1
  obtain ⟨rfl, rfl⟩ := e1
  have q5 := (hc 0 ⟨1, 5, []⟩ rfl).2.1
  obtain ⟨HB, hxb, hxc⟩ := boxed w1 #[.bool true, .slice (some ⟨b, off, none⟩) 1 ac] 31
  have x0 := hxc 0 (.bool true) rfl
  have x1 := hxc 1 (.slice (some ⟨b, off, none⟩) 1 ac) rfl
  have cS1 := ((hk1.trans (unhide HB)).cell (o := 0) lS id).trans cS
  have HC3 := hide (unhide (HC2 _ _ (hk1.trans (unhide HB)) (hv.keepF (unhide HB))))
  have q5' := ((unhide HB).cell hb id).trans q5
  have HK1 := hide (hk1.trans (unhide HB))
  have hb' := Nat.lt_of_lt_of_le hb (unhide HB).size
  clear hc hxc hown hv hk1 HC1 HC2
  simp only [List.length_singleton]
  go_wp2_with fail
  generalize hW2 : w1.alloc (.cells #[.bool true, .slice (some ⟨b, off, none⟩) 1 ac] 31) = W2 at *
  refine (unhide HC3).mono ?_
  rintro e w3 ⟨ao3, ac3, rfl, hown3, hk3⟩
  have hv3 : ValsAt w3 (.slice ao3 1 ac3) [⟨1, 10, []⟩] := rowAt_own hown3
  obtain ⟨b3, off3, cp3, e3, hb3, hc3⟩ := hv3.cells (by simp)
  simp at e3
  obtain ⟨rfl, rfl⟩ := e3
  have p10 := (hc3 0 ⟨1, 10, []⟩ rfl).2.1
  obtain ⟨HB3, hyb, hyc⟩ := boxed w3 #[.bool true, .slice (some ⟨b3, off3, none⟩) 1 ac3] 31
  have y0 := hyc 0 (.bool true) rfl
  have y1 := hyc 1 (.slice (some ⟨b3, off3, none⟩) 1 ac3) rfl
  have hk4 := hk3.trans (unhide HB3)
  have z0 := (hk4.cell (o := 0) hxb id).trans x0
  have z1 := (hk4.cell (o := 1) hxb id).trans x1
  have z5 := (hk4.cell hb' id).trans q5'
  have z10 := ((unhide HB3).cell hb3 id).trans p10
  have HK4 := hide ((unhide HKY).trans ((unhide HK1).trans hk4))
  clear hc3 hyc hown3 hv3 hk3 hk4 q5 q5' p10 x0 x1 HC3 HK1 cS1
  simp only [List.length_singleton, Nat.zero_mul, Nat.add_zero] at z5 z10 ⊢
  generalize hW4 : w3.alloc (.cells #[.bool true, .slice (some ⟨b3, off3, none⟩) 1 ac3] 31) = W4 at *
  go_wp2_with fail
  go_ret
  exact ⟨by rfl, unhide HK4⟩
end Go.Proofs.YtijfnlfgehcpaaaGreatDoor
