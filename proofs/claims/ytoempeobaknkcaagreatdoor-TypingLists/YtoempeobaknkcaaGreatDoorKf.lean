import Derived.Test.YtoempeobaknkcaaGreatDoorJyap
namespace Go.Proofs.YtoempeobaknkcaaGreatDoor
open Go.RowKit Go.Maps

/-- What a walk through a rule has laid: all that was there stands, the result's cell stands, and in these blocks stands one number each. -/
structure Led (w : World) (R : Nat) (L : List (Nat × Int)) (cur : World) : Prop where
  kept : Keeps (fun _ => False) w cur
  res : cur.heap[R]? = some (.cells #[.int .i64 0, .bool false] 80 (0, 0))
  one : ∀ p ∈ L, cur.heap[p.1]? = some (.cells #[.int .i64 p.2] 3 (0, 0))
theorem Led.keep {w : World} {R : Nat} {L : List (Nat × Int)} {cur w' : World} (h : Led w R L cur) (hk : Keeps (fun _ => False) cur w') : Led w R L w' :=
  ⟨h.kept.trans hk, (hk.block _ (lt_of_block h.res) id).trans h.res, fun p hp => (hk.block _ (lt_of_block (h.one p hp)) id).trans (h.one p hp)⟩
theorem Led.drew {w : World} {R : Nat} {L : List (Nat × Int)} {cur : World} (h : Led w R L cur) : Led w R L cur.drew := h.keep (Keeps.refl _ _).drew
theorem Led.lay {w : World} {R : Nat} {L : List (Nat × Int)} {cur : World} (h : Led w R L cur) (t : Int) : Led w R (L ++ [(cur.heap.size, t)]) (cur.alloc (.cells #[.int .i64 t] 3)) := by
  have h2 := h.keep ((Keeps.refl (fun _ => False) cur).alloc (.cells #[.int .i64 t] 3))
  refine ⟨h2.kept, h2.res, fun p hp => ?_⟩
  rcases List.mem_append.1 hp with hp | hp
  · exact h2.one p hp
  · obtain rfl : p = (cur.heap.size, t) := by simpa using hp
    exact heap_alloc_new cur _
theorem Led.num {w : World} {R : Nat} {L : List (Nat × Int)} {cur : World} (h : Led w R L cur) {b : Nat} {t : Int} (hm : (b, t) ∈ L) : IntsAt cur (.slice (some ⟨b, 0, none⟩) 1 1) [t] := by
  have hb := h.one _ hm
  refine ⟨⟨_, _, rfl⟩, fun _ => ⟨b, 0, _, rfl, lt_of_block hb, fun j x hx => ?_⟩, fun ao m cap e => by simp at e; omega⟩
  rw [cell_of_blk hb]
  simpa [ints] using hx
/-- Held against a type that was laid for the call. -/
theorem isPlain_led (k : KA) {w : World} {R : Nat} {L : List (Nat × Int)} {cur : World} (h : Led w R L cur) {b : Nat} {t : Int} (hm : (b, t) ∈ L) : Calls Tryz.prog 93 #[kindV k, .slice (some ⟨b, 0, none⟩) 1 1] cur fun e w' => e = .returned (.int .i64 (plainI k [t])) ∧ Led w R L w' :=
  (isPlain_v k [t] _ cur (h.num hm) (by simp)).mono fun _ _ ⟨he, hk⟩ => ⟨he, h.keep hk⟩
theorem isPlain_kept (k : KA) {w : World} {R : Nat} {L : List (Nat × Int)} {cur : World} (h : Led w R L cur) {tv : Value} {ts : List Int} (ht : IntsAt w tv ts) (hl : ts.length ≤ 1000) : Calls Tryz.prog 93 #[kindV k, tv] cur fun e w' => e = .returned (.int .i64 (plainI k ts)) ∧ Led w R L w' :=
  (isPlain_v k ts _ cur (ht.keepF h.kept) hl).mono fun _ _ ⟨he, hk⟩ => ⟨he, h.keep hk⟩
theorem isOpt_led (k : KA) {w : World} {R : Nat} {L : List (Nat × Int)} {cur : World} (h : Led w R L cur) : Calls Tryz.prog 97 #[kindV k] cur fun e w' => e = .returned (.int .i64 (optI k)) ∧ Led w R L w' :=
  (isOptional_v k cur).mono fun _ _ ⟨he, hk⟩ => ⟨he, h.keep hk⟩
theorem plain_led (t : Int) {w : World} {R : Nat} {L : List (Nat × Int)} {cur : World} (h : Led w R L cur) : Calls Tryz.prog 94 #[.int .i64 t] cur fun e w' => e = .returned (kindV ⟨t, false⟩) ∧ Led w R L w' :=
  (plain_v t cur).mono fun _ _ ⟨he, hk⟩ => ⟨he, h.keep hk⟩
theorem or_led (es : List Int) (n : Nat) (hn : n = es.length) (hl : es.length ≤ 1000) {w : World} {R : Nat} {L : List (Nat × Int)} {cur : World} (h : Led w R L cur) : Calls Tryz.prog 96 #[.slice (some ⟨cur.heap.size, 0, none⟩) n n] (cur.alloc (.cells (ints es).toArray 30)) fun e w' => e = .returned (.int .i64 (orL es)) ∧ Led w R L w' :=
  (or_v es _ _ (ints_new cur es 30 n hn) hl).mono fun _ _ ⟨he, hw⟩ => ⟨he, by subst hw; exact h.keep ((Keeps.refl _ _).alloc _)⟩
/-- The beginning of a rule's walk: the expression's box, and the result's cell. -/
theorem led_start (w : World) (cs : Array Value) (t : TypeId) : Led w (w.heap.size + 1) [] ((w.alloc (.cells cs t)).alloc (.cells #[.int .i64 0, .bool false] 80)) := by
  refine ⟨((Keeps.refl _ w).alloc _).alloc _, ?_, fun p hp => by simp at hp⟩
  have h := heap_alloc_new (w.alloc (.cells cs t)) (.cells #[.int .i64 0, .bool false] 80)
  simpa using h
/-- Its end: the kind is written. -/
theorem Led.done {w : World} {R : Nat} {L : List (Nat × Int)} {cur : World} (h : Led w R L cur) (hR : w.heap.size ≤ R) (x y : Value) : Keeps (fun _ => False) w ((cur.setCell ⟨R, 0, none⟩ x).setCell ⟨R, 1, none⟩ y) :=
  h.kept.narrow (keeps_set2 cur R x y) (fun q e => by omega)

set_option maxRecDepth 100000 in
set_option maxHeartbeats 4000000 in
theorem comparesF_v (op n : Int) (s : Txt) (ao : Option Addr) (xn xc : Nat) (k0 k1 : KA) (ts : List Int) (kv tv : Value) (tb : Nat) (w : World) (hks : KsAt w kv [k0, k1]) (htb : tb < w.heap.size)
    (ht : w.cell? ⟨tb, 0, none⟩ = some tv) (hts : IntsAt w tv ts) (hl : ts.length ≤ 1000) :
    Calls Tryz.prog 98 #[.agg #[.int .i64 op, .int .i64 n, str s, .slice ao xn xc], kv, .pointer (some ⟨tb, 0, none⟩)] w fun e w' => e = .returned (kerV (⟨2, false⟩, orI (plainI k0 ts) (plainI k1 [k0.t]))) ∧ Keeps (fun _ => False) w w' := by
  obtain ⟨b, off, c, rfl, hbl, hc⟩ := hks.cells (by simp)
  have a0 := (hc 0 k0 rfl).1
  have a1 := (hc 0 k0 rfl).2
  have a2 := (hc 1 k1 rfl).1
  have a3 := (hc 1 k1 rfl).2
  simp only [Nat.zero_mul, Nat.add_zero, Nat.one_mul] at a0 a1 a2 a3
  have SK : ∀ w' : World, Keeps (fun _ => False) w w' → w'.cell? ⟨b, off, none⟩ = some (.int .i64 k0.t) ∧ w'.cell? ⟨b, off + 1, none⟩ = some (.bool k0.o) ∧ w'.cell? ⟨b, off + 2, none⟩ = some (.int .i64 k1.t) ∧ w'.cell? ⟨b, off + 2 + 1, none⟩ = some (.bool k1.o) ∧ w'.cell? ⟨tb, 0, none⟩ = some tv := fun w' hk =>
    ⟨(hk.cell hbl id).trans a0, (hk.cell hbl id).trans a1, (hk.cell hbl id).trans a2, (hk.cell hbl id).trans a3, (hk.cell htb id).trans ht⟩
  have HSK := hide SK
  have HTS := hide hts
  have hR : w.heap.size ≤ w.heap.size + 1 := Nat.le_succ _
  have HL := hide (led_start w #[.int .i64 op, .int .i64 n, str s, .slice ao xn xc] 57)
  obtain ⟨to, tc, rfl⟩ := RowAt.form hts
  rw [← orL_two]
  clear hks hts hc a0 a1 a2 a3 SK ht
  go_enter Tryz.func98, Tryz.ntmps98
  go_wp2_with fail
  go_region_held3 (fun w' => w'.cell? ⟨b, off, none⟩ = some (.int .i64 k0.t) ∧ w'.cell? ⟨b, off + 1, none⟩ = some (.bool k0.o) ∧ w'.cell? ⟨b, off + 2, none⟩ = some (.int .i64 k1.t) ∧ w'.cell? ⟨b, off + 2 + 1, none⟩ = some (.bool k1.o) ∧ w'.cell? ⟨tb, 0, none⟩ = some (.slice to ts.length tc))
    (first | with_reducible exact unhide HSK _ (unhide HL).kept | with_reducible exact unhide HSK _ ((unhide HL).lay _).kept | with_reducible exact unhide HSK _ (unhide HL).kept.drew | with_reducible exact unhide HSK _ ((unhide HL).lay _).kept.drew | with_reducible exact unhide HSK _ ((unhide HL).kept.alloc _) | with_reducible exact unhide HSK _ ((unhide HL).done hR _ _))
    ((first
    | (go_at_call 94; refine (plain_led 2 (by first | with_reducible exact unhide HL | with_reducible exact (unhide HL).lay _ | with_reducible exact (unhide HL).drew | with_reducible exact ((unhide HL).lay _).drew)).mono ?_; rintro e w1 ⟨rfl, hl1⟩; have HL := hide hl1; clear hl1)
    | (go_at_call_of 93 (Value.slice to ts.length tc); refine (isPlain_kept k0 (by first | with_reducible exact unhide HL | with_reducible exact (unhide HL).lay _) (unhide HTS) hl).mono ?_; rintro e w1 ⟨rfl, hl1⟩; have HL := hide hl1; clear hl1)
    | (go_at_call 93; refine (isPlain_led k1 (by first | with_reducible exact unhide HL | with_reducible exact (unhide HL).lay _) (t := k0.t) (by simp)).mono ?_; rintro e w1 ⟨rfl, hl1⟩; have HL := hide hl1; clear hl1)
    | (go_at_call 96; refine (or_led [plainI k0 ts, plainI k1 [k0.t]] 2 rfl (by simp) (unhide HL)).mono ?_; rintro e w1 ⟨rfl, hl1⟩; have m0 := cell_of_blk hl1.res 0; have m1 := cell_of_blk hl1.res 1; simp at m0 m1; have g0 := frozen_of_blk hl1.res 0; have g1 := frozen_of_blk hl1.res 1; have HL := hide hl1; clear hl1)))
  all_goals go_wp2_with fail
  all_goals (obtain ⟨⟨s0, s1, _⟩, _⟩ := set2 (unhide HL).res (.int .i64 2) (.bool false); refine bodyPost_ret (v := kerV (⟨2, false⟩, orL [plainI k0 ts, plainI k1 [k0.t]])) (by simp [results, go_sem, s0, s1]) rfl ?_; exact ⟨rfl, (unhide HL).done (by omega) _ _⟩)
end Go.Proofs.YtoempeobaknkcaaGreatDoor
