import Derived.Test.YtiinohibmcefkaaGreatDoorJao
import Derived.Test.YtiinohibmcefkaaGreatDoorPf
namespace Go.Proofs.YtiinohibmcefkaaGreatDoor
open Go.RowKit Go.Maps

set_option maxRecDepth 100000 in
set_option maxHeartbeats 8000000 in
theorem setF_yes (Z : Zone) (j mb nn tab : Nat) (S : List FieldA) (hS : (S.map FieldA.name).Nodup) (op : Int) (f : Txt) (hl : f.length ≤ 1000) (o n : Int) (s : Txt) (kids : EL) (hsz : kids.size + 1 ≤ 4294967294) (xv : Value) (up : Nat) (to eo : Option Addr) (tn tc en ec : Nat) (w : World) (h : JudgeAt w j mb nn tab S)
    (hx : SlE Z w up xv (.cons o n s kids .nil)) (hr : rootB o n s kids.len = true) (hw : wellE kids = true) (hO : (kindP S o s kids).1.o = true) :
    Calls Tryz.prog 181 #[.pointer (some ⟨j, 0, none⟩), stV op f xv (.slice to tn tc) (.slice eo en ec)] w fun e w' => e = .returned (.int .i64 (orL [(namedK S f).2, (kindP S o s kids).2, ofI (kindP S o s kids).1 [(namedK S f).1.t], if (kindP S o s kids).1.o = true ∧ (namedK S f).1.o = false then 92 else 0])) ∧ Keeps (fun _ => False) w w' := by
  obtain ⟨xo, xc, b, off, rfl, hcap, ha, hin⟩ := hx.open
  obtain ⟨rfl, _⟩ := ha (by simp [EL.len])
  obtain ⟨h1, h2, h3, h4, h5, ⟨kao, kcap, h6, h7, h8⟩, _⟩ := hin
  have hkid : SlE Z w b (.slice kao kids.len kcap) kids := ⟨kao, kcap, rfl, h7, h8⟩
  have hlen : (EL.cons o n s kids .nil).len = 1 := rfl
  rw [hlen] at hcap ⊢
  obtain ⟨HB, hxb, hxc⟩ := boxedT w #[.int .i64 op, str f, .slice (some ⟨b, off, none⟩) 1 xc, .slice to tn tc, .slice eo en ec] 39
  have c1 := hxc 1 (str f) rfl
  have SB : ∀ w', Keeps (fun _ => False) (w.alloc (.cells #[.int .i64 op, str f, .slice (some ⟨b, off, none⟩) 1 xc, .slice to tn tc, .slice eo en ec] 39)) w' → w'.cell? ⟨w.heap.size, 2, none⟩ = some (.slice (some ⟨b, off, none⟩) 1 xc) ∧ w'.cell? ⟨b, off, none⟩ = some (.int .i64 o) ∧ w'.cell? ⟨b, off + 1, none⟩ = some (.int .i64 n) ∧ w'.cell? ⟨b, off + 2, none⟩ = some (str s) ∧ w'.cell? ⟨b, off + 3, none⟩ = some (.slice kao kids.len kcap) := fun w' hk =>
    ⟨(hk.cell hxb id).trans (hxc 2 _ rfl), (((unhide HB).trans hk).cell h1 id).trans h3, (((unhide HB).trans hk).cell h1 id).trans h4, (((unhide HB).trans hk).cell h1 id).trans h5, (((unhide HB).trans hk).cell h1 id).trans h6⟩
  have HSB := hide SB
  have HN := hide (namedJ_v j mb nn S hS f hl _ (h.map.keepF (unhide HB)))
  have HE := fun w' (hk : Keeps (fun _ => False) w w') => hide (exprJ_v Z j mb nn tab S hS (kids.size + 1) kids (by omega) (by omega) o n s w' b (.slice kao kids.len kcap) (h.keepF hk) (hkid.keepF hk) hr hw)
  obtain ⟨⟨⟨T, O⟩, E⟩, hp⟩ : ∃ p, p = namedK S f := ⟨_, rfl⟩
  obtain ⟨⟨⟨T2, O2⟩, E2⟩, hp2⟩ : ∃ p, p = kindP S o s kids := ⟨_, rfl⟩
  rw [← hp] at HN ⊢
  rw [← hp2] at HE hO ⊢
  have hO2 : O2 = true := hO
  subst hO2
  clear hO
  clear hp hp2 h hxc hkid hx h2 h3 h4 h5 h6 h8 hr hw ha SB
  have hU : (if true = true ∧ O = false then (92 : Int) else 0) = unlessI (!true || O) 92 := by cases O <;> rfl
  show Calls _ _ _ _ (fun e w' => e = .returned (.int .i64 (orL [E, E2, ofI ⟨T2, true⟩ [T], if true = true ∧ O = false then 92 else 0])) ∧ _)
  rw [hU]
  clear hU
  obtain ⟨U, hU⟩ : ∃ u, u = unlessI (!true || O) 92 := ⟨_, rfl⟩
  rw [← hU]
  have HU := hide hU
  clear hU
  go_enter Tryz.func181, Tryz.ntmps181
  go_wp2_with (first
    | (go_at_call 210; refine (unhide HN).mono ?_; rintro e w1 ⟨rfl, hk1⟩; have hka := hk1.alloc (.cells #[.int .i64 T, .bool O] 113); have d1 := unhide HSB _ hka; have HBA := hide (heap_alloc_new w1 (.cells #[.int .i64 T, .bool O] 113)); have HK1 := hide ((unhide HB).trans hka); clear hk1 hka)
    | (go_at_call 72; refine (unhide (HE _ (unhide HK1))).mono ?_; rintro e w2 ⟨rfl, hk2⟩; have hkb := hk2.alloc (.cells #[.int .i64 T2, .bool true] 113); have HBA2 := hide ((hkb.block _ (lt_of_block (unhide HBA)) id).trans (unhide HBA)); have HBB := hide (heap_alloc_new w2 (.cells #[.int .i64 T2, .bool true] 113)); have HK2 := hide ((unhide HK1).trans hkb); clear hk2 hkb))
  have hA := unhide HBA2
  have hB := unhide HBB
  have SK : ∀ w', Keeps (fun _ => False) (w2.alloc (.cells #[.int .i64 T2, .bool true] 113)) w' → w'.cell? ⟨w1.heap.size, 0, none⟩ = some (.int .i64 T) ∧ w'.cell? ⟨w1.heap.size, 1, none⟩ = some (.bool O) ∧ w'.cell? ⟨w2.heap.size, 0, none⟩ = some (.int .i64 T2) ∧ w'.cell? ⟨w2.heap.size, 1, none⟩ = some (.bool true) := fun w' hk => by
    have k0 := (hk.block _ (lt_of_block hA) id).trans hA
    have k1 := (hk.block _ (lt_of_block hB) id).trans hB
    exact ⟨by rw [cell_of_blk k0]; rfl, by rw [cell_of_blk k0]; rfl, by rw [cell_of_blk k1]; rfl, by rw [cell_of_blk k1]; rfl⟩
  have HSK := hide SK
  have HL : Hid (Lay (w2.alloc (.cells #[.int .i64 T2, .bool true] 113)) [] (w2.alloc (.cells #[.int .i64 T2, .bool true] 113))) := ⟨Keeps.refl _ _, fun p hp => by simp at hp⟩
  clear hA hB SK HBA HBA2 HBB d1 HE HN HSB
  go_region_held3 (fun w' => w'.cell? ⟨w1.heap.size, 0, none⟩ = some (.int .i64 T) ∧ w'.cell? ⟨w1.heap.size, 1, none⟩ = some (.bool O) ∧ w'.cell? ⟨w2.heap.size, 0, none⟩ = some (.int .i64 T2) ∧ w'.cell? ⟨w2.heap.size, 1, none⟩ = some (.bool true))
    (first | with_reducible exact unhide HSK _ (unhide HL).kept | with_reducible exact unhide HSK _ ((unhide HL).lay _).kept | with_reducible exact unhide HSK _ (((unhide HL).lay _).lay _).kept | with_reducible exact unhide HSK _ (unhide HL).kept.drew | with_reducible exact unhide HSK _ ((unhide HL).lay _).kept.drew | with_reducible exact unhide HSK _ (((unhide HL).lay _).lay _).kept.drew | with_reducible exact unhide HSK _ ((unhide HL).kept.alloc _) | with_reducible exact unhide HSK _ ((unhide HL).drew.lay _).kept | with_reducible exact unhide HSK _ (((unhide HL).drew.lay _).lay _).kept)
    ((first
    | (go_at_call 214; refine (isOf_lay ⟨T2, true⟩ (by first | with_reducible exact unhide HL | with_reducible exact (unhide HL).lay _ | with_reducible exact ((unhide HL).lay _).lay _ | with_reducible exact (unhide HL).drew.lay _ | with_reducible exact ((unhide HL).drew.lay _).lay _ | with_reducible exact ((unhide HL).lay _).drew | with_reducible exact (((unhide HL).lay _).lay _).drew) (t := T) (by simp)).mono ?_; rintro e w3 ⟨rfl, hl1⟩; have HL := hide hl1; clear hl1)
    | (go_at_call 215; refine (unless_lay _ 92 (by first | with_reducible exact unhide HL | with_reducible exact (unhide HL).drew | with_reducible exact (unhide HL).lay _ | with_reducible exact ((unhide HL).lay _).drew)).mono ?_; rintro e w3 ⟨rfl, hl1⟩; have HL := hide hl1; clear hl1)
    | (go_at_call 211; refine (or_lay E E2 (ofI ⟨T2, true⟩ [T]) _ (unhide HL)).mono ?_; rintro e w3 ⟨rfl, hl1⟩; have HL := hide hl1; clear hl1)))
  all_goals go_wp2_with fail
  all_goals (go_ret; exact ⟨by rw [unhide HU]; rfl, (unhide HK2).trans (unhide HL).kept⟩)
end Go.Proofs.YtiinohibmcefkaaGreatDoor
namespace Go.Proofs.YtiinohibmcefkaaGreatDoor
open Go.RowKit Go.Maps

set_option maxRecDepth 100000 in
set_option maxHeartbeats 8000000 in
theorem setF_no (Z : Zone) (j mb nn tab : Nat) (S : List FieldA) (hS : (S.map FieldA.name).Nodup) (op : Int) (f : Txt) (hl : f.length ≤ 1000) (o n : Int) (s : Txt) (kids : EL) (hsz : kids.size + 1 ≤ 4294967294) (xv : Value) (up : Nat) (to eo : Option Addr) (tn tc en ec : Nat) (w : World) (h : JudgeAt w j mb nn tab S)
    (hx : SlE Z w up xv (.cons o n s kids .nil)) (hr : rootB o n s kids.len = true) (hw : wellE kids = true) (hO : (kindP S o s kids).1.o = false) :
    Calls Tryz.prog 181 #[.pointer (some ⟨j, 0, none⟩), stV op f xv (.slice to tn tc) (.slice eo en ec)] w fun e w' => e = .returned (.int .i64 (orL [(namedK S f).2, (kindP S o s kids).2, ofI (kindP S o s kids).1 [(namedK S f).1.t], if (kindP S o s kids).1.o = true ∧ (namedK S f).1.o = false then 92 else 0])) ∧ Keeps (fun _ => False) w w' := by
  obtain ⟨xo, xc, b, off, rfl, hcap, ha, hin⟩ := hx.open
  obtain ⟨rfl, _⟩ := ha (by simp [EL.len])
  obtain ⟨h1, h2, h3, h4, h5, ⟨kao, kcap, h6, h7, h8⟩, _⟩ := hin
  have hkid : SlE Z w b (.slice kao kids.len kcap) kids := ⟨kao, kcap, rfl, h7, h8⟩
  have hlen : (EL.cons o n s kids .nil).len = 1 := rfl
  rw [hlen] at hcap ⊢
  obtain ⟨HB, hxb, hxc⟩ := boxedT w #[.int .i64 op, str f, .slice (some ⟨b, off, none⟩) 1 xc, .slice to tn tc, .slice eo en ec] 39
  have c1 := hxc 1 (str f) rfl
  have SB : ∀ w', Keeps (fun _ => False) (w.alloc (.cells #[.int .i64 op, str f, .slice (some ⟨b, off, none⟩) 1 xc, .slice to tn tc, .slice eo en ec] 39)) w' → w'.cell? ⟨w.heap.size, 2, none⟩ = some (.slice (some ⟨b, off, none⟩) 1 xc) ∧ w'.cell? ⟨b, off, none⟩ = some (.int .i64 o) ∧ w'.cell? ⟨b, off + 1, none⟩ = some (.int .i64 n) ∧ w'.cell? ⟨b, off + 2, none⟩ = some (str s) ∧ w'.cell? ⟨b, off + 3, none⟩ = some (.slice kao kids.len kcap) := fun w' hk =>
    ⟨(hk.cell hxb id).trans (hxc 2 _ rfl), (((unhide HB).trans hk).cell h1 id).trans h3, (((unhide HB).trans hk).cell h1 id).trans h4, (((unhide HB).trans hk).cell h1 id).trans h5, (((unhide HB).trans hk).cell h1 id).trans h6⟩
  have HSB := hide SB
  have HN := hide (namedJ_v j mb nn S hS f hl _ (h.map.keepF (unhide HB)))
  have HE := fun w' (hk : Keeps (fun _ => False) w w') => hide (exprJ_v Z j mb nn tab S hS (kids.size + 1) kids (by omega) (by omega) o n s w' b (.slice kao kids.len kcap) (h.keepF hk) (hkid.keepF hk) hr hw)
  obtain ⟨⟨⟨T, O⟩, E⟩, hp⟩ : ∃ p, p = namedK S f := ⟨_, rfl⟩
  obtain ⟨⟨⟨T2, O2⟩, E2⟩, hp2⟩ : ∃ p, p = kindP S o s kids := ⟨_, rfl⟩
  rw [← hp] at HN ⊢
  rw [← hp2] at HE hO ⊢
  have hO2 : O2 = false := hO
  subst hO2
  clear hO
  clear hp hp2 h hxc hkid hx h2 h3 h4 h5 h6 h8 hr hw ha SB
  have hU : (if false = true ∧ O = false then (92 : Int) else 0) = unlessI (!false || O) 92 := by cases O <;> rfl
  show Calls _ _ _ _ (fun e w' => e = .returned (.int .i64 (orL [E, E2, ofI ⟨T2, false⟩ [T], if false = true ∧ O = false then 92 else 0])) ∧ _)
  rw [hU]
  clear hU
  obtain ⟨U, hU⟩ : ∃ u, u = unlessI (!false || O) 92 := ⟨_, rfl⟩
  rw [← hU]
  have HU := hide hU
  clear hU
  go_enter Tryz.func181, Tryz.ntmps181
  go_wp2_with (first
    | (go_at_call 210; refine (unhide HN).mono ?_; rintro e w1 ⟨rfl, hk1⟩; have hka := hk1.alloc (.cells #[.int .i64 T, .bool O] 113); have d1 := unhide HSB _ hka; have HBA := hide (heap_alloc_new w1 (.cells #[.int .i64 T, .bool O] 113)); have HK1 := hide ((unhide HB).trans hka); clear hk1 hka)
    | (go_at_call 72; refine (unhide (HE _ (unhide HK1))).mono ?_; rintro e w2 ⟨rfl, hk2⟩; have hkb := hk2.alloc (.cells #[.int .i64 T2, .bool false] 113); have HBA2 := hide ((hkb.block _ (lt_of_block (unhide HBA)) id).trans (unhide HBA)); have HBB := hide (heap_alloc_new w2 (.cells #[.int .i64 T2, .bool false] 113)); have HK2 := hide ((unhide HK1).trans hkb); clear hk2 hkb))
  have hA := unhide HBA2
  have hB := unhide HBB
  have SK : ∀ w', Keeps (fun _ => False) (w2.alloc (.cells #[.int .i64 T2, .bool false] 113)) w' → w'.cell? ⟨w1.heap.size, 0, none⟩ = some (.int .i64 T) ∧ w'.cell? ⟨w1.heap.size, 1, none⟩ = some (.bool O) ∧ w'.cell? ⟨w2.heap.size, 0, none⟩ = some (.int .i64 T2) ∧ w'.cell? ⟨w2.heap.size, 1, none⟩ = some (.bool false) := fun w' hk => by
    have k0 := (hk.block _ (lt_of_block hA) id).trans hA
    have k1 := (hk.block _ (lt_of_block hB) id).trans hB
    exact ⟨by rw [cell_of_blk k0]; rfl, by rw [cell_of_blk k0]; rfl, by rw [cell_of_blk k1]; rfl, by rw [cell_of_blk k1]; rfl⟩
  have HSK := hide SK
  have HL : Hid (Lay (w2.alloc (.cells #[.int .i64 T2, .bool false] 113)) [] (w2.alloc (.cells #[.int .i64 T2, .bool false] 113))) := ⟨Keeps.refl _ _, fun p hp => by simp at hp⟩
  clear hA hB SK HBA HBA2 HBB d1 HE HN HSB
  refine wp_region_held_drew (S := (fun w' => w'.cell? ⟨w1.heap.size, 0, none⟩ = some (.int .i64 T) ∧ w'.cell? ⟨w1.heap.size, 1, none⟩ = some (.bool O) ∧ w'.cell? ⟨w2.heap.size, 0, none⟩ = some (.int .i64 T2) ∧ w'.cell? ⟨w2.heap.size, 1, none⟩ = some (.bool false))) (by kernel_rfl) (unhide HSK _ (unhide HL).kept.drew) (fun hHeld => ?_)
  refine wpAnyH_take (i := 0) (oi := { dst := some 25, op := Op.move (Operand.tmp 6), type := 35, pos := "rules.go:141", after := #[], guard := none }) (v := .int .i64 E) rfl (by kernel_rfl) (by kernel_rfl) (by kernel_rfl) (fun _ _ _ h => h) (Or.inl ⟨by rfl, fun w' hSw => ?_⟩) hHeld ?_
  · dsimp only at hSw
    go_simp
  simp only [Act.put, List.setIfInBounds_toArray, List.set_cons_zero, List.set_cons_succ]
  refine wpAnyH_take (i := 1) (oi := { dst := some 26, op := Op.move (Operand.tmp 8), type := 35, pos := "rules.go:141", after := #[], guard := none }) (v := .int .i64 E2) rfl (by kernel_rfl) (by kernel_rfl) (by kernel_rfl) (fun _ _ _ h => h) (Or.inl ⟨by rfl, fun w' hSw => ?_⟩) hHeld ?_
  · dsimp only at hSw
    go_simp
  simp only [Act.put, List.setIfInBounds_toArray, List.set_cons_zero, List.set_cons_succ]
  refine wpAnyH_take (i := 2) (oi := { dst := some 27, op := Op.load 113 (Operand.tmp 7), type := 113, pos := "rules.go:141", after := #[], guard := none }) (v := .agg #[.int .i64 T2, .bool false]) rfl (by kernel_rfl) (by kernel_rfl) (by kernel_rfl) (fun _ _ _ h => h) (Or.inl ⟨by rfl, fun w' hSw => ?_⟩) hHeld ?_
  · dsimp only at hSw
    go_simp
  simp only [Act.put, List.setIfInBounds_toArray, List.set_cons_zero, List.set_cons_succ]
  refine wpAnyH_take (i := 3) (oi := { dst := some 28, op := Op.fieldAddr 113 (Operand.tmp 5) 0, type := 0, pos := "rules.go:141", after := #[], guard := none }) (v := .pointer (some ⟨w1.heap.size, 0, none⟩)) rfl (by kernel_rfl) (by kernel_rfl) (by kernel_rfl) (fun _ _ _ h => h) (Or.inl ⟨by rfl, fun w' hSw => ?_⟩) hHeld ?_
  · dsimp only at hSw
    go_simp
  simp only [Act.put, List.setIfInBounds_toArray, List.set_cons_zero, List.set_cons_succ]
  refine wpAnyH_take (i := 4) (oi := { dst := some 29, op := Op.load 3 (Operand.tmp 28), type := 3, pos := "rules.go:141", after := #[{ on := 3, ground := Ground.data }], guard := none }) (v := .int .i64 T) rfl (by kernel_rfl) (by kernel_rfl) (by kernel_rfl) (fun _ _ _ h => h) (Or.inl ⟨by rfl, fun w' hSw => ?_⟩) hHeld ?_
  · dsimp only at hSw
    go_simp
  simp only [Act.put, List.setIfInBounds_toArray, List.set_cons_zero, List.set_cons_succ]
  refine wpAnyH_take (i := 7) (oi := { dst := some 32, op := Op.fieldAddr 113 (Operand.tmp 7) 1, type := 0, pos := "rules.go:141", after := #[], guard := none }) (v := .pointer (some ⟨w2.heap.size, 1, none⟩)) rfl (by kernel_rfl) (by kernel_rfl) (by kernel_rfl) (fun _ _ _ h => h) (Or.inl ⟨by rfl, fun w' hSw => ?_⟩) hHeld ?_
  · dsimp only at hSw
    go_simp
  simp only [Act.put, List.setIfInBounds_toArray, List.set_cons_zero, List.set_cons_succ]
  refine wpAnyH_take (i := 8) (oi := { dst := some 33, op := Op.load 4 (Operand.tmp 32), type := 4, pos := "rules.go:141", after := #[{ on := 7, ground := Ground.data }], guard := none }) (v := .bool false) rfl (by kernel_rfl) (by kernel_rfl) (by kernel_rfl) (fun _ _ _ h => h) (Or.inl ⟨by rfl, fun w' hSw => ?_⟩) hHeld ?_
  · dsimp only at hSw
    go_simp
  simp only [Act.put, List.setIfInBounds_toArray, List.set_cons_zero, List.set_cons_succ]
  refine wpAnyH_take (i := 9) (oi := { dst := some 34, op := Op.unOp UnOp.not 4 (Operand.tmp 33), type := 4, pos := "rules.go:141", after := #[{ on := 8, ground := Ground.data }], guard := none }) (v := .bool true) rfl (by kernel_rfl) (by kernel_rfl) (by kernel_rfl) (fun _ _ _ h => h) (Or.inl ⟨by rfl, fun w' hSw => ?_⟩) hHeld ?_
  · dsimp only at hSw
    go_simp
  simp only [Act.put, List.setIfInBounds_toArray, List.set_cons_zero, List.set_cons_succ]
  refine wpAnyH_ready (rs := [5]) (by kernel_rfl) (by simp) ?_
  refine AllReadyH.cons rfl (fun K hK => ?_) AllReadyH.nil
  go_simp
  refine hK.out _ _ (unhide HSK _ ((unhide HL).lay T).kept.drew) (fun hHeld => ?_)
  clear hK K
  refine wpAnyH_ready (rs := [6]) (by kernel_rfl) (by simp) ?_
  refine AllReadyH.cons rfl (fun K hK => ?_) AllReadyH.nil
  go_simp
  refine (isOf_lay ⟨T2, false⟩ ((unhide HL).lay T).drew (t := T) (by simp)).mono ?_
  rintro e w3 ⟨rfl, hl1⟩
  refine hK.out _ _ (unhide HSK _ hl1.kept) (fun hHeld => ?_)
  clear hK K
  refine wpAnyH_take (i := 10) (oi := { dst := some 35, op := Op.move (Operand.tmp 34), type := 4, pos := "rules.go:141", after := #[{ on := 9, ground := Ground.data }, { on := 6, ground := Ground.chain }], guard := none }) (v := .bool true) rfl (by kernel_rfl) (by kernel_rfl) (by kernel_rfl) (fun _ _ _ h => h) (Or.inl ⟨by rfl, fun w' hSw => ?_⟩) hHeld ?_
  · dsimp only at hSw
    go_simp
  simp only [Act.put, List.setIfInBounds_toArray, List.set_cons_zero, List.set_cons_succ]
  refine wpAnyH_take (i := 11) (oi := { dst := some 36, op := Op.fieldAddr 113 (Operand.tmp 5) 1, type := 0, pos := "rules.go:141", after := #[{ on := 10, ground := Ground.guard }], guard := some (10, false) }) (v := undef) rfl (by kernel_rfl) (by kernel_rfl) (by kernel_rfl) (fun _ _ _ h => h) (Or.inr ⟨by rfl, rfl⟩) hHeld ?_
  simp only [Act.put, List.setIfInBounds_toArray, List.set_cons_zero, List.set_cons_succ]
  refine wpAnyH_take (i := 12) (oi := { dst := some 37, op := Op.load 4 (Operand.tmp 36), type := 4, pos := "rules.go:141", after := #[{ on := 11, ground := Ground.data }, { on := 10, ground := Ground.guard }], guard := some (10, false) }) (v := undef) rfl (by kernel_rfl) (by kernel_rfl) (by kernel_rfl) (fun _ _ _ h => h) (Or.inr ⟨by rfl, rfl⟩) hHeld ?_
  simp only [Act.put, List.setIfInBounds_toArray, List.set_cons_zero, List.set_cons_succ]
  refine wpAnyH_take (i := 13) (oi := { dst := some 38, op := Op.pick (Operand.tmp 35) (Operand.const (Value.bool true)) (Operand.tmp 37), type := 4, pos := "rules.go:141", after := #[{ on := 10, ground := Ground.data }, { on := 12, ground := Ground.data }], guard := none }) (v := .bool true) rfl (by kernel_rfl) (by kernel_rfl) (by kernel_rfl) (fun _ _ _ h => h) (Or.inl ⟨by rfl, fun w' hSw => ?_⟩) hHeld ?_
  · dsimp only at hSw
    go_simp
  simp only [Act.put, List.setIfInBounds_toArray, List.set_cons_zero, List.set_cons_succ]
  refine wpAnyH_ready (rs := [14]) (by kernel_rfl) (by simp) ?_
  refine AllReadyH.cons rfl (fun K hK => ?_) AllReadyH.nil
  go_simp
  refine (unless_lay true 92 hl1).mono ?_
  rintro e w4 ⟨rfl, hl2⟩
  refine hK.out _ _ (unhide HSK _ hl2.kept) (fun hHeld => ?_)
  clear hK K
  refine wpAnyH_ready (rs := [15]) (by kernel_rfl) (by simp) ?_
  refine AllReadyH.cons rfl (fun K hK => ?_) AllReadyH.nil
  go_simp
  refine hK.out _ _ (unhide HSK _ (hl2.kept.alloc _)) (fun hHeld => ?_)
  clear hK K
  refine wpAnyH_ready (rs := [16]) (by kernel_rfl) (by simp) ?_
  refine AllReadyH.cons rfl (fun K hK => ?_) AllReadyH.nil
  go_simp
  refine (or_lay E E2 (ofI ⟨T2, false⟩ [T]) (unlessI true 92) hl2).mono ?_
  rintro e w5 ⟨rfl, hl3⟩
  refine hK.out _ _ (unhide HSK _ hl3.kept) (fun hHeld => ?_)
  clear hK K
  refine wpAnyH_ready (rs := [17]) (by kernel_rfl) (by simp) ?_
  refine AllReadyH.cons rfl (fun K hK => ?_) AllReadyH.nil
  go_simp
  refine hK.out _ _ (unhide HSK _ hl3.kept) (fun hHeld => ?_)
  clear hK K
  refine wpAnyH_done (by kernel_rfl) ?_ _
  go_wp2_with fail
  go_ret
  exact ⟨by rw [unhide HU]; rfl, (unhide HK2).trans hl3.kept⟩
end Go.Proofs.YtiinohibmcefkaaGreatDoor
namespace Go.Proofs.YtiinohibmcefkaaGreatDoor
open Go.RowKit Go.Maps

theorem EL.one_of : ∀ {x : EL}, x.len = 1 → ∃ o n s kids, x = .cons o n s kids .nil
  | .nil, h => by simp [EL.len] at h
  | .cons o n s kids .nil, _ => ⟨o, n, s, kids, rfl⟩
  | .cons _ _ _ _ (.cons _ _ _ _ _), h => by simp [EL.len] at h
/-- What the head of a statement tells. -/
theorem head_open {op : Int} {f : Txt} {x : EL} {t e : Nat} (h : headS op f x.len t e = true) :
    ((op = 1 ∨ op = 2 ∨ op = 3 ∨ op = 4) ∧ f.length ≤ 8 ∧ x.len = 1) ∨ (op = 5 ∧ f.length ≤ 8 ∧ x = .nil) ∨ ((op = 6 ∨ op = 7) ∧ x = .nil) ∨ (op = 8 ∧ x.len = 1) := by
  unfold headS at h
  split at h
  · rename_i h1
    simp only [Bool.and_eq_true, decide_eq_true_eq] at h
    exact Or.inl ⟨h1, name_short h.1, h.2.1⟩
  · split at h
    · rename_i h1
      simp only [Bool.and_eq_true, decide_eq_true_eq] at h
      exact Or.inr (Or.inl ⟨h1, name_short h.1, EL.len0 h.2.1⟩)
    · split at h
      · rename_i h1
        simp only [Bool.and_eq_true, decide_eq_true_eq] at h
        exact Or.inr (Or.inr (Or.inl ⟨h1, EL.len0 h.2.1⟩))
      · split at h
        · rename_i h1
          simp only [Bool.and_eq_true, decide_eq_true_eq] at h
          exact Or.inr (Or.inr (Or.inr ⟨h1, h.2⟩))
        · cases h
/-- Every statement of the list is well made by itself. -/
def wellF (N : Nat) : SL → Prop
  | .nil => True
  | .cons op f x t e r => headS op f x.len t.len e.len = true ∧ wellE x = true ∧ x.size ≤ N ∧ wellF N r
theorem wellF_app {N : Nat} : ∀ {l m : SL}, wellF N l → wellF N m → wellF N (l.app m)
  | .nil, _, _, h => h
  | .cons _ _ _ _ _ _, _, ⟨h1, h2, h3, h4⟩, h => ⟨h1, h2, h3, wellF_app h4 h⟩
theorem flat_well {N : Nat} : ∀ l : SL, l.size ≤ N → wellS l = true → wellF N (flatS l)
  | .nil, _, _ => trivial
  | .cons op f x t e r, hN, h => by
    simp only [wellS, Bool.and_eq_true, SL.size] at h hN
    exact ⟨h.1, h.2.1, by omega, wellF_app (flat_well t (by omega) h.2.2.1) (wellF_app (flat_well e (by omega) h.2.2.2.1) (flat_well r (by omega) h.2.2.2.2))⟩
/-- What the judge says of a statement. -/
theorem stmtJ_v (Z : Zone) (j mb nn tab : Nat) (S : List FieldA) (hS : (S.map FieldA.name).Nodup) (op : Int) (f : Txt) (x : EL) (t e : SL) (xv tv ev : Value) (up : Nat) (w : World) (hJ : JudgeAt w j mb nn tab S) (hT : StmtsAt w j)
    (hx : SlE Z w up xv x) (hv : ∃ to tn tc eo en ec, tv = .slice to tn tc ∧ ev = .slice eo en ec) (hh : headS op f x.len t.len e.len = true) (hw : wellE x = true) (hsz : x.size ≤ 4294967294) :
    Calls Tryz.prog 84 #[.pointer (some ⟨j, 0, none⟩), stV op f xv tv ev] w fun e w' => e = .returned (.int .i64 (ownP S op f x)) ∧ Keeps (fun _ => False) w w' := by
  obtain ⟨xo, xc, rfl, _⟩ := hx.head
  obtain ⟨to, tn, tc, eo, en, ec, rfl, rfl⟩ := hv
  have hv : ∃ xo' xn xc' to' tn' tc' eo' en' ec', Value.slice xo x.len xc = .slice xo' xn xc' ∧ Value.slice to tn tc = .slice to' tn' tc' ∧ Value.slice eo en ec = .slice eo' en' ec' := ⟨_, _, _, _, _, _, _, _, _, rfl, rfl, rfl⟩
  have hj := hJ.map.lt
  rcases head_open hh with ⟨h1, hf, hl⟩ | ⟨rfl, hf, rfl⟩ | ⟨h1, rfl⟩ | ⟨rfl, hl⟩
  · obtain ⟨o, n, s, kids, rfl⟩ := EL.one_of hl
    simp only [wellE, Bool.and_eq_true, EL.size] at hw hsz
    rcases h1 with rfl | rfl | rfl | rfl
    · have hR : ownP S 1 f (.cons o n s kids .nil) = orL [(namedK S f).2, (kindP S o s kids).2, ofI (kindP S o s kids).1 [(namedK S f).1.t], if (kindP S o s kids).1.o = true ∧ (namedK S f).1.o = false then 92 else 0] := by
        unfold ownP
        rw [if_pos rfl]
        rfl
      rw [hR]
      refine stmtJ1 j f _ _ _ hv _ w hj hT (fun w' hk => ?_)
      cases hO : (kindP S o s kids).1.o with
      | true =>
        have := setF_yes Z j mb nn tab S hS 1 f (by omega) o n s kids (by omega) _ up to eo tn tc en ec w' (hJ.keepF hk) (hx.keepF hk) hw.1 hw.2.1 hO
        rw [hO] at this
        exact this
      | false =>
        have := setF_no Z j mb nn tab S hS 1 f (by omega) o n s kids (by omega) _ up to eo tn tc en ec w' (hJ.keepF hk) (hx.keepF hk) hw.1 hw.2.1 hO
        rw [hO] at this
        exact this
    all_goals
      have hR : ∀ k : Int, k = 2 ∨ k = 3 ∨ k = 4 → ownP S k f (.cons o n s kids .nil) = orL [(namedK S f).2, (kindP S o s kids).2, ofI (namedK S f).1 [1], plainI (kindP S o s kids).1 [1]] := fun k hk => by
        unfold ownP
        rw [if_neg (by omega), if_pos hk]
        rfl
    · rw [hR 2 (by omega)]
      exact stmtJ2 j f _ _ _ hv _ w hj hT (fun w' hk => changeF_v Z j mb nn tab S hS 2 f (by omega) o n s kids (by omega) _ up to eo tn tc en ec w' (hJ.keepF hk) (hx.keepF hk) hw.1 hw.2.1)
    · rw [hR 3 (by omega)]
      exact stmtJ3 j f _ _ _ hv _ w hj hT (fun w' hk => changeF_v Z j mb nn tab S hS 3 f (by omega) o n s kids (by omega) _ up to eo tn tc en ec w' (hJ.keepF hk) (hx.keepF hk) hw.1 hw.2.1)
    · rw [hR 4 (by omega)]
      exact stmtJ4 j f _ _ _ hv _ w hj hT (fun w' hk => changeF_v Z j mb nn tab S hS 4 f (by omega) o n s kids (by omega) _ up to eo tn tc en ec w' (hJ.keepF hk) (hx.keepF hk) hw.1 hw.2.1)
  · exact stmtJ5 j f _ _ _ hv _ w hj hT (fun w' hk => clearF_v j mb nn S hS 5 f (by omega) xo to eo _ xc tn tc en ec w' ((hJ.map).keepF hk))
  · rcases h1 with rfl | rfl
    · exact stmtJ6 j f _ _ _ hv _ w hj hT (fun w' hk => alwaysF_v 6 f xo to eo _ xc tn tc en ec w')
    · exact stmtJ7 j f _ _ _ hv _ w hj hT (fun w' hk => alwaysF_v 7 f xo to eo _ xc tn tc en ec w')
  · obtain ⟨o, n, s, kids, rfl⟩ := EL.one_of hl
    simp only [wellE, Bool.and_eq_true, EL.size] at hw hsz
    exact stmtJ8 j f _ _ _ hv _ w hj hT (fun w' hk => chooseF_v Z j mb nn tab S hS 8 f o n s kids (by omega) _ up to eo tn tc en ec w' (hJ.keepF hk) (hx.keepF hk) hw.1 hw.2.1)
/-- The first statement of a list that does not fit. -/
def firstBad (S : List FieldA) : SL → Nat → Int × Nat
  | .nil, _ => (0, 0)
  | .cons op f x _ _ r, k => if ownP S op f x ≠ 0 then (ownP S op f x, k) else firstBad S r (k + 1)
/-- What Check answers. -/
def checkP (S : List FieldA) (l : SL) : Int × Nat := if errS S ≠ 0 then (errS S, 0) else if checkS l ≠ 0 then (checkS l, 0) else firstBad S (flatS l) 0
theorem num_open {B : Nat} {l : SL} {w' : World} {ao : Option Addr} {c n : Nat} {xs : List Value} (hn : n = (flatS l).len) (hr : RowAt w' (.slice ao n c) n xs) (hs : SsIn (argZ B) w' (flatS l) xs) :
    ∃ b off, (n ≠ 0 → ao = some ⟨b, off, none⟩) ∧ StIn (argZ w'.heap.size) w' (flatS l) b off := by
  rcases Nat.eq_zero_or_pos n with h0 | h0
  · refine ⟨0, 0, fun h => absurd h0 h, ?_⟩
    rw [SL.len0 (hn.symm.trans h0)]
    trivial
  · obtain ⟨b, off, cap, e, hb, hc⟩ := hr.cells h0
    simp at e
    exact ⟨b, off, fun _ => e.1, hs.stIn hb (Nat.le_refl _) hc⟩
end Go.Proofs.YtiinohibmcefkaaGreatDoor
