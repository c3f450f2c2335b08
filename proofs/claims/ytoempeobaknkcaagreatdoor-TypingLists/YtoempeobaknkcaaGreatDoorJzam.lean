import Derived.Test.YtoempeobaknkcaaGreatDoorJzak
import Derived.Test.YtoempeobaknkcaaGreatDoorJzal
import Derived.Test.YtoempeobaknkcaaGreatDoorJzab
namespace Go.Proofs.YtoempeobaknkcaaGreatDoor
open Go.RowKit Go.Maps

set_option maxRecDepth 100000 in
set_option maxHeartbeats 8000000 in
theorem setF_no (Z : Zone) (j mb nn tab : Nat) (S : List FieldA) (hS : (S.map FieldA.name).Nodup) (op : Int) (f : Txt) (hl : f.length ≤ 1000) (o n : Int) (s : Txt) (kids : EL) (hsz : kids.size + 1 ≤ 4294967294) (xv : Value) (up : Nat) (to eo : Option Addr) (tn tc en ec : Nat) (w : World) (h : JudgeAt w j mb nn tab S)
    (hx : SlE Z w up xv (.cons o n s kids .nil)) (hr : rootB o n s kids.len = true) (hw : wellE kids = true) (hO : (kindP S o s kids).1.o = false) :
    Calls Tryz.prog 77 #[.pointer (some ⟨j, 0, none⟩), stV op f xv (.slice to tn tc) (.slice eo en ec)] w fun e w' => e = .returned (.int .i64 (orL [(namedK S f).2, (kindP S o s kids).2, ofI (kindP S o s kids).1 [(namedK S f).1.t], if (kindP S o s kids).1.o = true ∧ (namedK S f).1.o = false then 92 else 0])) ∧ Keeps (fun _ => False) w w' := by
  obtain ⟨xo, xc, b, off, rfl, hcap, ha, hin⟩ := hx.open
  obtain ⟨rfl, _⟩ := ha (by simp [EL.len])
  obtain ⟨h1, h2, h3, h4, h5, ⟨kao, kcap, h6, h7, h8⟩, _⟩ := hin
  have hkid : SlE Z w b (.slice kao kids.len kcap) kids := ⟨kao, kcap, rfl, h7, h8⟩
  have hlen : (EL.cons o n s kids .nil).len = 1 := rfl
  rw [hlen] at hcap ⊢
  obtain ⟨HB, hxb, hxc⟩ := boxedT w #[.int .i64 op, str f, .slice (some ⟨b, off, none⟩) 1 xc, .slice to tn tc, .slice eo en ec] 53
  have c1 := hxc 1 (str f) rfl
  have SB : ∀ w', Keeps (fun _ => False) (w.alloc (.cells #[.int .i64 op, str f, .slice (some ⟨b, off, none⟩) 1 xc, .slice to tn tc, .slice eo en ec] 53)) w' → w'.cell? ⟨w.heap.size, 2, none⟩ = some (.slice (some ⟨b, off, none⟩) 1 xc) ∧ w'.cell? ⟨b, off, none⟩ = some (.int .i64 o) ∧ w'.cell? ⟨b, off + 1, none⟩ = some (.int .i64 n) ∧ w'.cell? ⟨b, off + 2, none⟩ = some (str s) ∧ w'.cell? ⟨b, off + 3, none⟩ = some (.slice kao kids.len kcap) := fun w' hk =>
    ⟨(hk.cell hxb id).trans (hxc 2 _ rfl), (((unhide HB).trans hk).cell h1 id).trans h3, (((unhide HB).trans hk).cell h1 id).trans h4, (((unhide HB).trans hk).cell h1 id).trans h5, (((unhide HB).trans hk).cell h1 id).trans h6⟩
  have HSB := hide SB
  have HN := hide (namedJ_v j mb nn S hS f hl _ (h.map.keepF (unhide HB)))
  have HE := fun w' (hk : Keeps (fun _ => False) w w') => hide (exprJ_v Z j mb nn tab S hS (kids.size + 1) kids (by omega) (by omega) o n s w' b (.slice kao kids.len kcap) (h.keepF hk) (hkid.keepF hk) hr hw)
  obtain ⟨⟨⟨T, O⟩, E⟩, hp⟩ : ∃ p, p = namedK S f := ⟨_, rfl⟩
  obtain ⟨⟨⟨T2, O2⟩, E2⟩, hp2⟩ : ∃ p, p = kindP S o s kids := ⟨_, rfl⟩
  rw [← hp] at HN ⊢
  rw [← hp2] at HE hO ⊢
  have hO2 : O2 = false := hO
  subst hO2
  clear hO
  clear hp hp2 h hxc hkid hx h2 h3 h4 h5 h6 h8 hr hw ha SB
  have hU : (if false = true ∧ O = false then (92 : Int) else 0) = unlessI (!false || O) 92 := by cases O <;> rfl
  show Calls _ _ _ _ (fun e w' => e = .returned (.int .i64 (orL [E, E2, ofI ⟨T2, false⟩ [T], if false = true ∧ O = false then 92 else 0])) ∧ _)
  rw [hU]
  clear hU
  obtain ⟨U, hU⟩ : ∃ u, u = unlessI (!false || O) 92 := ⟨_, rfl⟩
  rw [← hU]
  have HU := hide hU
  clear hU
  go_enter Tryz.func77, Tryz.ntmps77
  go_wp2_with (first
    | (go_at_call 95; refine (unhide HN).mono ?_; rintro e w1 ⟨rfl, hk1⟩; have hka := hk1.alloc (.cells #[.int .i64 T, .bool O] 80); have d1 := unhide HSB _ hka; have HBA := hide (heap_alloc_new w1 (.cells #[.int .i64 T, .bool O] 80)); have HK1 := hide ((unhide HB).trans hka); clear hk1 hka)
    | (go_at_call 37; refine (unhide (HE _ (unhide HK1))).mono ?_; rintro e w2 ⟨rfl, hk2⟩; have hkb := hk2.alloc (.cells #[.int .i64 T2, .bool false] 80); have HBA2 := hide ((hkb.block _ (lt_of_block (unhide HBA)) id).trans (unhide HBA)); have HBB := hide (heap_alloc_new w2 (.cells #[.int .i64 T2, .bool false] 80)); have HK2 := hide ((unhide HK1).trans hkb); clear hk2 hkb))
  have hA := unhide HBA2
  have hB := unhide HBB
  have SK : ∀ w', Keeps (fun _ => False) (w2.alloc (.cells #[.int .i64 T2, .bool false] 80)) w' → w'.cell? ⟨w1.heap.size, 0, none⟩ = some (.int .i64 T) ∧ w'.cell? ⟨w1.heap.size, 1, none⟩ = some (.bool O) ∧ w'.cell? ⟨w2.heap.size, 0, none⟩ = some (.int .i64 T2) ∧ w'.cell? ⟨w2.heap.size, 1, none⟩ = some (.bool false) := fun w' hk => by
    have k0 := (hk.block _ (lt_of_block hA) id).trans hA
    have k1 := (hk.block _ (lt_of_block hB) id).trans hB
    exact ⟨by rw [cell_of_blk k0]; rfl, by rw [cell_of_blk k0]; rfl, by rw [cell_of_blk k1]; rfl, by rw [cell_of_blk k1]; rfl⟩
  have HSK := hide SK
  have HL : Hid (Lay (w2.alloc (.cells #[.int .i64 T2, .bool false] 80)) [] (w2.alloc (.cells #[.int .i64 T2, .bool false] 80))) := ⟨Keeps.refl _ _, fun p hp => by simp at hp⟩
  clear hA hB SK HBA HBA2 HBB d1 HE HN HSB
  refine wp_region_held_drew (S := (fun w' => w'.cell? ⟨w1.heap.size, 0, none⟩ = some (.int .i64 T) ∧ w'.cell? ⟨w1.heap.size, 1, none⟩ = some (.bool O) ∧ w'.cell? ⟨w2.heap.size, 0, none⟩ = some (.int .i64 T2) ∧ w'.cell? ⟨w2.heap.size, 1, none⟩ = some (.bool false))) (by kernel_rfl) (unhide HSK _ (unhide HL).kept.drew) (fun hHeld => ?_)
  refine wpAnyH_take (i := 0) (oi := { dst := some 25, op := Op.move (Operand.tmp 6), type := 30, pos := "rules.go:141", after := #[], guard := none }) (v := .int .i64 E) rfl (by kernel_rfl) (by kernel_rfl) (by kernel_rfl) (fun _ _ _ h => h) (Or.inl ⟨by rfl, fun w' hSw => ?_⟩) hHeld ?_
  · dsimp only at hSw
    go_simp
  simp only [Act.put, List.setIfInBounds_toArray, List.set_cons_zero, List.set_cons_succ]
  refine wpAnyH_take (i := 1) (oi := { dst := some 26, op := Op.move (Operand.tmp 8), type := 30, pos := "rules.go:141", after := #[], guard := none }) (v := .int .i64 E2) rfl (by kernel_rfl) (by kernel_rfl) (by kernel_rfl) (fun _ _ _ h => h) (Or.inl ⟨by rfl, fun w' hSw => ?_⟩) hHeld ?_
  · dsimp only at hSw
    go_simp
  simp only [Act.put, List.setIfInBounds_toArray, List.set_cons_zero, List.set_cons_succ]
  refine wpAnyH_take (i := 2) (oi := { dst := some 27, op := Op.load 80 (Operand.tmp 7), type := 80, pos := "rules.go:141", after := #[], guard := none }) (v := .agg #[.int .i64 T2, .bool false]) rfl (by kernel_rfl) (by kernel_rfl) (by kernel_rfl) (fun _ _ _ h => h) (Or.inl ⟨by rfl, fun w' hSw => ?_⟩) hHeld ?_
  · dsimp only at hSw
    go_simp
  simp only [Act.put, List.setIfInBounds_toArray, List.set_cons_zero, List.set_cons_succ]
  refine wpAnyH_take (i := 3) (oi := { dst := some 28, op := Op.fieldAddr 80 (Operand.tmp 5) 0, type := 0, pos := "rules.go:141", after := #[], guard := none }) (v := .pointer (some ⟨w1.heap.size, 0, none⟩)) rfl (by kernel_rfl) (by kernel_rfl) (by kernel_rfl) (fun _ _ _ h => h) (Or.inl ⟨by rfl, fun w' hSw => ?_⟩) hHeld ?_
  · dsimp only at hSw
    go_simp
  simp only [Act.put, List.setIfInBounds_toArray, List.set_cons_zero, List.set_cons_succ]
  refine wpAnyH_take (i := 4) (oi := { dst := some 29, op := Op.load 3 (Operand.tmp 28), type := 3, pos := "rules.go:141", after := #[{ on := 3, ground := Ground.data }], guard := none }) (v := .int .i64 T) rfl (by kernel_rfl) (by kernel_rfl) (by kernel_rfl) (fun _ _ _ h => h) (Or.inl ⟨by rfl, fun w' hSw => ?_⟩) hHeld ?_
  · dsimp only at hSw
    go_simp
  simp only [Act.put, List.setIfInBounds_toArray, List.set_cons_zero, List.set_cons_succ]
  refine wpAnyH_take (i := 7) (oi := { dst := some 32, op := Op.fieldAddr 80 (Operand.tmp 7) 1, type := 0, pos := "rules.go:141", after := #[], guard := none }) (v := .pointer (some ⟨w2.heap.size, 1, none⟩)) rfl (by kernel_rfl) (by kernel_rfl) (by kernel_rfl) (fun _ _ _ h => h) (Or.inl ⟨by rfl, fun w' hSw => ?_⟩) hHeld ?_
  · dsimp only at hSw
    go_simp
  simp only [Act.put, List.setIfInBounds_toArray, List.set_cons_zero, List.set_cons_succ]
  refine wpAnyH_take (i := 8) (oi := { dst := some 33, op := Op.load 4 (Operand.tmp 32), type := 4, pos := "rules.go:141", after := #[{ on := 7, ground := Ground.data }], guard := none }) (v := .bool false) rfl (by kernel_rfl) (by kernel_rfl) (by kernel_rfl) (fun _ _ _ h => h) (Or.inl ⟨by rfl, fun w' hSw => ?_⟩) hHeld ?_
  · dsimp only at hSw
    go_simp
  simp only [Act.put, List.setIfInBounds_toArray, List.set_cons_zero, List.set_cons_succ]
  refine wpAnyH_take (i := 9) (oi := { dst := some 34, op := Op.unOp UnOp.not 4 (Operand.tmp 33), type := 4, pos := "rules.go:141", after := #[{ on := 8, ground := Ground.data }], guard := none }) (v := .bool true) rfl (by kernel_rfl) (by kernel_rfl) (by kernel_rfl) (fun _ _ _ h => h) (Or.inl ⟨by rfl, fun w' hSw => ?_⟩) hHeld ?_
  · dsimp only at hSw
    go_simp
  simp only [Act.put, List.setIfInBounds_toArray, List.set_cons_zero, List.set_cons_succ]
  refine wpAnyH_ready (rs := [5]) (by kernel_rfl) (by simp) ?_
  refine AllReadyH.cons rfl (fun K hK => ?_) AllReadyH.nil
  go_simp
  refine hK.out _ _ (unhide HSK _ ((unhide HL).lay T).kept.drew) (fun hHeld => ?_)
  clear hK K
  refine wpAnyH_ready (rs := [6]) (by kernel_rfl) (by simp) ?_
  refine AllReadyH.cons rfl (fun K hK => ?_) AllReadyH.nil
  go_simp
  refine (isOf_lay ⟨T2, false⟩ ((unhide HL).lay T).drew (t := T) (by simp)).mono ?_
  rintro e w3 ⟨rfl, hl1⟩
  refine hK.out _ _ (unhide HSK _ hl1.kept) (fun hHeld => ?_)
  clear hK K
  refine wpAnyH_take (i := 10) (oi := { dst := some 35, op := Op.move (Operand.tmp 34), type := 4, pos := "rules.go:141", after := #[{ on := 9, ground := Ground.data }, { on := 6, ground := Ground.chain }], guard := none }) (v := .bool true) rfl (by kernel_rfl) (by kernel_rfl) (by kernel_rfl) (fun _ _ _ h => h) (Or.inl ⟨by rfl, fun w' hSw => ?_⟩) hHeld ?_
  · dsimp only at hSw
    go_simp
  simp only [Act.put, List.setIfInBounds_toArray, List.set_cons_zero, List.set_cons_succ]
  refine wpAnyH_take (i := 11) (oi := { dst := some 36, op := Op.fieldAddr 80 (Operand.tmp 5) 1, type := 0, pos := "rules.go:141", after := #[{ on := 10, ground := Ground.guard }], guard := some (10, false) }) (v := undef) rfl (by kernel_rfl) (by kernel_rfl) (by kernel_rfl) (fun _ _ _ h => h) (Or.inr ⟨by rfl, rfl⟩) hHeld ?_
  simp only [Act.put, List.setIfInBounds_toArray, List.set_cons_zero, List.set_cons_succ]
  refine wpAnyH_take (i := 12) (oi := { dst := some 37, op := Op.load 4 (Operand.tmp 36), type := 4, pos := "rules.go:141", after := #[{ on := 11, ground := Ground.data }, { on := 10, ground := Ground.guard }], guard := some (10, false) }) (v := undef) rfl (by kernel_rfl) (by kernel_rfl) (by kernel_rfl) (fun _ _ _ h => h) (Or.inr ⟨by rfl, rfl⟩) hHeld ?_
  simp only [Act.put, List.setIfInBounds_toArray, List.set_cons_zero, List.set_cons_succ]
  refine wpAnyH_take (i := 13) (oi := { dst := some 38, op := Op.pick (Operand.tmp 35) (Operand.const (Value.bool true)) (Operand.tmp 37), type := 4, pos := "rules.go:141", after := #[{ on := 10, ground := Ground.data }, { on := 12, ground := Ground.data }], guard := none }) (v := .bool true) rfl (by kernel_rfl) (by kernel_rfl) (by kernel_rfl) (fun _ _ _ h => h) (Or.inl ⟨by rfl, fun w' hSw => ?_⟩) hHeld ?_
  · dsimp only at hSw
    go_simp
  simp only [Act.put, List.setIfInBounds_toArray, List.set_cons_zero, List.set_cons_succ]
  refine wpAnyH_ready (rs := [14]) (by kernel_rfl) (by simp) ?_
  refine AllReadyH.cons rfl (fun K hK => ?_) AllReadyH.nil
  go_simp
  refine (unless_lay true 92 hl1).mono ?_
  rintro e w4 ⟨rfl, hl2⟩
  refine hK.out _ _ (unhide HSK _ hl2.kept) (fun hHeld => ?_)
  clear hK K
  refine wpAnyH_ready (rs := [15]) (by kernel_rfl) (by simp) ?_
  refine AllReadyH.cons rfl (fun K hK => ?_) AllReadyH.nil
  go_simp
  refine hK.out _ _ (unhide HSK _ (hl2.kept.alloc _)) (fun hHeld => ?_)
  clear hK K
  refine wpAnyH_ready (rs := [16]) (by kernel_rfl) (by simp) ?_
  refine AllReadyH.cons rfl (fun K hK => ?_) AllReadyH.nil
  go_simp
  refine (or_lay E E2 (ofI ⟨T2, false⟩ [T]) (unlessI true 92) hl2).mono ?_
  rintro e w5 ⟨rfl, hl3⟩
  refine hK.out _ _ (unhide HSK _ hl3.kept) (fun hHeld => ?_)
  clear hK K
  refine wpAnyH_ready (rs := [17]) (by kernel_rfl) (by simp) ?_
  refine AllReadyH.cons rfl (fun K hK => ?_) AllReadyH.nil
  go_simp
  refine hK.out _ _ (unhide HSK _ hl3.kept) (fun hHeld => ?_)
  clear hK K
  refine wpAnyH_done (by kernel_rfl) ?_ _
  go_wp2_with fail
  go_ret
  exact ⟨by rw [unhide HU]; rfl, (unhide HK2).trans hl3.kept⟩
end Go.Proofs.YtoempeobaknkcaaGreatDoor
namespace Go.Proofs.YtoempeobaknkcaaGreatDoor
open Go.RowKit Go.Maps

theorem EL.one_of : ∀ {x : EL}, x.len = 1 → ∃ o n s kids, x = .cons o n s kids .nil
  | .nil, h => by simp [EL.len] at h
  | .cons o n s kids .nil, _ => ⟨o, n, s, kids, rfl⟩
  | .cons _ _ _ _ (.cons _ _ _ _ _), h => by simp [EL.len] at h
/-- What the head of a statement tells. -/
theorem head_open {op : Int} {f : Txt} {x : EL} {t e : Nat} (h : headS op f x.len t e = true) :
    ((op = 1 ∨ op = 2 ∨ op = 3 ∨ op = 4) ∧ f.length ≤ 8 ∧ x.len = 1) ∨ (op = 5 ∧ f.length ≤ 8 ∧ x = .nil) ∨ ((op = 6 ∨ op = 7) ∧ x = .nil) ∨ (op = 8 ∧ x.len = 1) := by
  unfold headS at h
  split at h
  · rename_i h1
    simp only [Bool.and_eq_true, decide_eq_true_eq] at h
    exact Or.inl ⟨h1, name_short h.1, h.2.1⟩
  · split at h
    · rename_i h1
      simp only [Bool.and_eq_true, decide_eq_true_eq] at h
      exact Or.inr (Or.inl ⟨h1, name_short h.1, EL.len0 h.2.1⟩)
    · split at h
      · rename_i h1
        simp only [Bool.and_eq_true, decide_eq_true_eq] at h
        exact Or.inr (Or.inr (Or.inl ⟨h1, EL.len0 h.2.1⟩))
      · split at h
        · rename_i h1
          simp only [Bool.and_eq_true, decide_eq_true_eq] at h
          exact Or.inr (Or.inr (Or.inr ⟨h1, h.2⟩))
        · cases h
/-- Every statement of the list is well made by itself. -/
def wellF (N : Nat) : SL → Prop
  | .nil => True
  | .cons op f x t e r => headS op f x.len t.len e.len = true ∧ wellE x = true ∧ x.size ≤ N ∧ wellF N r
theorem wellF_app {N : Nat} : ∀ {l m : SL}, wellF N l → wellF N m → wellF N (l.app m)
  | .nil, _, _, h => h
  | .cons _ _ _ _ _ _, _, ⟨h1, h2, h3, h4⟩, h => ⟨h1, h2, h3, wellF_app h4 h⟩
theorem flat_well {N : Nat} : ∀ l : SL, l.size ≤ N → wellS l = true → wellF N (flatS l)
  | .nil, _, _ => trivial
  | .cons op f x t e r, hN, h => by
    simp only [wellS, Bool.and_eq_true, SL.size] at h hN
    exact ⟨h.1, h.2.1, by omega, wellF_app (flat_well t (by omega) h.2.2.1) (wellF_app (flat_well e (by omega) h.2.2.2.1) (flat_well r (by omega) h.2.2.2.2))⟩
/-- What the judge says of a statement. -/
theorem stmtJ_v (Z : Zone) (j mb nn tab : Nat) (S : List FieldA) (hS : (S.map FieldA.name).Nodup) (op : Int) (f : Txt) (x : EL) (t e : SL) (xv tv ev : Value) (up : Nat) (w : World) (hJ : JudgeAt w j mb nn tab S) (hT : StmtsAt w j)
    (hx : SlE Z w up xv x) (hv : ∃ to tn tc eo en ec, tv = .slice to tn tc ∧ ev = .slice eo en ec) (hh : headS op f x.len t.len e.len = true) (hw : wellE x = true) (hsz : x.size ≤ 4294967294) :
    Calls Tryz.prog 33 #[.pointer (some ⟨j, 0, none⟩), stV op f xv tv ev] w fun e w' => e = .returned (.int .i64 (ownP S op f x)) ∧ Keeps (fun _ => False) w w' := by
  obtain ⟨xo, xc, rfl, _⟩ := hx.head
  obtain ⟨to, tn, tc, eo, en, ec, rfl, rfl⟩ := hv
  have hv : ∃ xo' xn xc' to' tn' tc' eo' en' ec', Value.slice xo x.len xc = .slice xo' xn xc' ∧ Value.slice to tn tc = .slice to' tn' tc' ∧ Value.slice eo en ec = .slice eo' en' ec' := ⟨_, _, _, _, _, _, _, _, _, rfl, rfl, rfl⟩
  have hj := hJ.map.lt
  rcases head_open hh with ⟨h1, hf, hl⟩ | ⟨rfl, hf, rfl⟩ | ⟨h1, rfl⟩ | ⟨rfl, hl⟩
  · obtain ⟨o, n, s, kids, rfl⟩ := EL.one_of hl
    simp only [wellE, Bool.and_eq_true, EL.size] at hw hsz
    rcases h1 with rfl | rfl | rfl | rfl
    · have hR : ownP S 1 f (.cons o n s kids .nil) = orL [(namedK S f).2, (kindP S o s kids).2, ofI (kindP S o s kids).1 [(namedK S f).1.t], if (kindP S o s kids).1.o = true ∧ (namedK S f).1.o = false then 92 else 0] := by
        unfold ownP
        rw [if_pos rfl]
        rfl
      rw [hR]
      refine stmtJ1 j f _ _ _ hv _ w hj hT (fun w' hk => ?_)
      cases hO : (kindP S o s kids).1.o with
      | true =>
        have := setF_yes Z j mb nn tab S hS 1 f (by omega) o n s kids (by omega) _ up to eo tn tc en ec w' (hJ.keepF hk) (hx.keepF hk) hw.1 hw.2.1 hO
        rw [hO] at this
        exact this
      | false =>
        have := setF_no Z j mb nn tab S hS 1 f (by omega) o n s kids (by omega) _ up to eo tn tc en ec w' (hJ.keepF hk) (hx.keepF hk) hw.1 hw.2.1 hO
        rw [hO] at this
        exact this
    all_goals
      have hR : ∀ k : Int, k = 2 ∨ k = 3 ∨ k = 4 → ownP S k f (.cons o n s kids .nil) = orL [(namedK S f).2, (kindP S o s kids).2, ofI (namedK S f).1 [1], plainI (kindP S o s kids).1 [1]] := fun k hk => by
        unfold ownP
        rw [if_neg (by omega), if_pos hk]
        rfl
    · rw [hR 2 (by omega)]
      exact stmtJ2 j f _ _ _ hv _ w hj hT (fun w' hk => changeF_v Z j mb nn tab S hS 2 f (by omega) o n s kids (by omega) _ up to eo tn tc en ec w' (hJ.keepF hk) (hx.keepF hk) hw.1 hw.2.1)
    · rw [hR 3 (by omega)]
      exact stmtJ3 j f _ _ _ hv _ w hj hT (fun w' hk => changeF_v Z j mb nn tab S hS 3 f (by omega) o n s kids (by omega) _ up to eo tn tc en ec w' (hJ.keepF hk) (hx.keepF hk) hw.1 hw.2.1)
    · rw [hR 4 (by omega)]
      exact stmtJ4 j f _ _ _ hv _ w hj hT (fun w' hk => changeF_v Z j mb nn tab S hS 4 f (by omega) o n s kids (by omega) _ up to eo tn tc en ec w' (hJ.keepF hk) (hx.keepF hk) hw.1 hw.2.1)
  · exact stmtJ5 j f _ _ _ hv _ w hj hT (fun w' hk => clearF_v j mb nn S hS 5 f (by omega) xo to eo _ xc tn tc en ec w' ((hJ.map).keepF hk))
  · rcases h1 with rfl | rfl
    · exact stmtJ6 j f _ _ _ hv _ w hj hT (fun w' hk => alwaysF_v 6 f xo to eo _ xc tn tc en ec w')
    · exact stmtJ7 j f _ _ _ hv _ w hj hT (fun w' hk => alwaysF_v 7 f xo to eo _ xc tn tc en ec w')
  · obtain ⟨o, n, s, kids, rfl⟩ := EL.one_of hl
    simp only [wellE, Bool.and_eq_true, EL.size] at hw hsz
    exact stmtJ8 j f _ _ _ hv _ w hj hT (fun w' hk => chooseF_v Z j mb nn tab S hS 8 f o n s kids (by omega) _ up to eo tn tc en ec w' (hJ.keepF hk) (hx.keepF hk) hw.1 hw.2.1)
/-- The first statement of a list that does not fit. -/
def firstBad (S : List FieldA) : SL → Nat → Int × Nat
  | .nil, _ => (0, 0)
  | .cons op f x _ _ r, k => if ownP S op f x ≠ 0 then (ownP S op f x, k) else firstBad S r (k + 1)
/-- What Check answers. -/
def checkP (S : List FieldA) (l : SL) : Int × Nat := if errS S ≠ 0 then (errS S, 0) else if checkS l ≠ 0 then (checkS l, 0) else firstBad S (flatS l) 0
theorem num_open {B : Nat} {l : SL} {w' : World} {ao : Option Addr} {c n : Nat} {xs : List Value} (hn : n = (flatS l).len) (hr : RowAt w' (.slice ao n c) n xs) (hs : SsIn (argZ B) w' (flatS l) xs) :
    ∃ b off, (n ≠ 0 → ao = some ⟨b, off, none⟩) ∧ StIn (argZ w'.heap.size) w' (flatS l) b off := by
  rcases Nat.eq_zero_or_pos n with h0 | h0
  · refine ⟨0, 0, fun h => absurd h0 h, ?_⟩
    rw [SL.len0 (hn.symm.trans h0)]
    trivial
  · obtain ⟨b, off, cap, e, hb, hc⟩ := hr.cells h0
    simp at e
    exact ⟨b, off, fun _ => e.1, hs.stIn hb (Nat.le_refl _) hc⟩
end Go.Proofs.YtoempeobaknkcaaGreatDoor
namespace Go.Proofs.YtoempeobaknkcaaGreatDoor
open Go.RowKit Go.Maps

def namedB (l : List FieldA) (nm : Txt) : Bool := l.any fun f => decide (f.name = nm)
theorem namedB_snoc (l : List FieldA) (f : FieldA) (nm : Txt) : namedB (l ++ [f]) nm = (namedB l nm || decide (f.name = nm)) := by simp [namedB]

set_option maxRecDepth 100000 in
set_option maxHeartbeats 1000000 in
theorem named_v (l : List FieldA) (v : Value) (nm : Txt) (w : World) (h : FldsAt w v l) (hl : l.length ≤ 8) :
    Calls Tryz.prog 48 #[v, str nm] w fun e w' => e = .returned (.bool (namedB l nm)) ∧ Keeps (fun _ => False) w w' := by
  obtain ⟨ao, cap, rfl⟩ := RowAt.form h
  have HF := hide h
  clear h
  go_enter Tryz.func48, Tryz.ntmps48
  go_wp2
  go_loopw [9] (fun i wr => ∃ k : Nat, k ≤ l.length ∧ i = .int .i64 k ∧ Hid (namedB (l.take k) nm = false) ∧ Keeps (fun _ => False) w wr) (fun i _ => l.length - (intOf i).toNat)
  case atStart => exact ⟨0, Nat.zero_le _, rfl, by simp [Hid, namedB], Keeps.refl _ _⟩
  case round =>
    obtain ⟨k, hk, rfl, HS, hkp⟩ := hrel
    have HK := hide hkp
    cases h : l[k]? with
    | none =>
      have h1 := get_ge h
      obtain rfl : k = l.length := by omega
      clear hkp h h1
      rw [List.take_length] at HS
      go_wp2
      go_ret
      exact ⟨ret_bool (unhide HS).symm, unhide HK⟩
    | some f =>
      have h1 := get_lt h
      obtain ⟨b, off, c, e, hbl, hc⟩ := (unhide HF).cells (by omega)
      simp at e
      obtain ⟨rfl, rfl⟩ := e
      have c0 := (hkp.cell hbl id).trans (hc k f h).1
      have c1 := (hkp.cell hbl id).trans (hc k f h).2.1
      have c2 := (hkp.cell hbl id).trans (hc k f h).2.2
      have HH := hide h
      have HO : Hid (namedB (l.take (k + 1)) nm = (namedB (l.take k) nm || decide (f.name = nm))) := by show _ = _; rw [take_snoc _ _ _ h, namedB_snoc]
      clear hkp h hc
      go_wp2
      case roundEnd =>
        rename_i hne
        go_roundw
        case rel => exact ⟨k + 1, by omega, by go_num, by show _ = _; rw [unhide HO, unhide HS]; simpa using hne, (unhide HK).alloc _⟩
        case measure => simp [intOf]; omega
      rename_i hne
      go_ret
      refine ⟨ret_bool ?_, (unhide HK).alloc _⟩
      symm
      exact List.any_eq_true.2 ⟨f, List.mem_of_getElem? (unhide HH), by simpa using hne⟩

set_option maxRecDepth 100000 in
set_option maxHeartbeats 1000000 in
theorem head_v (l : List FieldA) (v : Value) (w : World) (h : FldsAt w v l) (hl : l.length ≤ 8) :
    Calls Tryz.prog 69 #[.agg #[v]] w fun e w' => e = .returned (.int .i64 (headB l)) ∧ Keeps (fun _ => False) w w' := by
  obtain ⟨ao, cap, rfl⟩ := RowAt.form h
  have HF := hide h
  clear h
  go_enter Tryz.func69, Tryz.ntmps69
  go_wp2
  obtain ⟨HB, hb, hbc⟩ := boxed w #[.slice ao l.length cap] 24
  have hp := hbc 0 (.slice ao l.length cap) rfl
  have HF2 := hide ((unhide HF).keepF (unhide HB))
  clear hbc HF
  generalize w.alloc (.cells #[.slice ao l.length cap] 24) = w2 at *
  generalize w.heap.size = sb at *
  go_loopw [3, 9] (fun n i wr => ∃ k : Nat, k ≤ l.length ∧ i = .int .i64 k ∧ n = .int .i64 (opts (l.take k)) ∧ Keeps (fun _ => False) w2 wr) (fun _ i _ => l.length - (intOf i).toNat)
  case atStart => exact ⟨0, Nat.zero_le _, rfl, rfl, Keeps.refl _ _⟩
  case round =>
    obtain ⟨k, hk, rfl, rfl, hkp⟩ := hrel
    have HK := hide hkp
    have ho := opts_le (l.take k)
    rw [List.length_take] at ho
    cases h : l[k]? with
    | none =>
      have h1 := get_ge h
      obtain rfl : k = l.length := by omega
      clear hkp h h1
      rw [List.take_length] at *
      go_wp2
      go_ret
      exact ⟨ret_int (by unfold headB; omega), (unhide HB).trans (unhide HK)⟩
    | some f =>
      have h1 := get_lt h
      obtain ⟨b, off, c, e, hbl, hc⟩ := (unhide HF2).cells (by omega)
      simp at e
      obtain ⟨rfl, rfl⟩ := e
      have c0 := (hkp.cell hbl id).trans (hc k f h).1
      have c1 := (hkp.cell hbl id).trans (hc k f h).2.1
      have c2 := (hkp.cell hbl id).trans (hc k f h).2.2
      have HO : Hid (opts (l.take (k + 1)) = opts (l.take k) + (if f.opt then 1 else 0)) := by show _ = _; rw [take_snoc _ _ _ h, opts_snoc]
      generalize opts (l.take k) = o at *
      clear hkp h hc
      cases hfo : f.opt with
      | true =>
        rw [hfo] at c2 HO
        go_wp2
        go_roundw
        case rel => exact ⟨k + 1, by omega, by go_num, by rw [unhide HO]; go_num, (unhide HK).alloc _⟩
        case measure => simp [intOf]; omega
      | false =>
        rw [hfo] at c2 HO
        go_wp2
        go_roundw
        case rel => exact ⟨k + 1, by omega, by go_num, by rw [unhide HO]; go_num, (unhide HK).alloc _⟩
        case measure => simp [intOf]; omega

/-- The table of package value's types lies as its initialiser lays it. -/
def typesC : Array Value := #[str [], .int .i64 0, str [105, 110, 116], .int .i64 10, str [98, 111, 111, 108], .int .i64 1, str [98, 121, 116, 101, 115], .int .i64 21]
structure Types (w : World) : Prop where
  lt : 0 < w.heap.size
  cell : ∀ j x, typesC[j]? = some x → w.cell? ⟨0, j, none⟩ = some x
theorem Types.keep {F : Nat → Prop} {w w' : World} (h : Types w) (hk : Keeps F w w') (hF : ¬ F 0) : Types w' :=
  ⟨Nat.lt_of_lt_of_le h.lt hk.size, fun j x hx => by rw [hk.cell h.lt hF]; exact h.cell j x hx⟩
theorem Types.keepF {w w' : World} (h : Types w) (hk : Keeps (fun _ => False) w w') : Types w' := h.keep hk id
theorem Types.width {w : World} (h : Types w) {t : Int} (ht : 0 ≤ wideB t) : ∃ n : Nat, t = n ∧ n < 4 ∧ w.cell? ⟨0, n * 2 + 1, none⟩ = some (.int .i64 (wideB t)) := by
  by_cases h1 : t = 1
  · subst h1; exact ⟨1, rfl, by omega, h.cell 3 _ rfl⟩
  by_cases h2 : t = 2
  · subst h2; exact ⟨2, rfl, by omega, h.cell 5 _ rfl⟩
  by_cases h3 : t = 3
  · subst h3; exact ⟨3, rfl, by omega, h.cell 7 _ rfl⟩
  · simp [wideB, h1, h2, h3] at ht

set_option maxRecDepth 100000 in
set_option maxHeartbeats 1000000 in
theorem width_v (l : List FieldA) (v : Value) (w : World) (hT : Types w) (h : FldsAt w v l) (hl : l.length ≤ 8) (hok : l.all fieldOK = true) :
    Calls Tryz.prog 49 #[.agg #[v]] w fun e w' => e = .returned (.int .i64 (widthB l)) ∧ Keeps (fun _ => False) w w' := by
  obtain ⟨ao, cap, rfl⟩ := RowAt.form h
  obtain ⟨HB, hb, hbc⟩ := boxed w #[.slice ao l.length cap] 24
  have hp := hbc 0 (.slice ao l.length cap) rfl
  have hF2 := h.keepF (unhide HB)
  have HH := hide (head_v l _ _ hF2 (by omega))
  have HT := hide (hT.keepF (unhide HB))
  have HOK := hide hok
  have hh := headB_le l
  have HE : Hid (widthB l = headB l + wides l) := rfl
  generalize widthB l = R at *
  generalize headB l = H at *
  have HF2 := hide hF2
  clear hbc h hF2 hT hok
  go_enter Tryz.func49, Tryz.ntmps49
  go_wp2_with fail
  refine (unhide HH).mono ?_
  rintro e w2 ⟨rfl, hk⟩
  have HF3 := hide ((unhide HF2).keepF hk)
  have HT3 := hide ((unhide HT).keepF hk)
  have HB2 := hide ((unhide HB).trans hk)
  have hb2 : w.heap.size < w2.heap.size := Nat.lt_of_lt_of_le hb hk.size
  have hp2 := (hk.cell hb id).trans hp
  generalize w.alloc (.cells #[.slice ao l.length cap] 24) = w1 at *
  clear HH HF2 HB hk hp hb HT
  generalize w.heap.size = sb at *
  go_wp2_with fail
  go_loopw [3, 11] (fun n i wr => ∃ k : Nat, k ≤ l.length ∧ i = .int .i64 k ∧ n = .int .i64 (H + wides (l.take k)) ∧ Keeps (fun _ => False) w2 wr) (fun _ i _ => l.length - (intOf i).toNat)
  case atStart => exact ⟨0, Nat.zero_le _, rfl, by simp [wides], Keeps.refl _ _⟩
  case round =>
    obtain ⟨k, hk, rfl, rfl, hkp⟩ := hrel
    have HK := hide hkp
    have ho := wides_range (l.take k)
    rw [List.length_take] at ho
    cases h : l[k]? with
    | none =>
      have h1 := get_ge h
      obtain rfl : k = l.length := by omega
      clear hkp h h1
      rw [List.take_length] at *
      go_wp2_with fail
      go_ret
      exact ⟨ret_int (unhide HE).symm, (unhide HB2).trans (unhide HK)⟩
    | some f =>
      have h1 := get_lt h
      obtain ⟨b, off, c, e, hbl, hc⟩ := (unhide HF3).cells (by omega)
      simp at e
      obtain ⟨rfl, rfl⟩ := e
      have c0 := (hkp.cell hbl id).trans (hc k f h).1
      have c1 := (hkp.cell hbl id).trans (hc k f h).2.1
      have c2 := (hkp.cell hbl id).trans (hc k f h).2.2
      have HO : Hid (wides (l.take (k + 1)) = wides (l.take k) + wideB f.type) := by show _ = _; rw [take_snoc _ _ _ h, wides_snoc]
      have hwr := wideB_range f.type
      have hfo : 0 ≤ wideB f.type := by
        have := List.all_eq_true.1 (unhide HOK) f (List.mem_of_getElem? h)
        unfold fieldOK at this
        simp only [Bool.and_eq_true, decide_eq_true_eq] at this
        exact this.2
      obtain ⟨n, hn, hn4, hcell⟩ := (((unhide HT3).keepF hkp).keepF ((Keeps.refl _ wr).alloc (.cells #[str f.name, .int .i64 f.type, .bool f.opt] 67))).width hfo
      rw [hn] at c1 hcell
      rw [← hn] at hcell
      generalize wides (l.take k) = o at *
      generalize wideB f.type = W at *
      rw [hn] at hcell
      clear hkp h hc hn hfo
      go_wp2_with fail
      go_roundw
      case rel => exact ⟨k + 1, by omega, by go_num, by rw [unhide HO]; go_num, (unhide HK).alloc _⟩
      case measure => simp [intOf]; omega

end Go.Proofs.YtoempeobaknkcaaGreatDoor
namespace Go.Proofs.YtoempeobaknkcaaGreatDoor
open Go.RowKit Go.Maps

theorem RowAt.first {w : World} {a : Option Addr} {n cap m : Nat} {xs ys : List Value} (h : RowAt w (.slice a n cap) n (xs ++ ys)) (hm : m ≤ n) : RowAt w (.slice a m cap) m xs := by
  refine ⟨⟨_, _, rfl⟩, fun h0 => ?_, fun ao m' cap' e => ?_⟩
  · obtain ⟨b, off, cap', e, hb, hc⟩ := h.cells (by omega)
    simp at e
    obtain ⟨rfl, rfl⟩ := e
    exact ⟨b, off, cap, rfl, hb, fun j x hx => hc j x (by rw [List.getElem?_append_left (get_lt hx)]; exact hx)⟩
  · simp at e
    obtain ⟨rfl, rfl, rfl⟩ := e
    have := h.room _ _ _ rfl
    omega
theorem FldsAt.first {w : World} {a : Option Addr} {cap : Nat} {l : List FieldA} (h : FldsAt w (.slice a l.length cap) l) (k : Nat) (hk : k ≤ l.length) : FldsAt w (.slice a k cap) (l.take k) := by
  have e : fcs l = fcs (l.take k) ++ fcs (l.drop k) := by unfold fcs; rw [← List.flatMap_append, List.take_append_drop]
  unfold FldsAt at *
  rw [e] at h
  rw [List.length_take, Nat.min_eq_left hk]
  exact h.first hk

theorem fieldOK_form (f : FieldA) : fieldOK f = (nameB f.name && decide (0 ≤ wideB f.type)) := rfl
theorem namedB_false {l : List FieldA} {nm : Txt} (h : namedB l nm = false) : ∀ g ∈ l, g.name ≠ nm := by
  intro g hg
  have := List.any_eq_false.1 h g hg
  simpa using this
theorem namedB_true {l : List FieldA} {k : Nat} {f : FieldA} (hf : l[k]? = some f) (h : namedB (l.take k) f.name = true) : schemaB l = false := by
  obtain ⟨g, hg, e⟩ := List.any_eq_true.1 h
  simp only [decide_eq_true_eq] at e
  obtain ⟨j, hj⟩ := List.getElem?_of_mem hg
  rw [List.getElem?_take] at hj
  split at hj
  · rename_i hlt
    exact schemaB_twice hf hj hlt e
  · cases hj

set_option maxRecDepth 100000 in
set_option maxHeartbeats 2000000 in
theorem checkSchema_v (l : List FieldA) (v : Value) (w : World) (hT : Types w) (h : FldsAt w v l) :
    Calls Tryz.prog 29 #[.agg #[v]] w fun e w' => e = .returned (.int .i64 (errS l)) ∧ Keeps (fun _ => False) w w' := by
  obtain ⟨ao, cap, rfl⟩ := RowAt.form h
  obtain ⟨HB, hb, hbc⟩ := boxed w #[.slice ao l.length cap] 24
  have hp := hbc 0 (.slice ao l.length cap) rfl
  have HF := hide (h.keepF (unhide HB))
  have HT := hide (hT.keepF (unhide HB))
  clear hbc h hT
  by_cases hl1 : (l.length : Int) < 1
  · have HE : Hid (errS l = 60) := errS_bad (by unfold schemaB; rw [decide_eq_false (show ¬ 1 ≤ l.length by omega)]; simp)
    go_enter Tryz.func29, Tryz.ntmps29
    go_wp2
    go_ret
    exact ⟨ret_int (unhide HE).symm, (Keeps.refl _ _).alloc _⟩
  by_cases hl2 : (8 : Int) < (l.length : Int)
  · have HE : Hid (errS l = 60) := errS_bad (by unfold schemaB; rw [decide_eq_false (show ¬ l.length ≤ 8 by omega)]; simp)
    go_enter Tryz.func29, Tryz.ntmps29
    go_wp2
    go_ret
    exact ⟨ret_int (unhide HE).symm, (Keeps.refl _ _).alloc _⟩
  have hl3 : (1 : Int) ≤ (l.length : Int) := by omega
  have hl4 : (l.length : Int) ≤ 8 := by omega
  clear hl1 hl2
  go_enter Tryz.func29, Tryz.ntmps29
  go_wp2_with fail
  generalize w.alloc (.cells #[.slice ao l.length cap] 24) = w2 at *
  generalize w.heap.size = sb at *
  go_loopw [18] (fun i wr => ∃ k : Nat, k ≤ l.length ∧ i = .int .i64 k ∧ Hid ((l.take k).all fieldOK = true) ∧ Hid ((l.take k).map FieldA.name).Nodup ∧ Keeps (fun _ => False) w2 wr) (fun i _ => l.length - (intOf i).toNat)
  case atStart => exact ⟨0, Nat.zero_le _, rfl, by simp [Hid], by simp [Hid], Keeps.refl _ _⟩
  case round =>
    obtain ⟨k, hk, rfl, HA, HN, hkp⟩ := hrel
    have hp' := (hkp.cell (o := 0) hb id).trans hp
    cases h : l[k]? with
    | none =>
      have h1 := get_ge h
      obtain rfl : k = l.length := by omega
      rw [List.take_length] at HA HN
      have HW := hide (width_v l _ _ ((unhide HT).keepF hkp) ((unhide HF).keepF hkp) (by omega) (unhide HA))
      have HE := hide (schemaB_end (by omega) (by omega) (unhide HA) (unhide HN))
      have HK := hide hkp
      clear hkp h h1
      go_wp2_with fail
      refine (unhide HW).mono ?_
      rintro e w3 ⟨rfl, hk3⟩
      have HK3 := hide hk3
      clear hk3
      by_cases hw : (64 : Int) < widthB l
      · go_wp2_with fail
        go_ret
        exact ⟨ret_int (errS_bad (by rw [unhide HE]; exact decide_eq_false (by omega))).symm, ((unhide HB).trans (unhide HK)).trans (unhide HK3)⟩
      · go_wp2_with fail
        go_ret
        exact ⟨ret_int (errS_good (by rw [unhide HE]; exact decide_eq_true (by omega))).symm, ((unhide HB).trans (unhide HK)).trans (unhide HK3)⟩
    | some f =>
      have h1 := get_lt h
      obtain ⟨b, off, c, e, hbl, hc⟩ := (unhide HF).cells (by omega)
      simp at e
      obtain ⟨rfl, rfl⟩ := e
      have c0 := (hkp.cell hbl id).trans (hc k f h).1
      have c1 := (hkp.cell hbl id).trans (hc k f h).2.1
      have c2 := (hkp.cell hbl id).trans (hc k f h).2.2
      have HH := hide h
      have HK := hide hkp
      obtain ⟨HX, hxb, hxc⟩ := boxed wr #[str f.name, .int .i64 f.type, .bool f.opt] 67
      have x0 := hxc 0 (str f.name) rfl
      have x1 := hxc 1 (.int .i64 f.type) rfl
      have HQ := hide (named_v (l.take k) _ f.name _ ((((((unhide HF).keepF hkp).keepF (unhide HX)).first k hk)).keepF (keeps_drewN _ 1)) (by rw [List.length_take]; omega))
      have hp3 := ((unhide HX).cell (o := 0) (Nat.lt_of_lt_of_le hb hkp.size) id).trans hp'
      have i2 : (k : Int) ≤ (l.length : Int) := by omega
      have HO := hide (fieldOK_form f)
      have hroom : l.length ≤ cap := RowAt.room (unhide HF) _ _ _ rfl
      have i3 : (k : Int) ≤ (cap : Int) := by omega
      have i4 : (0 : Int) ≤ (k : Int) := by omega
      have HX4 := hide (((unhide HK).trans (unhide HX)).drewN 1)
      have hz0 : wr.heap.size < ((wr.alloc (.cells #[str f.name, .int .i64 f.type, .bool f.opt] 67)).drewN 1).heap.size := hxb
      have hz1 : sb < ((wr.alloc (.cells #[str f.name, .int .i64 f.type, .bool f.opt] 67)).drewN 1).heap.size := Nat.lt_of_lt_of_le hb (unhide HX4).size
      clear hkp h hc hxc
      cases hnm : nameB f.name with
      | false =>
        have HE : Hid (errS l = 60) := errS_bad (schemaB_name (List.mem_of_getElem? (unhide HH)) (by rw [unhide HO, hnm]; rfl))
        have HN1 : Hid (∀ w, Calls Tryz.prog 46 #[str f.name] w fun e w' => e = .returned (.bool false) ∧ w' = w) := fun w => by
          have := name_v f.name w
          rw [hnm] at this
          exact this
        clear hnm HO HQ
        go_wp2_with fail
        go_quiet ((go_at_call 46; exact Calls.quiet_of_same (unhide HN1 _)))
        go_wp2_with fail
        go_ret
        exact ⟨ret_int (unhide HE).symm, (unhide HB).trans ((((unhide HK).trans (unhide HX))).drewN _)⟩
      | true =>
        have HN1 : Hid (∀ w, Calls Tryz.prog 46 #[str f.name] w fun e w' => e = .returned (.bool true) ∧ w' = w) := fun w => by
          have := name_v f.name w
          rw [hnm] at this
          exact this
        cases hty : decide (0 ≤ wideB f.type) with
        | false =>
          have HE : Hid (errS l = 60) := errS_bad (schemaB_name (List.mem_of_getElem? (unhide HH)) (by rw [unhide HO, hnm, hty]; rfl))
          have HN2 : Hid (∀ w, Calls Tryz.prog 47 #[.int .i64 f.type] w fun e w' => e = .returned (.bool false) ∧ w' = w) := fun w => by
            have := isType_v f.type w
            rw [hty] at this
            exact this
          clear hnm hty HO HQ
          go_wp2_with fail
          go_quiet ((first | (go_at_call 46; exact Calls.quiet_of_same (unhide HN1 _)) | (go_at_call 47; exact Calls.quiet_of_same (unhide HN2 _))))
          go_wp2_with fail
          go_ret
          exact ⟨ret_int (unhide HE).symm, (unhide HB).trans ((((unhide HK).trans (unhide HX))).drewN _)⟩
        | true =>
          have HN2 : Hid (∀ w, Calls Tryz.prog 47 #[.int .i64 f.type] w fun e w' => e = .returned (.bool true) ∧ w' = w) := fun w => by
            have := isType_v f.type w
            rw [hty] at this
            exact this
          have HFO : Hid (fieldOK f = true) := by show _ = _; rw [unhide HO, hnm, hty]; rfl
          clear hnm hty HO
          go_wp2_with fail
          go_region_held3 (fun w' => w'.cell? ⟨wr.heap.size, 0, none⟩ = some (str f.name) ∧ w'.cell? ⟨wr.heap.size, 1, none⟩ = some (.int .i64 f.type) ∧ w'.cell? ⟨sb, 0, none⟩ = some (.slice (some ⟨b, off, none⟩) l.length cap))
            (go_keep)
            (first
              | (go_at_call 46
                 refine (unhide HN1 _).mono ?_
                 rintro e w4 ⟨rfl, rfl⟩)
              | (go_at_call 47
                 refine (unhide HN2 _).mono ?_
                 rintro e w4 ⟨rfl, rfl⟩)
              | (go_at_call 48
                 refine (unhide HQ).mono ?_
                 rintro e w4 ⟨rfl, hk4⟩
                 have q0 := (hk4.cell (o := 0) hz0 id).trans x0
                 have q1 := (hk4.cell (o := 1) hz0 id).trans x1
                 have q2 := (hk4.cell (o := 0) hz1 id).trans hp3
                 have K4 := hide ((unhide HX4).trans hk4)
                 clear hk4))
          cases hnd : namedB (l.take k) f.name with
          | true =>
            have HE : Hid (errS l = 60) := errS_bad (namedB_true (unhide HH) hnd)
            go_wp2_with fail
            go_ret
            exact ⟨ret_int (unhide HE).symm, (unhide HB).trans (unhide K4)⟩
          | false =>
            have HD := hide (namedB_false hnd)
            go_wp2_with fail
            go_roundw
            case rel =>
              refine ⟨k + 1, by omega, by go_num, ?_, ?_, unhide K4⟩
              · show _ = true
                rw [take_snoc _ _ _ (unhide HH), List.all_append, unhide HA]
                simp [unhide HFO]
              · show List.Nodup _
                rw [take_snoc _ _ _ (unhide HH)]
                exact nodup_snoc (unhide HN) (unhide HD)
            case measure => simp [intOf]; omega

end Go.Proofs.YtoempeobaknkcaaGreatDoor
