import Derived.Test.YtljoacpaehmbdaaGreatDoorJzan
import Derived.Test.YtljoacpaehmbdaaGreatDoorJzaj
import Derived.Test.YtljoacpaehmbdaaGreatDoorJzam
import Derived.Test.YtljoacpaehmbdaaGreatDoorJzab
import Derived.Test.YtljoacpaehmbdaaGreatDoorJzaf
import Derived.Test.YtljoacpaehmbdaaGreatDoorJzah
import Derived.Test.YtljoacpaehmbdaaGreatDoorJzak
import Derived.Test.YtljoacpaehmbdaaGreatDoorJzai
namespace Go.Proofs.YtljoacpaehmbdaaGreatDoor
open Go.RowKit Go.Maps

set_option maxRecDepth 100000 in
set_option maxHeartbeats 8000000 in
theorem setF_no (Z : Zone) (j mb nn tab : Nat) (S : List FieldA) (hS : (S.map FieldA.name).Nodup) (op : Int) (f : Txt) (hl : f.length ≤ 1000) (o n : Int) (s : Txt) (kids : EL) (hsz : kids.size + 1 ≤ 4294967294) (xv : Value) (up : Nat) (to eo : Option Addr) (tn tc en ec : Nat) (w : World) (h : JudgeAt w j mb nn tab S)
    (hx : SlE Z w up xv (.cons o n s kids .nil)) (hr : rootB o n s kids.len = true) (hw : wellE kids = true) (hO : (kindP S o s kids).1.o = false) :
    Calls Tryz.prog 87 #[.pointer (some ⟨j, 0, none⟩), stV op f xv (.slice to tn tc) (.slice eo en ec)] w fun e w' => e = .returned (.int .i64 (orL [(namedK S f).2, (kindP S o s kids).2, ofI (kindP S o s kids).1 [(namedK S f).1.t], if (kindP S o s kids).1.o = true ∧ (namedK S f).1.o = false then 92 else 0])) ∧ Keeps (fun _ => False) w w' := by
  obtain ⟨xo, xc, b, off, rfl, hcap, ha, hin⟩ := hx.open
  obtain ⟨rfl, _⟩ := ha (by simp [EL.len])
  obtain ⟨h1, h2, h3, h4, h5, ⟨kao, kcap, h6, h7, h8⟩, _⟩ := hin
  have hkid : SlE Z w b (.slice kao kids.len kcap) kids := ⟨kao, kcap, rfl, h7, h8⟩
  have hlen : (EL.cons o n s kids .nil).len = 1 := rfl
  rw [hlen] at hcap ⊢
  obtain ⟨HB, hxb, hxc⟩ := boxedT w #[.int .i64 op, str f, .slice (some ⟨b, off, none⟩) 1 xc, .slice to tn tc, .slice eo en ec] 66
  have c1 := hxc 1 (str f) rfl
  have SB : ∀ w', Keeps (fun _ => False) (w.alloc (.cells #[.int .i64 op, str f, .slice (some ⟨b, off, none⟩) 1 xc, .slice to tn tc, .slice eo en ec] 66)) w' → w'.cell? ⟨w.heap.size, 2, none⟩ = some (.slice (some ⟨b, off, none⟩) 1 xc) ∧ w'.cell? ⟨b, off, none⟩ = some (.int .i64 o) ∧ w'.cell? ⟨b, off + 1, none⟩ = some (.int .i64 n) ∧ w'.cell? ⟨b, off + 2, none⟩ = some (str s) ∧ w'.cell? ⟨b, off + 3, none⟩ = some (.slice kao kids.len kcap) := fun w' hk =>
    ⟨(hk.cell hxb id).trans (hxc 2 _ rfl), (((unhide HB).trans hk).cell h1 id).trans h3, (((unhide HB).trans hk).cell h1 id).trans h4, (((unhide HB).trans hk).cell h1 id).trans h5, (((unhide HB).trans hk).cell h1 id).trans h6⟩
  have HSB := hide SB
  have HN := hide (namedJ_v j mb nn S hS f hl _ (h.map.keepF (unhide HB)))
  have HE := fun w' (hk : Keeps (fun _ => False) w w') => hide (exprJ_v Z j mb nn tab S hS (kids.size + 1) kids (by omega) (by omega) o n s w' b (.slice kao kids.len kcap) (h.keepF hk) (hkid.keepF hk) hr hw)
  obtain ⟨⟨⟨T, O⟩, E⟩, hp⟩ : ∃ p, p = namedK S f := ⟨_, rfl⟩
  obtain ⟨⟨⟨T2, O2⟩, E2⟩, hp2⟩ : ∃ p, p = kindP S o s kids := ⟨_, rfl⟩
  rw [← hp] at HN ⊢
  rw [← hp2] at HE hO ⊢
  have hO2 : O2 = false := hO
  subst hO2
  clear hO
  clear hp hp2 h hxc hkid hx h2 h3 h4 h5 h6 h8 hr hw ha SB
  have hU : (if false = true ∧ O = false then (92 : Int) else 0) = unlessI (!false || O) 92 := by cases O <;> rfl
  show Calls _ _ _ _ (fun e w' => e = .returned (.int .i64 (orL [E, E2, ofI ⟨T2, false⟩ [T], if false = true ∧ O = false then 92 else 0])) ∧ _)
  rw [hU]
  clear hU
  obtain ⟨U, hU⟩ : ∃ u, u = unlessI (!false || O) 92 := ⟨_, rfl⟩
  rw [← hU]
  have HU := hide hU
  clear hU
  go_enter Tryz.func87, Tryz.ntmps87
  go_wp2_with (first
    | (go_at_call 99; refine (unhide HN).mono ?_; rintro e w1 ⟨rfl, hk1⟩; have hka := hk1.alloc (.cells #[.int .i64 T, .bool O] 73); have d1 := unhide HSB _ hka; have HBA := hide (heap_alloc_new w1 (.cells #[.int .i64 T, .bool O] 73)); have HK1 := hide ((unhide HB).trans hka); clear hk1 hka)
    | (go_at_call 39; refine (unhide (HE _ (unhide HK1))).mono ?_; rintro e w2 ⟨rfl, hk2⟩; have hkb := hk2.alloc (.cells #[.int .i64 T2, .bool false] 73); have HBA2 := hide ((hkb.block _ (lt_of_block (unhide HBA)) id).trans (unhide HBA)); have HBB := hide (heap_alloc_new w2 (.cells #[.int .i64 T2, .bool false] 73)); have HK2 := hide ((unhide HK1).trans hkb); clear hk2 hkb))
  have hA := unhide HBA2
  have hB := unhide HBB
  have SK : ∀ w', Keeps (fun _ => False) (w2.alloc (.cells #[.int .i64 T2, .bool false] 73)) w' → w'.cell? ⟨w1.heap.size, 0, none⟩ = some (.int .i64 T) ∧ w'.cell? ⟨w1.heap.size, 1, none⟩ = some (.bool O) ∧ w'.cell? ⟨w2.heap.size, 0, none⟩ = some (.int .i64 T2) ∧ w'.cell? ⟨w2.heap.size, 1, none⟩ = some (.bool false) := fun w' hk => by
    have k0 := (hk.block _ (lt_of_block hA) id).trans hA
    have k1 := (hk.block _ (lt_of_block hB) id).trans hB
    exact ⟨by rw [cell_of_blk k0]; rfl, by rw [cell_of_blk k0]; rfl, by rw [cell_of_blk k1]; rfl, by rw [cell_of_blk k1]; rfl⟩
  have HSK := hide SK
  have HL : Hid (Lay (w2.alloc (.cells #[.int .i64 T2, .bool false] 73)) [] (w2.alloc (.cells #[.int .i64 T2, .bool false] 73))) := ⟨Keeps.refl _ _, fun p hp => by simp at hp⟩
  clear hA hB SK HBA HBA2 HBB d1 HE HN HSB
  refine wp_region_held_drew (S := (fun w' => w'.cell? ⟨w1.heap.size, 0, none⟩ = some (.int .i64 T) ∧ w'.cell? ⟨w1.heap.size, 1, none⟩ = some (.bool O) ∧ w'.cell? ⟨w2.heap.size, 0, none⟩ = some (.int .i64 T2) ∧ w'.cell? ⟨w2.heap.size, 1, none⟩ = some (.bool false))) (by kernel_rfl) (unhide HSK _ (unhide HL).kept.drew) (fun hHeld => ?_)
  refine wpAnyH_take (i := 0) (oi := { dst := some 25, op := Op.move (Operand.tmp 6), type := 37, pos := "rules.go:141", after := #[], guard := none }) (v := .int .i64 E) rfl (by kernel_rfl) (by kernel_rfl) (by kernel_rfl) (fun _ _ _ h => h) (Or.inl ⟨by rfl, fun w' hSw => ?_⟩) hHeld ?_
  · dsimp only at hSw
    go_simp
  simp only [Act.put, List.setIfInBounds_toArray, List.set_cons_zero, List.set_cons_succ]
  refine wpAnyH_take (i := 1) (oi := { dst := some 26, op := Op.move (Operand.tmp 8), type := 37, pos := "rules.go:141", after := #[], guard := none }) (v := .int .i64 E2) rfl (by kernel_rfl) (by kernel_rfl) (by kernel_rfl) (fun _ _ _ h => h) (Or.inl ⟨by rfl, fun w' hSw => ?_⟩) hHeld ?_
  · dsimp only at hSw
    go_simp
  simp only [Act.put, List.setIfInBounds_toArray, List.set_cons_zero, List.set_cons_succ]
  refine wpAnyH_take (i := 2) (oi := { dst := some 27, op := Op.load 73 (Operand.tmp 7), type := 73, pos := "rules.go:141", after := #[], guard := none }) (v := .agg #[.int .i64 T2, .bool false]) rfl (by kernel_rfl) (by kernel_rfl) (by kernel_rfl) (fun _ _ _ h => h) (Or.inl ⟨by rfl, fun w' hSw => ?_⟩) hHeld ?_
  · dsimp only at hSw
    go_simp
  simp only [Act.put, List.setIfInBounds_toArray, List.set_cons_zero, List.set_cons_succ]
  refine wpAnyH_take (i := 3) (oi := { dst := some 28, op := Op.fieldAddr 73 (Operand.tmp 5) 0, type := 0, pos := "rules.go:141", after := #[], guard := none }) (v := .pointer (some ⟨w1.heap.size, 0, none⟩)) rfl (by kernel_rfl) (by kernel_rfl) (by kernel_rfl) (fun _ _ _ h => h) (Or.inl ⟨by rfl, fun w' hSw => ?_⟩) hHeld ?_
  · dsimp only at hSw
    go_simp
  simp only [Act.put, List.setIfInBounds_toArray, List.set_cons_zero, List.set_cons_succ]
  refine wpAnyH_take (i := 4) (oi := { dst := some 29, op := Op.load 3 (Operand.tmp 28), type := 3, pos := "rules.go:141", after := #[{ on := 3, ground := Ground.data }], guard := none }) (v := .int .i64 T) rfl (by kernel_rfl) (by kernel_rfl) (by kernel_rfl) (fun _ _ _ h => h) (Or.inl ⟨by rfl, fun w' hSw => ?_⟩) hHeld ?_
  · dsimp only at hSw
    go_simp
  simp only [Act.put, List.setIfInBounds_toArray, List.set_cons_zero, List.set_cons_succ]
  refine wpAnyH_take (i := 7) (oi := { dst := some 32, op := Op.fieldAddr 73 (Operand.tmp 7) 1, type := 0, pos := "rules.go:141", after := #[], guard := none }) (v := .pointer (some ⟨w2.heap.size, 1, none⟩)) rfl (by kernel_rfl) (by kernel_rfl) (by kernel_rfl) (fun _ _ _ h => h) (Or.inl ⟨by rfl, fun w' hSw => ?_⟩) hHeld ?_
  · dsimp only at hSw
    go_simp
  simp only [Act.put, List.setIfInBounds_toArray, List.set_cons_zero, List.set_cons_succ]
  refine wpAnyH_take (i := 8) (oi := { dst := some 33, op := Op.load 4 (Operand.tmp 32), type := 4, pos := "rules.go:141", after := #[{ on := 7, ground := Ground.data }], guard := none }) (v := .bool false) rfl (by kernel_rfl) (by kernel_rfl) (by kernel_rfl) (fun _ _ _ h => h) (Or.inl ⟨by rfl, fun w' hSw => ?_⟩) hHeld ?_
  · dsimp only at hSw
    go_simp
  simp only [Act.put, List.setIfInBounds_toArray, List.set_cons_zero, List.set_cons_succ]
  refine wpAnyH_take (i := 9) (oi := { dst := some 34, op := Op.unOp UnOp.not 4 (Operand.tmp 33), type := 4, pos := "rules.go:141", after := #[{ on := 8, ground := Ground.data }], guard := none }) (v := .bool true) rfl (by kernel_rfl) (by kernel_rfl) (by kernel_rfl) (fun _ _ _ h => h) (Or.inl ⟨by rfl, fun w' hSw => ?_⟩) hHeld ?_
  · dsimp only at hSw
    go_simp
  simp only [Act.put, List.setIfInBounds_toArray, List.set_cons_zero, List.set_cons_succ]
  refine wpAnyH_ready (rs := [5]) (by kernel_rfl) (by simp) ?_
  refine AllReadyH.cons rfl (fun K hK => ?_) AllReadyH.nil
  go_simp
  refine hK.out _ _ (unhide HSK _ ((unhide HL).lay T).kept.drew) (fun hHeld => ?_)
  clear hK K
  refine wpAnyH_ready (rs := [6]) (by kernel_rfl) (by simp) ?_
  refine AllReadyH.cons rfl (fun K hK => ?_) AllReadyH.nil
  go_simp
  refine (isOf_lay ⟨T2, false⟩ ((unhide HL).lay T).drew (t := T) (by simp)).mono ?_
  rintro e w3 ⟨rfl, hl1⟩
  refine hK.out _ _ (unhide HSK _ hl1.kept) (fun hHeld => ?_)
  clear hK K
  refine wpAnyH_take (i := 10) (oi := { dst := some 35, op := Op.move (Operand.tmp 34), type := 4, pos := "rules.go:141", after := #[{ on := 9, ground := Ground.data }, { on := 6, ground := Ground.chain }], guard := none }) (v := .bool true) rfl (by kernel_rfl) (by kernel_rfl) (by kernel_rfl) (fun _ _ _ h => h) (Or.inl ⟨by rfl, fun w' hSw => ?_⟩) hHeld ?_
  · dsimp only at hSw
    go_simp
  simp only [Act.put, List.setIfInBounds_toArray, List.set_cons_zero, List.set_cons_succ]
  refine wpAnyH_take (i := 11) (oi := { dst := some 36, op := Op.fieldAddr 73 (Operand.tmp 5) 1, type := 0, pos := "rules.go:141", after := #[{ on := 10, ground := Ground.guard }], guard := some (10, false) }) (v := undef) rfl (by kernel_rfl) (by kernel_rfl) (by kernel_rfl) (fun _ _ _ h => h) (Or.inr ⟨by rfl, rfl⟩) hHeld ?_
  simp only [Act.put, List.setIfInBounds_toArray, List.set_cons_zero, List.set_cons_succ]
  refine wpAnyH_take (i := 12) (oi := { dst := some 37, op := Op.load 4 (Operand.tmp 36), type := 4, pos := "rules.go:141", after := #[{ on := 11, ground := Ground.data }, { on := 10, ground := Ground.guard }], guard := some (10, false) }) (v := undef) rfl (by kernel_rfl) (by kernel_rfl) (by kernel_rfl) (fun _ _ _ h => h) (Or.inr ⟨by rfl, rfl⟩) hHeld ?_
  simp only [Act.put, List.setIfInBounds_toArray, List.set_cons_zero, List.set_cons_succ]
  refine wpAnyH_take (i := 13) (oi := { dst := some 38, op := Op.pick (Operand.tmp 35) (Operand.const (Value.bool true)) (Operand.tmp 37), type := 4, pos := "rules.go:141", after := #[{ on := 10, ground := Ground.data }, { on := 12, ground := Ground.data }], guard := none }) (v := .bool true) rfl (by kernel_rfl) (by kernel_rfl) (by kernel_rfl) (fun _ _ _ h => h) (Or.inl ⟨by rfl, fun w' hSw => ?_⟩) hHeld ?_
  · dsimp only at hSw
    go_simp
  simp only [Act.put, List.setIfInBounds_toArray, List.set_cons_zero, List.set_cons_succ]
  refine wpAnyH_ready (rs := [14]) (by kernel_rfl) (by simp) ?_
  refine AllReadyH.cons rfl (fun K hK => ?_) AllReadyH.nil
  go_simp
  refine (unless_lay true 92 hl1).mono ?_
  rintro e w4 ⟨rfl, hl2⟩
  refine hK.out _ _ (unhide HSK _ hl2.kept) (fun hHeld => ?_)
  clear hK K
  refine wpAnyH_ready (rs := [15]) (by kernel_rfl) (by simp) ?_
  refine AllReadyH.cons rfl (fun K hK => ?_) AllReadyH.nil
  go_simp
  refine hK.out _ _ (unhide HSK _ (hl2.kept.alloc _)) (fun hHeld => ?_)
  clear hK K
  refine wpAnyH_ready (rs := [16]) (by kernel_rfl) (by simp) ?_
  refine AllReadyH.cons rfl (fun K hK => ?_) AllReadyH.nil
  go_simp
  refine (or_lay E E2 (ofI ⟨T2, false⟩ [T]) (unlessI true 92) hl2).mono ?_
  rintro e w5 ⟨rfl, hl3⟩
  refine hK.out _ _ (unhide HSK _ hl3.kept) (fun hHeld => ?_)
  clear hK K
  refine wpAnyH_ready (rs := [17]) (by kernel_rfl) (by simp) ?_
  refine AllReadyH.cons rfl (fun K hK => ?_) AllReadyH.nil
  go_simp
  refine hK.out _ _ (unhide HSK _ hl3.kept) (fun hHeld => ?_)
  clear hK K
  refine wpAnyH_done (by kernel_rfl) ?_ _
  go_wp2_with fail
  go_ret
  exact ⟨by rw [unhide HU]; rfl, (unhide HK2).trans hl3.kept⟩
end Go.Proofs.YtljoacpaehmbdaaGreatDoor
namespace Go.Proofs.YtljoacpaehmbdaaGreatDoor
open Go.RowKit Go.Maps

theorem EL.one_of : ∀ {x : EL}, x.len = 1 → ∃ o n s kids, x = .cons o n s kids .nil
  | .nil, h => by simp [EL.len] at h
  | .cons o n s kids .nil, _ => ⟨o, n, s, kids, rfl⟩
  | .cons _ _ _ _ (.cons _ _ _ _ _), h => by simp [EL.len] at h
/-- What the head of a statement tells. -/
theorem head_open {op : Int} {f : Txt} {x : EL} {t e : Nat} (h : headS op f x.len t e = true) :
    ((op = 1 ∨ op = 2 ∨ op = 3 ∨ op = 4) ∧ f.length ≤ 8 ∧ x.len = 1) ∨ (op = 5 ∧ f.length ≤ 8 ∧ x = .nil) ∨ ((op = 6 ∨ op = 7) ∧ x = .nil) ∨ (op = 8 ∧ x.len = 1) := by
  unfold headS at h
  split at h
  · rename_i h1
    simp only [Bool.and_eq_true, decide_eq_true_eq] at h
    exact Or.inl ⟨h1, name_short h.1, h.2.1⟩
  · split at h
    · rename_i h1
      simp only [Bool.and_eq_true, decide_eq_true_eq] at h
      exact Or.inr (Or.inl ⟨h1, name_short h.1, EL.len0 h.2.1⟩)
    · split at h
      · rename_i h1
        simp only [Bool.and_eq_true, decide_eq_true_eq] at h
        exact Or.inr (Or.inr (Or.inl ⟨h1, EL.len0 h.2.1⟩))
      · split at h
        · rename_i h1
          simp only [Bool.and_eq_true, decide_eq_true_eq] at h
          exact Or.inr (Or.inr (Or.inr ⟨h1, h.2⟩))
        · cases h
/-- Every statement of the list is well made by itself. -/
def wellF (N : Nat) : SL → Prop
  | .nil => True
  | .cons op f x t e r => headS op f x.len t.len e.len = true ∧ wellE x = true ∧ x.size ≤ N ∧ wellF N r
theorem wellF_app {N : Nat} : ∀ {l m : SL}, wellF N l → wellF N m → wellF N (l.app m)
  | .nil, _, _, h => h
  | .cons _ _ _ _ _ _, _, ⟨h1, h2, h3, h4⟩, h => ⟨h1, h2, h3, wellF_app h4 h⟩
theorem flat_well {N : Nat} : ∀ l : SL, l.size ≤ N → wellS l = true → wellF N (flatS l)
  | .nil, _, _ => trivial
  | .cons op f x t e r, hN, h => by
    simp only [wellS, Bool.and_eq_true, SL.size] at h hN
    exact ⟨h.1, h.2.1, by omega, wellF_app (flat_well t (by omega) h.2.2.1) (wellF_app (flat_well e (by omega) h.2.2.2.1) (flat_well r (by omega) h.2.2.2.2))⟩
/-- What the judge says of a statement. -/
theorem stmtJ_v (Z : Zone) (j mb nn tab : Nat) (S : List FieldA) (hS : (S.map FieldA.name).Nodup) (op : Int) (f : Txt) (x : EL) (t e : SL) (xv tv ev : Value) (up : Nat) (w : World) (hJ : JudgeAt w j mb nn tab S) (hT : StmtsAt w j)
    (hx : SlE Z w up xv x) (hv : ∃ to tn tc eo en ec, tv = .slice to tn tc ∧ ev = .slice eo en ec) (hh : headS op f x.len t.len e.len = true) (hw : wellE x = true) (hsz : x.size ≤ 4294967294) :
    Calls Tryz.prog 51 #[.pointer (some ⟨j, 0, none⟩), stV op f xv tv ev] w fun e w' => e = .returned (.int .i64 (ownP S op f x)) ∧ Keeps (fun _ => False) w w' := by
  obtain ⟨xo, xc, rfl, _⟩ := hx.head
  obtain ⟨to, tn, tc, eo, en, ec, rfl, rfl⟩ := hv
  have hv : ∃ xo' xn xc' to' tn' tc' eo' en' ec', Value.slice xo x.len xc = .slice xo' xn xc' ∧ Value.slice to tn tc = .slice to' tn' tc' ∧ Value.slice eo en ec = .slice eo' en' ec' := ⟨_, _, _, _, _, _, _, _, _, rfl, rfl, rfl⟩
  have hj := hJ.map.lt
  rcases head_open hh with ⟨h1, hf, hl⟩ | ⟨rfl, hf, rfl⟩ | ⟨h1, rfl⟩ | ⟨rfl, hl⟩
  · obtain ⟨o, n, s, kids, rfl⟩ := EL.one_of hl
    simp only [wellE, Bool.and_eq_true, EL.size] at hw hsz
    rcases h1 with rfl | rfl | rfl | rfl
    · have hR : ownP S 1 f (.cons o n s kids .nil) = orL [(namedK S f).2, (kindP S o s kids).2, ofI (kindP S o s kids).1 [(namedK S f).1.t], if (kindP S o s kids).1.o = true ∧ (namedK S f).1.o = false then 92 else 0] := by
        unfold ownP
        rw [if_pos rfl]
        rfl
      rw [hR]
      refine stmtJ1 j f _ _ _ hv _ w hj hT (fun w' hk => ?_)
      cases hO : (kindP S o s kids).1.o with
      | true =>
        have := setF_yes Z j mb nn tab S hS 1 f (by omega) o n s kids (by omega) _ up to eo tn tc en ec w' (hJ.keepF hk) (hx.keepF hk) hw.1 hw.2.1 hO
        rw [hO] at this
        exact this
      | false =>
        have := setF_no Z j mb nn tab S hS 1 f (by omega) o n s kids (by omega) _ up to eo tn tc en ec w' (hJ.keepF hk) (hx.keepF hk) hw.1 hw.2.1 hO
        rw [hO] at this
        exact this
    all_goals
      have hR : ∀ k : Int, k = 2 ∨ k = 3 ∨ k = 4 → ownP S k f (.cons o n s kids .nil) = orL [(namedK S f).2, (kindP S o s kids).2, ofI (namedK S f).1 [1], plainI (kindP S o s kids).1 [1]] := fun k hk => by
        unfold ownP
        rw [if_neg (by omega), if_pos hk]
        rfl
    · rw [hR 2 (by omega)]
      exact stmtJ2 j f _ _ _ hv _ w hj hT (fun w' hk => changeF_v Z j mb nn tab S hS 2 f (by omega) o n s kids (by omega) _ up to eo tn tc en ec w' (hJ.keepF hk) (hx.keepF hk) hw.1 hw.2.1)
    · rw [hR 3 (by omega)]
      exact stmtJ3 j f _ _ _ hv _ w hj hT (fun w' hk => changeF_v Z j mb nn tab S hS 3 f (by omega) o n s kids (by omega) _ up to eo tn tc en ec w' (hJ.keepF hk) (hx.keepF hk) hw.1 hw.2.1)
    · rw [hR 4 (by omega)]
      exact stmtJ4 j f _ _ _ hv _ w hj hT (fun w' hk => changeF_v Z j mb nn tab S hS 4 f (by omega) o n s kids (by omega) _ up to eo tn tc en ec w' (hJ.keepF hk) (hx.keepF hk) hw.1 hw.2.1)
  · exact stmtJ5 j f _ _ _ hv _ w hj hT (fun w' hk => clearF_v j mb nn S hS 5 f (by omega) xo to eo _ xc tn tc en ec w' ((hJ.map).keepF hk))
  · rcases h1 with rfl | rfl
    · exact stmtJ6 j f _ _ _ hv _ w hj hT (fun w' hk => alwaysF_v 6 f xo to eo _ xc tn tc en ec w')
    · exact stmtJ7 j f _ _ _ hv _ w hj hT (fun w' hk => alwaysF_v 7 f xo to eo _ xc tn tc en ec w')
  · obtain ⟨o, n, s, kids, rfl⟩ := EL.one_of hl
    simp only [wellE, Bool.and_eq_true, EL.size] at hw hsz
    exact stmtJ8 j f _ _ _ hv _ w hj hT (fun w' hk => chooseF_v Z j mb nn tab S hS 8 f o n s kids (by omega) _ up to eo tn tc en ec w' (hJ.keepF hk) (hx.keepF hk) hw.1 hw.2.1)
/-- The first statement of a list that does not fit. -/
def firstBad (S : List FieldA) : SL → Nat → Int × Nat
  | .nil, _ => (0, 0)
  | .cons op f x _ _ r, k => if ownP S op f x ≠ 0 then (ownP S op f x, k) else firstBad S r (k + 1)
/-- What Check answers. -/
def checkP (S : List FieldA) (l : SL) : Int × Nat := if errS S ≠ 0 then (errS S, 0) else if checkS l ≠ 0 then (checkS l, 0) else firstBad S (flatS l) 0
theorem num_open {B : Nat} {l : SL} {w' : World} {ao : Option Addr} {c n : Nat} {xs : List Value} (hn : n = (flatS l).len) (hr : RowAt w' (.slice ao n c) n xs) (hs : SsIn (argZ B) w' (flatS l) xs) :
    ∃ b off, (n ≠ 0 → ao = some ⟨b, off, none⟩) ∧ StIn (argZ w'.heap.size) w' (flatS l) b off := by
  rcases Nat.eq_zero_or_pos n with h0 | h0
  · refine ⟨0, 0, fun h => absurd h0 h, ?_⟩
    rw [SL.len0 (hn.symm.trans h0)]
    trivial
  · obtain ⟨b, off, cap, e, hb, hc⟩ := hr.cells h0
    simp at e
    exact ⟨b, off, fun _ => e.1, hs.stIn hb (Nat.le_refl _) hc⟩
end Go.Proofs.YtljoacpaehmbdaaGreatDoor
namespace Go.Proofs.YtljoacpaehmbdaaGreatDoor
open Go.RowKit Go.Maps

/-- An error and a number, as a value. -/
abbrev chkV (p : Int × Nat) : Value := .tuple #[.int .i64 p.1, .int .i64 (p.2 : Int)]

set_option maxRecDepth 100000 in
set_option maxHeartbeats 4000000 in
theorem tcheck_bad (Z : Zone) (S : List FieldA) (l : SL) (hsz : l.size ≤ 4294967294) (sv pv : Value) (w : World) (up : Nat) (hT : Types w) (hF : Forms w) (hf : FldsAt w sv S) (hp : SlS Z w up pv l) (E : Int) (hE : E ≠ 0)
    (h : schemaB S = false ∧ E = 60 ∨ schemaB S = true ∧ checkS l = E) :
    Calls Tryz.prog 28 #[.agg #[sv], pv] w fun e w' => e = .returned (chkV (E, 0)) ∧ Keeps (fun _ => False) w w' := by
  obtain ⟨ao, cap, rfl, hc⟩ := hp.head
  obtain ⟨so, sc, rfl⟩ := RowAt.form hf
  obtain ⟨HB, hxb, hxc⟩ := boxedT w #[.slice so S.length sc] 26
  have c0 := hxc 0 (.slice so S.length sc) rfl
  have HCS := hide (checkSchema_v S (.slice so S.length sc) _ (hT.keepF (unhide HB)) (hf.keepF (unhide HB)))
  have HCE := fun w' (hk : Keeps (fun _ => False) w w') => hide (check_v Z l hsz w' up (.slice ao l.len cap) (hF.keepF hk) (hp.keepF hk))
  clear hT hF hf hp hxc
  rcases h with ⟨h1, rfl⟩ | ⟨h1, h2⟩
  · rw [errS_bad h1] at HCS
    clear h1 HCE
    go_enter Tryz.func28, Tryz.ntmps28
    go_wp2_with (go_at_call 36; refine (unhide HCS).mono ?_; rintro e w1 ⟨rfl, hk1⟩; have HKa := hide ((unhide HB).trans hk1); clear hk1)
    refine bodyPost_ret (v := .tuple #[.int .i64 60, .int .i64 0]) (by simp [results, go_sem]) rfl ?_
    exact ⟨rfl, unhide HKa⟩
  · rw [errS_good h1] at HCS
    rw [h2] at HCE
    have n0 : (E != 0) = true := by simpa using hE
    clear h1 h2 hE
    go_enter Tryz.func28, Tryz.ntmps28
    go_wp2_with (first
      | (go_at_call 36; refine (unhide HCS).mono ?_; rintro e w1 ⟨rfl, hk1⟩; have HKa := hide ((unhide HB).trans hk1); clear hk1)
      | (go_at_call 49; refine (unhide (HCE _ (unhide HKa))).mono ?_; rintro e w2 ⟨rfl, hk1⟩; have HKa := hide ((unhide HKa).trans hk1); clear hk1))
    refine bodyPost_ret (v := .tuple #[.int .i64 E, .int .i64 0]) (by simp [results, go_sem]) rfl ?_
    exact ⟨rfl, unhide HKa⟩

set_option maxRecDepth 100000 in
set_option maxHeartbeats 8000000 in
theorem tcheck_fit (Z : Zone) (S : List FieldA) (l : SL) (hsz : l.size ≤ 4294967294) (sv pv : Value) (w : World) (up : Nat) (hT : Types w) (hF : Forms w) (hf : FldsAt w sv S) (hp : SlS Z w up pv l) (hS : schemaB S = true) (hC : checkS l = 0) :
    Calls Tryz.prog 28 #[.agg #[sv], pv] w fun e w' => e = .returned (chkV (firstBad S (flatS l) 0)) ∧ Keeps (fun _ => False) w w' := by
  have hwl : wellS l = true := by
    unfold checkS at hC
    split at hC
    · cases hC
    · rename_i h; simpa using h
  have hnd : (S.map FieldA.name).Nodup := by
    unfold schemaB at hS
    simp only [Bool.and_eq_true, decide_eq_true_eq] at hS
    exact hS.1.2
  have hnl : (flatS l).len ≤ 4294967294 := by rw [flatS_len]; exact Nat.le_trans (countS_le l) hsz
  obtain ⟨ao, cap, rfl, hc⟩ := hp.head
  obtain ⟨so, sc, rfl⟩ := RowAt.form hf
  obtain ⟨HB, hxb, hxc⟩ := boxedT w #[.slice so S.length sc] 26
  have c0 := hxc 0 (.slice so S.length sc) rfl
  have SB : ∀ w', Keeps (fun _ => False) (w.alloc (.cells #[.slice so S.length sc] 26)) w' → w'.cell? ⟨w.heap.size, 0, none⟩ = some (.slice so S.length sc) := fun w' hk => (hk.cell hxb id).trans c0
  have HSB := hide SB
  have HCS := hide (checkSchema_v S (.slice so S.length sc) _ (hT.keepF (unhide HB)) (hf.keepF (unhide HB)))
  have HCE := fun w' (hk : Keeps (fun _ => False) w w') => hide (check_v Z l hsz w' up (.slice ao l.len cap) (hF.keepF hk) (hp.keepF hk))
  have HNJ := fun w' (hk : Keeps (fun _ => False) w w') => hide (newJudge_v S (.slice so S.length sc) w' (hf.keepF hk) hS)
  have HNU := fun w' (hk : Keeps (fun _ => False) w w') => hide (numbered_v w'.heap.size (l.size + 1) l (by omega) hsz w' 0 (.slice ao l.len cap) (Nat.le_refl _) ((hp.keepF hk).arg (Nat.le_refl _) 0))
  rw [errS_good hS] at HCS
  rw [hC] at HCE
  have HW := hide (flat_well (N := 4294967294) l hsz hwl)
  clear hT hF hf hp hxc SB hS hC hwl
  go_enter Tryz.func28, Tryz.ntmps28
  go_wp2_with (first
    | (go_at_call 36; refine (unhide HCS).mono ?_; rintro e w1 ⟨rfl, hk1⟩; have HKa := hide ((unhide HB).trans hk1); have HKb := hide hk1; have y1 := unhide HSB _ hk1; clear hk1)
    | (go_at_call 49; refine (unhide (HCE _ (unhide HKa))).mono ?_; rintro e w2 ⟨rfl, hk1⟩; have HKa := hide ((unhide HKa).trans hk1); have HKb := hide ((unhide HKb).trans hk1); have y2 := unhide HSB _ (unhide HKb); clear hk1)
    | (go_at_call 38; refine (unhide (HNJ _ (unhide HKa))).mono ?_; rintro e w3 ⟨j, mb, nn, tab, rfl, hJ, hSt, hk1⟩; have HJ := hide hJ; have HSt := hide hSt; have HKa := hide ((unhide HKa).trans hk1); clear hJ hSt hk1)
    | (go_at_call 50; refine (unhide (HNU _ (unhide HKa))).mono ?_; rintro e w4 ⟨fo, fc, n, xs, rfl, hn, hown, hss, hk1⟩; obtain ⟨g, goff, hg, hst⟩ := num_open hn (rowAt_own hown) hss; have HNL := hide hn; have HG := hide hg; have HST := hide hst; have HK4 := hide hk1; have HKa := hide ((unhide HKa).trans hk1); clear hn hown hss hg hst hk1))
  have hn2 : n ≤ 4294967294 := by rw [unhide HNL]; exact hnl
  clear hnl HSB HCS HCE HNJ HNU y1 y2 c0
  go_loopw [24] (fun i wr => ∃ (rest : SL) (k : Nat), i = .int .i64 k ∧ k + rest.len = n ∧ Hid (firstBad S rest k = firstBad S (flatS l) 0) ∧ wellF 4294967294 rest ∧ Keeps (fun _ => False) w4 wr ∧ StIn (argZ w4.heap.size) w4 rest g (goff + k * 5)) (fun i _ => n - (intOf i).toNat)
  case atStart => exact ⟨flatS l, 0, rfl, by rw [Nat.zero_add]; exact (unhide HNL).symm, rfl, unhide HW, Keeps.refl _ _, by simpa using unhide HST⟩
  case round =>
    obtain ⟨rest, k, rfl, hkl, HS, hwf, hkeep, hr⟩ := hrel
    have HK := hide hkeep
    cases rest with
    | nil =>
      simp only [SL.len, Nat.add_zero] at hkl
      have i1 : ¬ (k : Int) < (n : Int) := by omega
      clear hr hkeep hwf
      go_wp2_with fail
      refine bodyPost_ret (v := .tuple #[.int .i64 0, .int .i64 0]) (by simp [results, go_sem]) rfl ?_
      exact ⟨by rw [← unhide HS]; rfl, (unhide HKa).trans (unhide HK)⟩
    | cons op f x t el rest =>
      obtain ⟨h1, h2, h3, h4, ⟨xv, h5, hxs⟩, ⟨tao, tcap, h6, h7, h8⟩, ⟨eao, ecap, j6, j7, j8⟩, h9⟩ := hr
      obtain ⟨hh, hwx, hxz, hwr⟩ := hwf
      simp only [SL.len] at hkl
      obtain ⟨xao, xcap, rfl, hxl⟩ := hxs.head
      obtain rfl := (unhide HG) (by omega)
      have HR := hide h9
      have HWR := hide hwr
      have i1 : (k : Int) < (n : Int) := by omega
      have ix0 : (0 : Int) ≤ (k : Int) := by omega
      have q0 := (hkeep.cell h1 id).trans h3
      have q1 := (hkeep.cell h1 id).trans h4
      have q2 := (hkeep.cell h1 id).trans h5
      have q3 := (hkeep.cell h1 id).trans h6
      have q4 := (hkeep.cell h1 id).trans j6
      obtain ⟨HBk, hkbb, hkc⟩ := boxedT wr #[.int .i64 op, str f, .slice xao x.len xcap, .slice tao t.len tcap, .slice eao el.len ecap] 66
      have k0 := hkc 0 (.int .i64 op) rfl
      have k1 := hkc 1 (str f) rfl
      have k2 := hkc 2 (.slice xao x.len xcap) rfl
      have k3 := hkc 3 (.slice tao t.len tcap) rfl
      have k4 := hkc 4 (.slice eao el.len ecap) rfl
      have hk4 := ((unhide HK4).trans hkeep).trans (unhide HBk)
      have HC := hide (stmtJ_v (argZ w4.heap.size) j mb nn tab S hnd op f x t el _ (.slice tao t.len tcap) (.slice eao el.len ecap) g _ ((unhide HJ).keepF hk4) ((unhide HSt).keepF (unhide HJ).map.lt hk4) (hxs.keepF (hkeep.trans (unhide HBk))) ⟨_, _, _, _, _, _, rfl, rfl⟩ hh hwx hxz)
      have hst : firstBad S (.cons op f x t el rest) k = if ownP S op f x ≠ 0 then (ownP S op f x, k) else firstBad S rest (k + 1) := rfl
      rw [hst] at HS
      obtain ⟨R, hR⟩ : ∃ R, R = ownP S op f x := ⟨_, rfl⟩
      rw [← hR] at HC HS
      clear hkeep h2 h3 h4 h5 h6 h8 h9 j6 j8 hxs hkc hk4 hst hR hh hwx hwr
      by_cases hR0 : R = 0
      · subst hR0
        rw [if_neg (by simp)] at HS
        go_wp2_with (go_at_call 51; refine (unhide HC).mono ?_; rintro e w5 ⟨rfl, hk5⟩; have HK5 := hide (((unhide HK).trans (unhide HBk)).trans hk5); clear hk5)
        go_roundw
        case rel =>
          refine ⟨rest, k + 1, by go_num, by omega, unhide HS, unhide HWR, unhide HK5, ?_⟩
          rw [show goff + (k + 1) * 5 = goff + k * 5 + 5 by omega]
          exact unhide HR
        case measure => simp [intOf]; omega
      · have n0 : (R != 0) = true := by simpa using hR0
        rw [if_pos hR0] at HS
        clear hR0
        go_wp2_with (go_at_call 51; refine (unhide HC).mono ?_; rintro e w5 ⟨rfl, hk5⟩; have HK5 := hide (((unhide HK).trans (unhide HBk)).trans hk5); clear hk5)
        refine bodyPost_ret (v := .tuple #[.int .i64 R, .int .i64 (k : Int)]) (by simp [results, go_sem]) rfl ?_
        exact ⟨by rw [← unhide HS], (unhide HKa).trans (unhide HK5)⟩
theorem tcheck_v (Z : Zone) (S : List FieldA) (l : SL) (hsz : l.size ≤ 4294967294) (sv pv : Value) (w : World) (up : Nat) (hT : Types w) (hF : Forms w) (hf : FldsAt w sv S) (hp : SlS Z w up pv l) :
    Calls Tryz.prog 28 #[.agg #[sv], pv] w fun e w' => e = .returned (chkV (checkP S l)) ∧ Keeps (fun _ => False) w w' := by
  unfold checkP
  cases hS : schemaB S with
  | false =>
    rw [errS_bad hS, if_pos (by decide)]
    exact tcheck_bad Z S l hsz sv pv w up hT hF hf hp 60 (by decide) (Or.inl ⟨hS, rfl⟩)
  | true =>
    rw [errS_good hS, if_neg (by simp)]
    by_cases hE : checkS l = 0
    · rw [if_neg (by simpa using hE)]
      exact tcheck_fit Z S l hsz sv pv w up hT hF hf hp hS hE
    · rw [if_pos hE]
      exact tcheck_bad Z S l hsz sv pv w up hT hF hf hp _ hE (Or.inr ⟨hS, rfl⟩)
end Go.Proofs.YtljoacpaehmbdaaGreatDoor
namespace Go.Proofs.YtljoacpaehmbdaaGreatDoor
open Go.RowKit Go.Maps

set_option maxRecDepth 100000 in
set_option maxHeartbeats 4000000 in
/-- The law's own call of Check, on twins. -/
theorem lawCheck_v (Z : Zone) (S : List FieldA) (hlS : S.length ≤ 4398046511104) (l : SL) (hsz : l.size ≤ 4294967294) (sv pv : Value) (w : World) (up : Nat) (hT : Types w) (hF : Forms w) (hf : FldsAt w sv S) (hp : SlS Z w up pv l) :
    Calls Tryz.prog 12 #[.agg #[sv], pv] w fun e w' => e = .returned (chkV (checkP S l)) ∧ Keeps (fun _ => False) w w' := by
  obtain ⟨ao, cap, rfl, hc⟩ := hp.head
  obtain ⟨so, sc, rfl⟩ := RowAt.form hf
  obtain ⟨HB, hxb, hxc⟩ := boxedT w #[.slice so S.length sc] 26
  have c0 := hxc 0 (.slice so S.length sc) rfl
  have SB : ∀ w', Keeps (fun _ => False) (w.alloc (.cells #[.slice so S.length sc] 26)) w' → w'.cell? ⟨w.heap.size, 0, none⟩ = some (.slice so S.length sc) := fun w' hk => (hk.cell hxb id).trans c0
  have HSB := hide SB
  have HCP := hide (copySchema_big _ (.slice so S.length sc) S (hf.keepF (unhide HB)) hlS)
  have HCT := fun w' (hk : Keeps (fun _ => False) w w') => hide (copyStmts_v Z (l.size + 1) l (by omega) hsz w' up (.slice ao l.len cap) (hp.keepF hk))
  have HT := hide hT
  have HFM := hide hF
  have HF := hide hf
  have HP := hide hp
  obtain ⟨⟨E, at'⟩, hpv⟩ : ∃ p, p = checkP S l := ⟨_, rfl⟩
  rw [← hpv]
  have HPV := hide hpv.symm
  clear hT hF hf hp SB hxc hpv
  go_enter Tryz.func12, Tryz.ntmps12
  go_wp2_with (first
    | (go_at_call 18; refine (unhide HCP).mono ?_; rintro e w1 ⟨v', rfl, hown, hk1⟩; obtain ⟨vo, vc, rfl⟩ := (rowAt_own hown).form; have hka := hk1.alloc (.cells #[.slice vo S.length vc] 26); have HFC := hide (RowAt.keepF (rowAt_own hown) ((Keeps.refl _ w1).alloc (.cells #[.slice vo S.length vc] 26)) : RowAt _ _ S.length (fcs S)); have HB2 := hide (heap_alloc_new w1 (.cells #[.slice vo S.length vc] 26)); have y2 := cell_of_blk (unhide HB2) 0; simp at y2; have y1 := unhide HSB _ hka; have HKa := hide ((unhide HB).trans hka); have HKb := hide hka; clear hown hk1 hka)
    | (go_at_call 27; refine (unhide (HCT _ (unhide HKa))).mono ?_; rintro e w2 ⟨pv2, rfl, hs2, hk2⟩; obtain ⟨po, pc, rfl, hpc⟩ := hs2.head; have HPC := hide hs2; have HFC := hide (RowAt.keepF (unhide HFC) hk2); have HB2 := hide ((hk2.block _ (lt_of_block (unhide HB2)) id).trans (unhide HB2)); have y2 := cell_of_blk (unhide HB2) 0; simp at y2; have HKa := hide ((unhide HKa).trans hk2); have HKb := hide ((unhide HKb).trans hk2); have y1 := unhide HSB _ (unhide HKb); clear hs2 hk2)
    | (go_at_call 28; refine (tcheck_v _ S l hsz _ _ _ 0 ((unhide HT).keepF (unhide HKa)) ((unhide HFM).keepF (unhide HKa)) (unhide HFC) (unhide HPC)).mono ?_; rintro e w3 ⟨rfl, hk3⟩; rw [unhide HPV]; have HFC := hide (RowAt.keepF (unhide HFC) hk3); have HPC := hide ((unhide HPC).keepF hk3); have HB2 := hide ((hk3.block _ (lt_of_block (unhide HB2)) id).trans (unhide HB2)); have y2 := cell_of_blk (unhide HB2) 0; simp at y2; have HKa := hide ((unhide HKa).trans hk3); have HKb := hide ((unhide HKb).trans hk3); have y1 := unhide HSB _ (unhide HKb); clear hk3)
    | (go_at_call 21; refine (eqSchema_any _ _ _ S S (unhide HFC) ((unhide HF).keepF (unhide HKa)) (by unfold maxLen; omega)).mono ?_; rintro e w4 ⟨rfl, hk4⟩; rw [decide_eq_true rfl]; have HPC := hide ((unhide HPC).keepF hk4); have HKa := hide ((unhide HKa).trans hk4); clear hk4)
    | (go_at_call 29; refine (eqStmts_same _ Z (l.size + 1) l (by omega) hsz _ 0 up _ _ (unhide HPC) ((unhide HP).keepF (unhide HKa))).mono ?_; rintro e w5 ⟨rfl, hk5⟩; have HKa := hide ((unhide HKa).trans hk5); clear hk5))
  refine bodyPost_ret (v := .tuple #[.int .i64 E, .int .i64 (at' : Int)]) (by simp [results, go_sem]) rfl ?_
  exact ⟨rfl, unhide HKa⟩
end Go.Proofs.YtljoacpaehmbdaaGreatDoor
namespace Go.Proofs.YtljoacpaehmbdaaGreatDoor
open Go.RowKit Go.Maps

/-- The number of a field. -/
def idxF (S : List FieldA) (nm : Txt) : Option Nat := S.findIdx? fun f => decide (f.name = nm)
end Go.Proofs.YtljoacpaehmbdaaGreatDoor
namespace Go.Proofs.YtljoacpaehmbdaaGreatDoor
open Go.RowKit Go.Maps

theorem schema_8 {S : List FieldA} (hS : schemaB S = true) : S.length ≤ 8 := by
  unfold schemaB at hS
  simp only [Bool.and_eq_true, decide_eq_true_eq] at hS
  exact hS.1.1.1.2
theorem idx_some {S : List FieldA} (hS : schemaB S = true) {nm : Txt} {k : Nat} {f : FieldA} (hk : S[k]? = some f) (h : fieldOf S nm = some f) : idxF S nm = some k := by
  have hn : f.name = nm := by
    unfold fieldOf at h
    have := List.find?_some h
    simpa using this
  have hnd : (S.map FieldA.name).Nodup := by
    unfold schemaB at hS
    simp only [Bool.and_eq_true, decide_eq_true_eq] at hS
    exact hS.1.2
  unfold idxF
  rw [List.findIdx?_eq_some_iff_getElem]
  obtain ⟨hlt, hke⟩ := List.getElem?_eq_some_iff.1 hk
  refine ⟨hlt, by simp [hke, hn], fun j hj => ?_⟩
  have hjl : j < S.length := by omega
  simp only [decide_eq_true_eq]
  intro hc
  have h1 : (S.map FieldA.name)[j]? = some nm := by rw [List.getElem?_map, List.getElem?_eq_getElem hjl]; simp [hc]
  have h2 : (S.map FieldA.name)[k]? = some nm := by rw [List.getElem?_map, hk]; simp [hn]
  have := (List.getElem?_inj (by simpa using hjl) hnd).1 (h1.trans h2.symm)
  omega
end Go.Proofs.YtljoacpaehmbdaaGreatDoor
namespace Go.Proofs.YtljoacpaehmbdaaGreatDoor
open Go.RowKit Go.Maps

theorem field_at {S : List FieldA} {nm : Txt} {d : FieldA} (h : fieldOf S nm = some d) : ∃ k : Nat, S[k]? = some d := by
  unfold fieldOf at h
  exact List.mem_iff_getElem?.1 (List.mem_of_find?_eq_some h)

end Go.Proofs.YtljoacpaehmbdaaGreatDoor
namespace Go.Proofs.YtljoacpaehmbdaaGreatDoor
open Go.RowKit Go.Maps

/-- A row that grows by another one, statement by statement: what stands so far. (Blocks from A on below C are the other row's.) -/
structure Grow (B : Nat) (W0 W1 : World) (acc tot : SL) (g go : Nat) (v : Value) (j m : Nat) (xs : List Value) (rest : SL) (yr : List Value) (cur : World) : Prop where
  own : cur.ownsRow W0.heap.size 66 5 v m xs
  held : SsIn (argZ B) cur acc xs
  left : SsIn (argZ B) cur rest yr
  cells : ∀ i x, yr[i]? = some x → cur.cell? ⟨g, go + j * 5 + i, none⟩ = some x
  far : v.ownBlock ≠ some g
  lt : g < cur.heap.size
  kept : Keeps (fun q => W0.heap.size ≤ q) W1 cur
  all : acc.app rest = tot
  len : m = acc.len

/-- One statement more. -/
theorem Grow.step {B : Nat} {W0 W1 : World} {acc tot : SL} {g go : Nat} {oo : Option Addr} {oc : Nat} {j m : Nat} {xs : List Value} {op : Int} {f : Txt} {x : EL} {t el rest : SL} {xv tv ev : Value} {yr : List Value} {cur w6 : World} {g6 c6 : Nat} (hB : B ≤ W0.heap.size)
    (h : Grow B W0 W1 acc tot g go (.slice oo m oc) j m xs (.cons op f x t el rest) (.int .i64 op :: str f :: xv :: tv :: ev :: yr) cur)
    (ho : w6.ownsRow W0.heap.size 66 5 (.slice (some ⟨g6, 0, none⟩) (m + 1) c6) (m + 1) (xs ++ [.int .i64 op, str f, xv, tv, ev]))
    (hg : (cur.alloc (.cells #[.int .i64 op, str f, xv, tv, ev] 66)).grownBy w6 (Value.slice oo m oc).ownBlock) (hat : (Value.slice oo m oc).ownBlock = some g6 ∨ g6 = cur.heap.size + 1) :
    Grow B W0 W1 (acc.app (.cons op f x t el .nil)) tot g go (.slice (some ⟨g6, 0, none⟩) (m + 1) c6) (j + 1) (m + 1) (xs ++ [.int .i64 op, str f, xv, tv, ev]) rest yr w6 := by
  have hF : ∀ q, W0.heap.size ≤ q → B ≤ q := fun q hq => Nat.le_trans hB hq
  have k1 : Keeps (fun q => (Value.slice oo m oc).ownBlock = some q) cur w6 := ((Keeps.refl _ cur).alloc _).grown hg (fun q e _ => e)
  have k2 : Keeps (fun q => W0.heap.size ≤ q) cur w6 := k1.mono (fun q _ e => (h.own.lt q e).1)
  obtain ⟨xv', tv', ev', yr', e, h1, h2, h3, h4⟩ := h.left
  simp only [List.cons.injEq, true_and] at e
  obtain ⟨rfl, rfl, rfl, rfl⟩ := e
  refine ⟨ho, (h.held.argKeep k2 hF).app ⟨_, _, _, [], rfl, h1.argKeep k2 hF, h2.argKeep k2 hF, h3.argKeep k2 hF, rfl⟩, h4.argKeep k2 hF, fun i y hy => ?_, fun e => ?_, Nat.lt_of_lt_of_le h.lt k1.size, h.kept.trans k2, ?_, ?_⟩
  · rw [k1.cell h.lt h.far, show go + (j + 1) * 5 + i = go + j * 5 + (i + 5) by omega]
    exact h.cells (i + 5) y (by simpa using hy)
  · have e' : g6 = g := by simpa [Value.ownBlock] using e
    have := h.lt
    rcases hat with ha | ha
    · exact h.far (by rw [ha, e'])
    · omega
  · rw [app_oneS]; exact h.all
  · rw [SL.len_app, h.len]; rfl
theorem SsIn.cons_open {Z : Zone} {w : World} {op : Int} {f : Txt} {x : EL} {t e r : SL} {xs : List Value} (h : SsIn Z w (.cons op f x t e r) xs) : ∃ xo xc to tc eo ec ys, xs = .int .i64 op :: str f :: .slice xo x.len xc :: .slice to t.len tc :: .slice eo e.len ec :: ys := by
  obtain ⟨xv, tv, ev, ys, e, h1, h2, h3, _⟩ := h
  obtain ⟨xo, xc, rfl, _⟩ := h1.head
  obtain ⟨to, tc, rfl, _⟩ := h2.head
  obtain ⟨eo, ec, rfl, _⟩ := h3.head
  exact ⟨xo, xc, to, tc, eo, ec, ys, e⟩
end Go.Proofs.YtljoacpaehmbdaaGreatDoor
