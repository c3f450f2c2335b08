import Derived.Test.YtoempeobaknkcaaGreatDoorPf
import Derived.Test.YtoempeobaknkcaaGreatDoorJyaz
namespace Go.Proofs.YtoempeobaknkcaaGreatDoor
open Go.RowKit Go.Maps

theorem EL.one_of : ∀ {x : EL}, x.len = 1 → ∃ o n s kids, x = .cons o n s kids .nil
  | .nil, h => by simp [EL.len] at h
  | .cons o n s kids .nil, _ => ⟨o, n, s, kids, rfl⟩
  | .cons _ _ _ _ (.cons _ _ _ _ _), h => by simp [EL.len] at h
/-- What the head of a statement tells. -/
theorem head_open {op : Int} {f : Txt} {x : EL} {t e : Nat} (h : headS op f x.len t e = true) :
    ((op = 1 ∨ op = 2 ∨ op = 3 ∨ op = 4) ∧ f.length ≤ 8 ∧ x.len = 1) ∨ (op = 5 ∧ f.length ≤ 8 ∧ x = .nil) ∨ ((op = 6 ∨ op = 7) ∧ x = .nil) ∨ (op = 8 ∧ x.len = 1) := by
  unfold headS at h
  split at h
  · rename_i h1
    simp only [Bool.and_eq_true, decide_eq_true_eq] at h
    exact Or.inl ⟨h1, name_short h.1, h.2.1⟩
  · split at h
    · rename_i h1
      simp only [Bool.and_eq_true, decide_eq_true_eq] at h
      exact Or.inr (Or.inl ⟨h1, name_short h.1, EL.len0 h.2.1⟩)
    · split at h
      · rename_i h1
        simp only [Bool.and_eq_true, decide_eq_true_eq] at h
        exact Or.inr (Or.inr (Or.inl ⟨h1, EL.len0 h.2.1⟩))
      · split at h
        · rename_i h1
          simp only [Bool.and_eq_true, decide_eq_true_eq] at h
          exact Or.inr (Or.inr (Or.inr ⟨h1, h.2⟩))
        · cases h
/-- Every statement of the list is well made by itself. -/
def wellF (N : Nat) : SL → Prop
  | .nil => True
  | .cons op f x t e r => headS op f x.len t.len e.len = true ∧ wellE x = true ∧ x.size ≤ N ∧ wellF N r
theorem wellF_app {N : Nat} : ∀ {l m : SL}, wellF N l → wellF N m → wellF N (l.app m)
  | .nil, _, _, h => h
  | .cons _ _ _ _ _ _, _, ⟨h1, h2, h3, h4⟩, h => ⟨h1, h2, h3, wellF_app h4 h⟩
theorem flat_well {N : Nat} : ∀ l : SL, l.size ≤ N → wellS l = true → wellF N (flatS l)
  | .nil, _, _ => trivial
  | .cons op f x t e r, hN, h => by
    simp only [wellS, Bool.and_eq_true, SL.size] at h hN
    exact ⟨h.1, h.2.1, by omega, wellF_app (flat_well t (by omega) h.2.2.1) (wellF_app (flat_well e (by omega) h.2.2.2.1) (flat_well r (by omega) h.2.2.2.2))⟩
/-- What the judge says of a statement. -/
theorem stmtJ_v (Z : Zone) (j mb nn tab : Nat) (S : List FieldA) (hS : (S.map FieldA.name).Nodup) (op : Int) (f : Txt) (x : EL) (t e : SL) (xv tv ev : Value) (up : Nat) (w : World) (hJ : JudgeAt w j mb nn tab S) (hT : StmtsAt w j)
    (hx : SlE Z w up xv x) (hv : ∃ to tn tc eo en ec, tv = .slice to tn tc ∧ ev = .slice eo en ec) (hh : headS op f x.len t.len e.len = true) (hw : wellE x = true) (hsz : x.size ≤ 4294967294) :
    Calls Tryz.prog 33 #[.pointer (some ⟨j, 0, none⟩), stV op f xv tv ev] w fun e w' => e = .returned (.int .i64 (ownP S op f x)) ∧ Keeps (fun _ => False) w w' := by
  obtain ⟨xo, xc, rfl, _⟩ := hx.head
  obtain ⟨to, tn, tc, eo, en, ec, rfl, rfl⟩ := hv
  have hv : ∃ xo' xn xc' to' tn' tc' eo' en' ec', Value.slice xo x.len xc = .slice xo' xn xc' ∧ Value.slice to tn tc = .slice to' tn' tc' ∧ Value.slice eo en ec = .slice eo' en' ec' := ⟨_, _, _, _, _, _, _, _, _, rfl, rfl, rfl⟩
  have hj := hJ.map.lt
  rcases head_open hh with ⟨h1, hf, hl⟩ | ⟨rfl, hf, rfl⟩ | ⟨h1, rfl⟩ | ⟨rfl, hl⟩
  · obtain ⟨o, n, s, kids, rfl⟩ := EL.one_of hl
    simp only [wellE, Bool.and_eq_true, EL.size] at hw hsz
    rcases h1 with rfl | rfl | rfl | rfl
    · have hR : ownP S 1 f (.cons o n s kids .nil) = orL [(namedK S f).2, (kindP S o s kids).2, ofI (kindP S o s kids).1 [(namedK S f).1.t], if (kindP S o s kids).1.o = true ∧ (namedK S f).1.o = false then 92 else 0] := by
        unfold ownP
        rw [if_pos rfl]
        rfl
      rw [hR]
      refine stmtJ1 j f _ _ _ hv _ w hj hT (fun w' hk => ?_)
      cases hO : (kindP S o s kids).1.o with
      | true =>
        have := setF_yes Z j mb nn tab S hS 1 f (by omega) o n s kids (by omega) _ up to eo tn tc en ec w' (hJ.keepF hk) (hx.keepF hk) hw.1 hw.2.1 hO
        rw [hO] at this
        exact this
      | false =>
        have := setF_no Z j mb nn tab S hS 1 f (by omega) o n s kids (by omega) _ up to eo tn tc en ec w' (hJ.keepF hk) (hx.keepF hk) hw.1 hw.2.1 hO
        rw [hO] at this
        exact this
    all_goals
      have hR : ∀ k : Int, k = 2 ∨ k = 3 ∨ k = 4 → ownP S k f (.cons o n s kids .nil) = orL [(namedK S f).2, (kindP S o s kids).2, ofI (namedK S f).1 [1], plainI (kindP S o s kids).1 [1]] := fun k hk => by
        unfold ownP
        rw [if_neg (by omega), if_pos hk]
        rfl
    · rw [hR 2 (by omega)]
      exact stmtJ2 j f _ _ _ hv _ w hj hT (fun w' hk => changeF_v Z j mb nn tab S hS 2 f (by omega) o n s kids (by omega) _ up to eo tn tc en ec w' (hJ.keepF hk) (hx.keepF hk) hw.1 hw.2.1)
    · rw [hR 3 (by omega)]
      exact stmtJ3 j f _ _ _ hv _ w hj hT (fun w' hk => changeF_v Z j mb nn tab S hS 3 f (by omega) o n s kids (by omega) _ up to eo tn tc en ec w' (hJ.keepF hk) (hx.keepF hk) hw.1 hw.2.1)
    · rw [hR 4 (by omega)]
      exact stmtJ4 j f _ _ _ hv _ w hj hT (fun w' hk => changeF_v Z j mb nn tab S hS 4 f (by omega) o n s kids (by omega) _ up to eo tn tc en ec w' (hJ.keepF hk) (hx.keepF hk) hw.1 hw.2.1)
  · exact stmtJ5 j f _ _ _ hv _ w hj hT (fun w' hk => clearF_v j mb nn S hS 5 f (by omega) xo to eo _ xc tn tc en ec w' ((hJ.map).keepF hk))
  · rcases h1 with rfl | rfl
    · exact stmtJ6 j f _ _ _ hv _ w hj hT (fun w' hk => alwaysF_v 6 f xo to eo _ xc tn tc en ec w')
    · exact stmtJ7 j f _ _ _ hv _ w hj hT (fun w' hk => alwaysF_v 7 f xo to eo _ xc tn tc en ec w')
  · obtain ⟨o, n, s, kids, rfl⟩ := EL.one_of hl
    simp only [wellE, Bool.and_eq_true, EL.size] at hw hsz
    exact stmtJ8 j f _ _ _ hv _ w hj hT (fun w' hk => chooseF_v Z j mb nn tab S hS 8 f o n s kids (by omega) _ up to eo tn tc en ec w' (hJ.keepF hk) (hx.keepF hk) hw.1 hw.2.1)
/-- The first statement of a list that does not fit. -/
def firstBad (S : List FieldA) : SL → Nat → Int × Nat
  | .nil, _ => (0, 0)
  | .cons op f x _ _ r, k => if ownP S op f x ≠ 0 then (ownP S op f x, k) else firstBad S r (k + 1)
/-- What Check answers. -/
def checkP (S : List FieldA) (l : SL) : Int × Nat := if errS S ≠ 0 then (errS S, 0) else if checkS l ≠ 0 then (checkS l, 0) else firstBad S (flatS l) 0
theorem num_open {B : Nat} {l : SL} {w' : World} {ao : Option Addr} {c n : Nat} {xs : List Value} (hn : n = (flatS l).len) (hr : RowAt w' (.slice ao n c) n xs) (hs : SsIn (argZ B) w' (flatS l) xs) :
    ∃ b off, (n ≠ 0 → ao = some ⟨b, off, none⟩) ∧ StIn (argZ w'.heap.size) w' (flatS l) b off := by
  rcases Nat.eq_zero_or_pos n with h0 | h0
  · refine ⟨0, 0, fun h => absurd h0 h, ?_⟩
    rw [SL.len0 (hn.symm.trans h0)]
    trivial
  · obtain ⟨b, off, cap, e, hb, hc⟩ := hr.cells h0
    simp at e
    exact ⟨b, off, fun _ => e.1, hs.stIn hb (Nat.le_refl _) hc⟩
end Go.Proofs.YtoempeobaknkcaaGreatDoor
