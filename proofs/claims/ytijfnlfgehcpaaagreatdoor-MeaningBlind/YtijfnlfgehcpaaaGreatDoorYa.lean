import Derived.Test.YtijfnlfgehcpaaaGreatDoorXt
import Derived.Test.YtijfnlfgehcpaaaGreatDoorUg
namespace Go.Proofs.YtijfnlfgehcpaaaGreatDoor
open Go.RowKit Go.Maps

/-- Is there a delete in the program? -/
def delS : SL → Bool
  | .nil => false
  | .cons op _ _ t e r => decide (op = 7) || delS t || delS e || delS r
theorem wr_both : ∀ (l m : SL) (s : Txt), wrF (l.app m) s = wrF l s + wrF m s
  | .nil, m, s => by simp [SL.app, wrF]
  | .cons op f x t e r, m, s => by simp only [SL.app, wrF, wr_both r m s]; omega
theorem rd_both : ∀ (l m : SL) (s : Txt), rdF (l.app m) s = rdF l s + rdF m s
  | .nil, m, s => by simp [SL.app, rdF]
  | .cons op f x t e r, m, s => by simp only [SL.app, rdF, rd_both r m s]; omega
theorem own_place {S : List FieldA} {op : Int} {f : Txt} {x : EL} (h : ownP S op f x = 0) (ho : op = 1 ∨ op = 2 ∨ op = 3 ∨ op = 4 ∨ op = 5) : ∃ fd, S[placeP S f]? = some fd ∧ fd.name = f := by
  have hn : (namedK S f).2 = 0 := by
    unfold ownP at h
    split at h
    · exact orL_zero h _ (by simp)
    · split at h
      · exact orL_zero h _ (by simp)
      · split at h
        · exact orL_zero h _ (by simp)
        · omega
  obtain ⟨fd, hfd, _⟩ := named_some hn
  refine ⟨fd, find_idx hfd, ?_⟩
  unfold fieldOf at hfd
  simpa using List.find?_some hfd
theorem setV_frame {S : List FieldA} {r : Bool × List ValA} (hr : r.1 = true) {f : Txt} {fd : FieldA} (hf : S[placeP S f]? = some fd) (hn : fd.name = f) (v : ValA) :
    (setV r (placeP S f) v).1 = true ∧ (setV r (placeP S f) v).2.length = r.2.length ∧ ∀ (i : Nat) (g : FieldA), S[i]? = some g → g.name ≠ f → (setV r (placeP S f) v).2[i]? = r.2[i]? := by
  unfold setV
  rw [if_pos hr]
  refine ⟨rfl, by simp, fun i g hg hne => ?_⟩
  have : placeP S f ≠ i := fun e => by
    subst e
    rw [hf] at hg
    simp at hg
    subst hg
    exact hne hn
  show (r.2.set (placeP S f) v)[i]? = r.2[i]?
  rw [List.getElem?_set_ne this]
/-- A field that a program does not write stays. -/
theorem frame_pure {S : List FieldA} : ∀ (l : SL) (r : Bool × List ValA), r.1 = true → okS S l → delS l = false → (runS S l r).1 = true ∧ (runS S l r).2.length = r.2.length ∧ ∀ (i : Nat) (g : FieldA), S[i]? = some g → wrF (flatS l) g.name = 0 → (runS S l r).2[i]? = r.2[i]?
  | .nil, r, hr, _, _ => ⟨hr, rfl, fun _ _ _ _ => rfl⟩
  | .cons op f x t e rest, r, hr, ⟨h0, ht, he, hrest⟩, hd => by
    simp only [delS, Bool.or_eq_false_iff, decide_eq_false_iff_not] at hd
    obtain ⟨⟨⟨hd0, hdt⟩, hde⟩, hdr⟩ := hd
    have hw : ∀ s, wrF (flatS (.cons op f x t e rest)) s = (if (op = 1 ∨ op = 2 ∨ op = 3 ∨ op = 4 ∨ op = 5) ∧ f = s then 1 else 0) + (wrF (flatS t) s + (wrF (flatS e) s + wrF (flatS rest) s)) := fun s => by
      simp only [flatS, wrF, wr_both]
    have key : (stmtS S op f x t e r).1 = true ∧ (stmtS S op f x t e r).2.length = r.2.length ∧ ∀ (i : Nat) (g : FieldA), S[i]? = some g → wrF (flatS (.cons op f x t e rest)) g.name = 0 → (stmtS S op f x t e r).2[i]? = r.2[i]? := by
      have set : ∀ v, (op = 1 ∨ op = 2 ∨ op = 3 ∨ op = 4 ∨ op = 5) → (setV r (placeP S f) v).1 = true ∧ (setV r (placeP S f) v).2.length = r.2.length ∧ ∀ (i : Nat) (g : FieldA), S[i]? = some g → wrF (flatS (.cons op f x t e rest)) g.name = 0 → (setV r (placeP S f) v).2[i]? = r.2[i]? := fun v ho => by
        obtain ⟨fd, h1, h2⟩ := own_place h0 ho
        obtain ⟨a, b, c⟩ := setV_frame hr h1 h2 v
        refine ⟨a, b, fun i g hg hz => c i g hg fun hne => ?_⟩
        rw [hw, if_pos ⟨ho, hne.symm⟩] at hz
        omega
      by_cases o6 : op = 6
      · have hs : stmtS S op f x t e r = r := by unfold stmtS; rw [if_pos o6, if_pos hr]
        rw [hs]
        exact ⟨hr, rfl, fun _ _ _ _ => rfl⟩
      by_cases o5 : op = 5
      · have hs : stmtS S op f x t e r = setV r (placeP S f) zV := by unfold stmtS; rw [if_neg o6, if_neg hd0, if_pos o5]
        rw [hs]
        exact set _ (by omega)
      by_cases o1 : op = 1
      · have hs : stmtS S op f x t e r = setV r (placeP S f) (headV S r x) := by unfold stmtS; rw [if_neg o6, if_neg hd0, if_neg o5, if_pos o1]
        rw [hs]
        exact set _ (by omega)
      by_cases o2 : op = 2 ∨ op = 3 ∨ op = 4
      · have hs : stmtS S op f x t e r = setV r (placeP S f) (joinV op (fieldV S r.1 r.2 f) (headV S r x)) := by unfold stmtS; rw [if_neg o6, if_neg hd0, if_neg o5, if_neg o1, if_pos o2]
        rw [hs]
        exact set _ (by omega)
      have hs : stmtS S op f x t e r = if (headV S r x).n = 1 then runS S t r else runS S e r := by unfold stmtS; rw [if_neg o6, if_neg hd0, if_neg o5, if_neg o1, if_neg o2]
      rw [hs]
      split
      · obtain ⟨a, b, c⟩ := frame_pure t r hr ht hdt
        exact ⟨a, b, fun i g hg hz => c i g hg (by rw [hw] at hz; omega)⟩
      · obtain ⟨a, b, c⟩ := frame_pure e r hr he hde
        exact ⟨a, b, fun i g hg hz => c i g hg (by rw [hw] at hz; omega)⟩
    rw [runS_cons]
    obtain ⟨a, b, c⟩ := key
    obtain ⟨a2, b2, c2⟩ := frame_pure rest _ a hrest hdr
    exact ⟨a2, b2.trans b, fun i g hg hz => (c2 i g hg (by rw [hw] at hz; omega)).trans (c i g hg hz)⟩
theorem pick_has {S : List FieldA} {p : Txt → Bool} {i : Nat} {g : FieldA} (h : S[i]? = some g) : (pick S p).contains g.name = p g.name := by
  have hm : g.name ∈ S.map FieldA.name := List.mem_map.2 ⟨g, List.mem_of_getElem? h, rfl⟩
  cases hp : p g.name with
  | true => exact List.contains_iff_mem.2 (List.mem_filter.2 ⟨hm, hp⟩)
  | false =>
    cases hc : (pick S p).contains g.name with
    | false => rfl
    | true =>
      have := (List.mem_filter.1 (List.contains_iff_mem.1 hc)).2
      rw [hp] at this
      cases this
/-- What MeaningFrame says, of the pure program. -/
theorem frame_law (S : List FieldA) (l : SL) (h : Bool) (vals : List ValA) :
    ((fieldsP S l).2.2 ≠ 0 ∧ (runP S l h vals).2 = (fieldsP S l).2.2) ∨ ((fieldsP S l).2.2 = 0 ∧ (runP S l h vals).2 ≠ 0) ∨
    ((fieldsP S l).2.2 = 0 ∧ (runP S l h vals).2 = 0 ∧ (delS l = true ∨ h = false)) ∨
    ((fieldsP S l).2.2 = 0 ∧ (runP S l h vals).2 = 0 ∧ delS l = false ∧ h = true ∧ (runP S l h vals).1.1 = true ∧ (runP S l h vals).1.2.length = vals.length ∧ vals.length = S.length ∧ S.length ≤ 8 ∧
      ∀ (i : Nat) (g : FieldA) v, S[i]? = some g → (fieldsP S l).2.1.contains g.name = false → vals[i]? = some v → (runP S l h vals).1.2[i]? = some v) := by
  by_cases hc : (checkP S l).1 = 0
  · have hfp : fieldsP S l = (pick S (fun s => decide (0 < rdF (flatS l) s)), pick S (fun s => decide (0 < wrF (flatS l) s)), 0) := by unfold fieldsP; rw [if_neg (by simpa using hc)]
    rw [hfp]
    refine Or.inr ?_
    by_cases hR : (runP S l h vals).2 = 0
    · refine Or.inr ?_
      by_cases hd : delS l = true ∨ h = false
      · exact Or.inl ⟨rfl, hR, hd⟩
      · refine Or.inr ?_
        have hd1 : delS l = false := by cases hx : delS l <;> simp [hx] at hd ⊢
        have hh : h = true := by cases hx : h <;> simp [hx] at hd ⊢
        subst hh
        obtain ⟨h1, h2, h3, h4⟩ := chain_ok hR
        obtain ⟨hS, hw, hok⟩ := check_ok hc
        have hrun : runP S l true vals = (runS S l (true, vals), 0) := h4
        obtain ⟨a, b, c⟩ := frame_pure l (true, vals) rfl hok hd1
        have hlen : vals.length = S.length := (rowE_fit h3).1
        rw [hrun]
        refine ⟨rfl, rfl, hd1, rfl, a, b, hlen, (schemaB_len hS).2, fun i g v hg hn hv => (c i g hg ?_).trans hv⟩
        rw [pick_has hg] at hn
        simpa using hn
    · exact Or.inl ⟨rfl, hR⟩
  · refine Or.inl ?_
    have hfp : fieldsP S l = ([], [], (checkP S l).1) := by unfold fieldsP; rw [if_pos hc]
    rw [hfp, chain_bad hc]
    exact ⟨hc, rfl⟩
end Go.Proofs.YtijfnlfgehcpaaaGreatDoor
