import Derived.Test.YtijfnlfgehcpaaaGreatDoorYc
namespace Go.Proofs.YtijfnlfgehcpaaaGreatDoor
open Go.RowKit Go.Maps

theorem named_place {S : List FieldA} {f : Txt} (h : (namedK S f).2 = 0) : ∃ fd, S[placeP S f]? = some fd ∧ fd.name = f := by
  obtain ⟨fd, hfd, _⟩ := named_some h
  refine ⟨fd, find_idx hfd, ?_⟩
  unfold fieldOf at hfd
  simpa using List.find?_some hfd
/-- A field of that name is there. -/
def Has (S : List FieldA) (nm : Txt) : Prop := ∃ fd, S[placeP S nm]? = some fd ∧ fd.name = nm
theorem rule_has {S : List FieldA} {op : Int} {s : Txt} {ks : List KA} (ho : op = 4 ∨ op = 5) (h : (ruleP S op s ks).2 = 0) : Has S s := by
  rcases ho with rfl | rfl
  · exact named_place (show (namedK S s).2 = 0 from h)
  · exact named_place (orI_zero (show orI (namedK S s).2 (optI (namedK S s).1) = 0 from h)).1
theorem kinds_has {S : List FieldA} : ∀ (l : EL), (kindsP S l).2 = 0 → ∀ nm, 0 < cntE l nm → Has S nm
  | .nil, _, nm, h => by simp [cntE] at h
  | .cons op n s kids rest, h, nm, hc => by
    simp only [kindsP] at h
    split at h
    · exact absurd h ‹_›
    · rename_i h1
      split at h
      · exact absurd h ‹_›
      · rename_i h2
        split at h
        · exact absurd h ‹_›
        · rename_i h3
          simp only [cntE] at hc
          by_cases ho : (op = 4 ∨ op = 5) ∧ s = nm
          · obtain ⟨ho, rfl⟩ := ho
            exact rule_has ho (Decidable.byContradiction h2)
          · rw [if_neg ho] at hc
            by_cases hk : 0 < cntE kids nm
            · exact kinds_has kids (Decidable.byContradiction h1) nm hk
            · exact kinds_has rest (Decidable.byContradiction h3) nm (by omega)
theorem kind_has {S : List FieldA} {op n : Int} {s : Txt} {kids : EL} (h : (kindP S op s kids).2 = 0) (nm : Txt) (hc : 0 < cntE (.cons op n s kids .nil) nm) : Has S nm := by
  refine kinds_has (.cons op n s kids .nil) ?_ nm hc
  rw [kindsP_cons, if_neg (by simpa using h)]
  rfl
theorem own_has {S : List FieldA} {op : Int} {f : Txt} {x : EL} {t e : Nat} (hw : headS op f x.len t e = true) (h : ownP S op f x = 0) : (∀ nm, 0 < cntE x nm → Has S nm) ∧ ((op = 1 ∨ op = 2 ∨ op = 3 ∨ op = 4 ∨ op = 5) → Has S f) := by
  refine ⟨fun nm hc => ?_, fun ho => own_place h ho⟩
  have one : x.len = 1 → (headK S x).2 = 0 → Has S nm := fun hl hk => by
    obtain ⟨o, n, s, kids, rfl⟩ := EL.one_of hl
    exact kind_has hk nm hc
  unfold ownP at h
  rcases head_open hw with ⟨h1, _, hl⟩ | ⟨rfl, _, rfl⟩ | ⟨h1, rfl⟩ | ⟨rfl, hl⟩
  · refine one hl ?_
    split at h
    · exact orL_zero h _ (by simp)
    · rw [if_pos (by omega)] at h
      exact orL_zero h _ (by simp)
  · simp [cntE] at hc
  · simp [cntE] at hc
  · refine one hl ?_
    rw [if_neg (by decide), if_neg (by decide), if_neg (by decide), if_pos rfl] at h
    exact orL_zero h _ (by simp)
/-- Two rows that are alike at the places of E. -/
def Like (E : Nat → Prop) (a b : Bool × List ValA) : Prop := a.1 = b.1 ∧ a.2.length = b.2.length ∧ ∀ i, E i → a.2[i]? = b.2[i]?
theorem like_field {S : List FieldA} {E : Nat → Prop} {a b : Bool × List ValA} (h : Like E a b) {nm : Txt} (hE : E (placeP S nm)) : fieldV S a.1 a.2 nm = fieldV S b.1 b.2 nm := by
  unfold fieldV
  rw [h.1]
  cases hb : b.1 with
  | false => rfl
  | true => simp only [if_true]; rw [h.2.2 _ hE]
theorem like_vals {S : List FieldA} {E : Nat → Prop} {a b : Bool × List ValA} (h : Like E a b) : ∀ l : EL, (∀ nm, 0 < cntE l nm → E (placeP S nm)) → valsP S a.1 a.2 l = valsP S b.1 b.2 l
  | .nil, _ => rfl
  | .cons op n s kids rest, hE => by
    have hk := like_vals h kids fun nm hc => hE nm (by simp only [cntE]; omega)
    have hr := like_vals h rest fun nm hc => hE nm (by simp only [cntE]; omega)
    simp only [valsP]
    rw [hk, hr]
    have hl : leafV S a.1 a.2 op n s = leafV S b.1 b.2 op n s := by
      have hf : op = 4 ∨ op = 5 → fieldV S a.1 a.2 s = fieldV S b.1 b.2 s := fun ho => like_field h (hE s (by unfold cntE; rw [if_pos ⟨ho, rfl⟩]; omega))
      unfold leafV
      split
      · rfl
      · split
        · rfl
        · split
          · rfl
          · split
            · exact hf (by omega)
            · split
              · rw [hf (by omega)]
              · rw [h.1]
    rw [hl]
theorem like_head {S : List FieldA} {E : Nat → Prop} {a b : Bool × List ValA} (h : Like E a b) (x : EL) (hE : ∀ nm, 0 < cntE x nm → E (placeP S nm)) : headV S a x = headV S b x := by
  unfold headV
  rw [like_vals h x hE]
theorem like_set {E : Nat → Prop} {a b : Bool × List ValA} (h : Like E a b) (i : Nat) (v : ValA) : Like E (setV a i v) (setV b i v) := by
  unfold setV
  rw [h.1]
  cases hb : b.1 with
  | false => simpa using h
  | true =>
    simp only [if_true]
    refine ⟨rfl, by simpa using h.2.1, fun j hj => ?_⟩
    show (a.2.set i v)[j]? = (b.2.set i v)[j]?
    by_cases hij : i = j
    · subst hij
      rw [List.getElem?_set, List.getElem?_set, h.2.1, if_pos rfl, if_pos rfl]
    · rw [List.getElem?_set_ne hij, List.getElem?_set_ne hij]
      exact h.2.2 j hj
/-- What a program does not read does not matter. -/
theorem like_run {S : List FieldA} {E : Nat → Prop} : ∀ (l : SL) (a b : Bool × List ValA), (∀ nm, 0 < rdF (flatS l) nm → E (placeP S nm)) → Like E a b → Like E (runS S l a) (runS S l b)
  | .nil, _, _, _, h => h
  | .cons op f x t e rest, a, b, hE, h => by
    have hw : ∀ s, rdF (flatS (.cons op f x t e rest)) s = cntE x s + (if (op = 2 ∨ op = 3 ∨ op = 4) ∧ f = s then 1 else 0) + (rdF (flatS t) s + (rdF (flatS e) s + rdF (flatS rest) s)) := fun s => by
      simp only [flatS, rdF, rd_both]
    have hx : headV S a x = headV S b x := like_head h x fun nm hc => hE nm (by rw [hw]; omega)
    have key : Like E (stmtS S op f x t e a) (stmtS S op f x t e b) := by
      by_cases o6 : op = 6
      · have hs : ∀ r : Bool × List ValA, stmtS S op f x t e r = if r.1 then r else (true, zeros S) := fun r => by unfold stmtS; rw [if_pos o6]
        rw [hs, hs, h.1]
        cases hb : b.1 with
        | true => simpa using h
        | false => exact ⟨rfl, rfl, fun _ _ => rfl⟩
      by_cases o7 : op = 7
      · have hs : ∀ r : Bool × List ValA, stmtS S op f x t e r = (false, []) := fun r => by unfold stmtS; rw [if_neg o6, if_pos o7]
        rw [hs, hs]
        exact ⟨rfl, rfl, fun _ _ => rfl⟩
      by_cases o5 : op = 5
      · have hs : ∀ r : Bool × List ValA, stmtS S op f x t e r = setV r (placeP S f) zV := fun r => by unfold stmtS; rw [if_neg o6, if_neg o7, if_pos o5]
        rw [hs, hs]
        exact like_set h _ _
      by_cases o1 : op = 1
      · have hs : ∀ r : Bool × List ValA, stmtS S op f x t e r = setV r (placeP S f) (headV S r x) := fun r => by unfold stmtS; rw [if_neg o6, if_neg o7, if_neg o5, if_pos o1]
        rw [hs, hs, hx]
        exact like_set h _ _
      by_cases o2 : op = 2 ∨ op = 3 ∨ op = 4
      · have hs : ∀ r : Bool × List ValA, stmtS S op f x t e r = setV r (placeP S f) (joinV op (fieldV S r.1 r.2 f) (headV S r x)) := fun r => by unfold stmtS; rw [if_neg o6, if_neg o7, if_neg o5, if_neg o1, if_pos o2]
        rw [hs, hs, hx, like_field h (hE f (by rw [hw, if_pos ⟨o2, rfl⟩]; omega))]
        exact like_set h _ _
      have hs : ∀ r : Bool × List ValA, stmtS S op f x t e r = if (headV S r x).n = 1 then runS S t r else runS S e r := fun r => by unfold stmtS; rw [if_neg o6, if_neg o7, if_neg o5, if_neg o1, if_neg o2]
      rw [hs, hs, hx]
      split
      · exact like_run t a b (fun nm hc => hE nm (by rw [hw]; omega)) h
      · exact like_run e a b (fun nm hc => hE nm (by rw [hw]; omega)) h
    rw [runS_cons, runS_cons]
    exact like_run rest _ _ (fun nm hc => hE nm (by rw [hw]; omega)) key
theorem rd_has {S : List FieldA} : ∀ (l : SL), wellS l = true → okS S l → ∀ nm, 0 < rdF (flatS l) nm → Has S nm
  | .nil, _, _, nm, h => by simp [flatS, rdF] at h
  | .cons op f x t e rest, hw, ⟨h0, ht, he, hrest⟩, nm, hc => by
    simp only [wellS, Bool.and_eq_true] at hw
    obtain ⟨g1, g2⟩ := own_has hw.1 h0
    simp only [flatS, rdF, rd_both] at hc
    by_cases c1 : 0 < cntE x nm
    · exact g1 nm c1
    by_cases c2 : (op = 2 ∨ op = 3 ∨ op = 4) ∧ f = nm
    · obtain ⟨c2, rfl⟩ := c2
      exact g2 (by omega)
    rw [if_neg c2] at hc
    by_cases c3 : 0 < rdF (flatS t) nm
    · exact rd_has t hw.2.2.1 ht nm c3
    by_cases c4 : 0 < rdF (flatS e) nm
    · exact rd_has e hw.2.2.2.1 he nm c4
    exact rd_has rest hw.2.2.2.2 hrest nm (by omega)
/-- One record with the other's values where nothing is read. -/
def blend : List FieldA → List Txt → List ValA → List ValA → List ValA
  | g :: S, r, a :: l, b :: m => (if g.name ∈ r then a else b) :: blend S r l m
  | _, _, _, _ => []
theorem blend_get : ∀ (S : List FieldA) (r : List Txt) (l m : List ValA) (i : Nat) (g : FieldA) (a b : ValA), S[i]? = some g → l[i]? = some a → m[i]? = some b → (blend S r l m)[i]? = some (if g.name ∈ r then a else b)
  | g :: S, r, a :: l, b :: m, 0, _, _, _, h1, h2, h3 => by
    simp at h1 h2 h3
    subst h1 h2 h3
    simp [blend]
  | g :: S, r, a :: l, b :: m, i + 1, _, _, _, h1, h2, h3 => by
    simp at h1 h2 h3
    simp only [blend, List.getElem?_cons_succ]
    exact blend_get S r l m i _ _ _ h1 h2 h3
  | [], _, _, _, _, _, _, _, h1, _, _ => by simp at h1
  | _ :: _, _, [], _, _, _, _, _, _, h2, _ => by simp at h2
  | _ :: _, _, _ :: _, [], _, _, _, _, _, _, h3 => by simp at h3
theorem blend_len : ∀ (S : List FieldA) (r : List Txt) (l m : List ValA), l.length = S.length → m.length = S.length → (blend S r l m).length = S.length
  | [], _, _, _, _, _ => by simp [blend]
  | g :: S, r, a :: l, b :: m, h1, h2 => by
    simp only [blend, List.length_cons] at *
    rw [blend_len S r l m (by omega) (by omega)]
  | _ :: _, _, [], _, h1, _ => by simp at h1
  | _ :: _, _, _ :: _, [], _, h2 => by simp at h2
/-- What MeaningBlind says, of the pure program. -/
theorem blind_law (S : List FieldA) (l : SL) (one other : List ValA) :
    (fieldsP S l).2.2 ≠ 0 ∨ ((fieldsP S l).2.2 = 0 ∧ errR S one ≠ 0) ∨ ((fieldsP S l).2.2 = 0 ∧ errR S one = 0 ∧ errR S other ≠ 0) ∨
    ((fieldsP S l).2.2 = 0 ∧ errR S one = 0 ∧ errR S other = 0 ∧ one.length = S.length ∧ other.length = S.length ∧ S.length ≤ 8 ∧ (fieldsP S l).1.length ≤ S.length ∧
      (runP S l true one).2 = 0 ∧ (runP S l true (blend S (fieldsP S l).1 one other)).2 = 0 ∧ (runP S l true one).1.1 = (runP S l true (blend S (fieldsP S l).1 one other)).1.1 ∧ (runP S l true one).1.2.length = (runP S l true (blend S (fieldsP S l).1 one other)).1.2.length ∧
      ∀ (i : Nat) x, one[i]? = some x → (blend S (fieldsP S l).1 one other)[i]? = some x → (runP S l true one).1.2[i]? = (runP S l true (blend S (fieldsP S l).1 one other)).1.2[i]?) := by
  by_cases hc : (checkP S l).1 = 0
  · have hfp : fieldsP S l = (pick S (fun s => decide (0 < rdF (flatS l) s)), pick S (fun s => decide (0 < wrF (flatS l) s)), 0) := by unfold fieldsP; rw [if_neg (by simpa using hc)]
    rw [hfp]
    refine Or.inr ?_
    by_cases h1 : errR S one = 0
    · refine Or.inr ?_
      by_cases h2 : errR S other = 0
      · refine Or.inr ⟨rfl, h1, h2, ?_⟩
        obtain ⟨hS, hw, hok⟩ := check_ok hc
        have r1 : rowE S true one = 0 := h1
        have r2 : rowE S true other = 0 := h2
        have f1 : one.length = S.length ∧ ∀ (i : Nat) f v, S[i]? = some f → one[i]? = some v → fitsB f v = true := rowE_fit r1
        have f2 : other.length = S.length ∧ ∀ (i : Nat) f v, S[i]? = some f → other[i]? = some v → fitsB f v = true := rowE_fit r2
        obtain ⟨two, htwo⟩ : ∃ t, blend S (pick S (fun s => decide (0 < rdF (flatS l) s))) one other = t := ⟨_, rfl⟩
        have hl2 : two.length = S.length := by rw [← htwo]; exact blend_len S _ one other f1.1 f2.1
        have g2 : ∀ (i : Nat) (g : FieldA) a b, S[i]? = some g → one[i]? = some a → other[i]? = some b → two[i]? = some (if g.name ∈ pick S (fun s => decide (0 < rdF (flatS l) s)) then a else b) := fun i g a b hg ha hb => by rw [← htwo]; exact blend_get S _ one other i g a b hg ha hb
        have get : ∀ (q : List ValA) (i : Nat), q.length = S.length → i < S.length → ∃ a, q[i]? = some a := fun q i hq hi => ⟨_, List.getElem?_eq_getElem (by omega)⟩
        have fit2 : RowFit S true two := by
          refine ⟨hl2, fun i f v hf hv => ?_⟩
          have hi : i < S.length := get_lt hf
          obtain ⟨a, ha⟩ := get one i f1.1 hi
          obtain ⟨b, hb⟩ := get other i f2.1 hi
          rw [g2 i f a b hf ha hb] at hv
          simp only [Option.some.injEq] at hv
          subst hv
          split
          · exact f1.2 i f a hf ha
          · exact f2.2 i f b hf hb
        have r3 : rowE S true two = 0 := by
          have := rowOf_fit hS fit2
          rw [(rowOf_rowE hS _ _).1] at this
          simpa using this
        have e0 := errS_good hS
        have run1 : runP S l true one = (runS S l (true, one), 0) := chain_of (ls := [l]) e0 (firstE_one.trans hc) r1
        have run2 : runP S l true two = (runS S l (true, two), 0) := chain_of (ls := [l]) e0 (firstE_one.trans hc) r3
        have like : Like (fun i => one[i]? = two[i]?) (runS S l (true, one)) (runS S l (true, two)) := by
          refine like_run l _ _ (fun nm hr => ?_) ⟨rfl, f1.1.trans hl2.symm, fun i h => h⟩
          obtain ⟨fd, hfd, hnm⟩ := rd_has l hw hok nm hr
          have hi : placeP S nm < S.length := get_lt hfd
          obtain ⟨a, ha⟩ := get one _ f1.1 hi
          obtain ⟨b, hb⟩ := get other _ f2.1 hi
          have hin : fd.name ∈ pick S (fun s => decide (0 < rdF (flatS l) s)) := by
            have := pick_has (p := fun s => decide (0 < rdF (flatS l) s)) hfd
            rw [hnm] at this ⊢
            rw [decide_eq_true hr] at this
            exact List.contains_iff_mem.1 this
          show one[placeP S nm]? = two[placeP S nm]?
          rw [g2 _ fd a b hfd ha hb, if_pos hin]
          exact ha
        simp only
        rw [htwo, run1, run2]
        exact ⟨f1.1, f2.1, (schemaB_len hS).2, pick_le S _, rfl, rfl, like.1, like.2.1, fun i x hx hy => like.2.2 i (hx.trans hy.symm)⟩
      · exact Or.inl ⟨rfl, h1, h2⟩
    · exact Or.inl ⟨rfl, h1⟩
  · refine Or.inl ?_
    have hfp : fieldsP S l = ([], [], (checkP S l).1) := by unfold fieldsP; rw [if_pos hc]
    rw [hfp]
    exact hc
end Go.Proofs.YtijfnlfgehcpaaaGreatDoor
