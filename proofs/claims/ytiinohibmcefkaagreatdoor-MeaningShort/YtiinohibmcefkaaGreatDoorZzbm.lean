import Derived.Test.YtiinohibmcefkaaGreatDoorZzbl
import Derived.Test.YtiinohibmcefkaaGreatDoorZzbd
import Derived.Laws.Tables
import Derived.Test.YtiinohibmcefkaaGreatDoorZzbs
import Derived.Test.YtiinohibmcefkaaGreatDoorZzau
import Derived.Handy
namespace Go.Proofs.YtiinohibmcefkaaGreatDoor
open Go.RowKit Go.Maps

theorem eq_pair {h1 h2 : Bool} {v1 v2 : List ValA} (hh : (h1, v1) = (h2, v2)) : (decide (h1 = h2) && decide (v1 = v2)) = true := by
  rw [Prod.mk.injEq] at hh
  rw [hh.1, hh.2]
  simp
theorem sls_top {B : Nat} {w w' : World} {v : Value} {l : SL} (h : SlS (argZ B) w 0 v l) (hk : Keeps (fun _ => False) w w') : SlS (argZ w'.heap.size) w' 0 v l := (h.keepF hk).arg (Nat.le_refl _) 0
end Go.Proofs.YtiinohibmcefkaaGreatDoor
namespace Go.Proofs.YtiinohibmcefkaaGreatDoor
open Go.RowKit Go.Maps

/-- A statement with one expression, ahead of others. -/
def st1 (op : Int) (nm : Txt) (e : XE) (rest : SL) : SL := .cons op nm (e.el .nil) .nil .nil rest
def fldX (nm : Txt) : XE := ⟨4, 0, nm, .nil⟩
def zeroX : XE := ⟨1, 0, [], .nil⟩
def hereX : XE := ⟨6, 0, [], .nil⟩
/-- A field's value, or another where it is absent. -/
def plainOrX (f : FieldA) (o : XE) : XE := if f.opt then mk2 20 (fldX f.name) o else fldX f.name
/-- Two programs make the same of a row, where both may be run. -/
def AlikeP (S : List FieldA) (h : Bool) (vals : List ValA) (p q : SL) : Prop := (runP S p h vals).2 = 0 → (runP S q h vals).2 = 0 → (runP S p h vals).1 = (runP S q h vals).1
theorem run_tells {S : List FieldA} {l : SL} {h : Bool} {vals : List ValA} (h0 : (runP S l h vals).2 = 0) : schemaB S = true ∧ rowE S h vals = 0 ∧ wellS l = true ∧ okS S l ∧ (runP S l h vals).1 = runS S l (h, vals) := by
  obtain ⟨h1, h2, h3, h4⟩ := chain_ok h0
  rw [firstE_one] at h2
  obtain ⟨hS, hw, hok⟩ := check_ok h2
  refine ⟨hS, h3, hw, hok, ?_⟩
  unfold runP
  rw [h4]
  rfl
theorem alikeP_of {S : List FieldA} {h : Bool} {vals : List ValA} {p q : SL} (hh : schemaB S = true → rowE S h vals = 0 → wellS p = true → okS S p → wellS q = true → okS S q → runS S p (h, vals) = runS S q (h, vals)) : AlikeP S h vals p q := fun h1 h2 => by
  obtain ⟨hS, hr, a1, a2, a3⟩ := run_tells h1
  obtain ⟨_, _, b1, b2, b3⟩ := run_tells h2
  rw [a3, b3]
  exact hh hS hr a1 a2 b1 b2
theorem st1_ok {S : List FieldA} {op : Int} {nm : Txt} {e : XE} {rest : SL} (hw : wellS (st1 op nm e rest) = true) (ho : okS S (st1 op nm e rest)) : rootB e.op e.n e.s e.kids.len = true ∧ wellE e.kids = true ∧ ownP S op nm (e.el .nil) = 0 ∧ wellS rest = true ∧ okS S rest := by
  unfold st1 at hw ho
  simp only [wellS, Bool.and_eq_true] at hw
  obtain ⟨a, b, _⟩ := well_el hw.2.1
  exact ⟨a, b, ho.1, hw.2.2.2.2, ho.2.2.2⟩
theorem own_chg {S : List FieldA} {op : Int} {nm : Txt} {e : XE} (hop : op = 2 ∨ op = 3 ∨ op = 4) (h : ownP S op nm (e.el .nil) = 0) : (∃ f, fieldOf S nm = some f ∧ f.type = 1) ∧ (kindP S e.op e.s e.kids).2 = 0 ∧ (e.kind S).t = 1 ∧ (e.kind S).o = false := by
  unfold ownP at h
  rw [if_neg (by omega), if_pos hop] at h
  have h1 := orL_zero h (namedK S nm).2 (by simp)
  have h2 := orL_zero h (kindP S e.op e.s e.kids).2 (by simp [XE.el, headK])
  have h3 := orL_zero h (ofI (namedK S nm).1 [1]) (by simp)
  have h4 := orL_zero h (plainI (kindP S e.op e.s e.kids).1 [1]) (by simp [XE.el, headK])
  obtain ⟨f, hf, hn⟩ := named_some h1
  rw [hn] at h3
  have ht := of_zero h3
  obtain ⟨t, o⟩ := plain_zero h4
  exact ⟨⟨f, hf, ht⟩, h2, by simpa [XE.kind] using t, o⟩
/-- A field of the schema is found by its name. -/
theorem field_self {S : List FieldA} (hS : schemaB S = true) {i : Nat} {f : FieldA} (hf : S[i]? = some f) : fieldOf S f.name = some f := by
  have hnd : (S.map FieldA.name).Nodup := by
    unfold schemaB at hS
    simp only [Bool.and_eq_true, decide_eq_true_eq] at hS
    exact hS.1.2
  cases hg : fieldOf S f.name with
  | none =>
    unfold fieldOf at hg
    have := List.find?_eq_none.1 hg f (List.mem_of_getElem? hf)
    simp at this
  | some g =>
    have hp := find_idx hg
    have hn : g.name = f.name := by
      unfold fieldOf at hg
      simpa using List.find?_some hg
    have h1 : (S.map FieldA.name)[placeP S f.name]? = some f.name := by rw [List.getElem?_map, hp]; simp [hn]
    have h2 : (S.map FieldA.name)[i]? = some f.name := by rw [List.getElem?_map, hf]; rfl
    have hlt : placeP S f.name < (S.map FieldA.name).length := (List.getElem?_eq_some_iff.1 h1).1
    have e := (List.getElem?_inj hlt hnd).1 (h1.trans h2.symm)
    rw [e, hf] at hp
    exact hp.symm
theorem head_val (S : List FieldA) (h : Bool) (vals : List ValA) (e : XE) : headV S (h, vals) (e.el .nil) = e.val S h vals := rfl
theorem run_st1 (S : List FieldA) (op : Int) (nm : Txt) (e : XE) (rest : SL) (r : Bool × List ValA) : runS S (st1 op nm e rest) r = runS S rest (stmtS S op nm (e.el .nil) .nil .nil r) := rfl
theorem stmt_set (S : List FieldA) (nm : Txt) (x : EL) (r : Bool × List ValA) : stmtS S 1 nm x .nil .nil r = setV r (placeP S nm) (headV S r x) := rfl
theorem stmt_chg {S : List FieldA} {op : Int} (hop : op = 2 ∨ op = 3 ∨ op = 4) (nm : Txt) (x : EL) (r : Bool × List ValA) : stmtS S op nm x .nil .nil r = setV r (placeP S nm) (joinV op (fieldV S r.1 r.2 nm) (headV S r x)) := by
  unfold stmtS
  rw [if_neg (by omega), if_neg (by omega), if_neg (by omega), if_neg (by omega), if_pos hop]
theorem fld_val (S : List FieldA) (h : Bool) (vals : List ValA) (nm : Txt) : (fldX nm).val S h vals = fieldV S h vals nm := rfl
theorem plainOr_val (S : List FieldA) (h : Bool) (vals : List ValA) (f : FieldA) (o : XE) : (plainOrX f o).val S h vals = if f.opt then (if (fieldV S h vals f.name).kind = 0 then o.val S h vals else fieldV S h vals f.name) else fieldV S h vals f.name := by
  unfold plainOrX
  cases f.opt with
  | true =>
    simp only [if_true]
    rw [val2 (by decide), fld_val]
    rfl
  | false => rfl
/-- What a field of ints holds. -/
theorem field_int {S : List FieldA} (hS : schemaB S = true) {h : Bool} {vals : List ValA} (hr : rowE S h vals = 0) {f : FieldA} (hf : fieldOf S f.name = some f) (ht : f.type = 1) : (∃ y, fieldV S h vals f.name = numV y) ∨ (f.opt = true ∧ fieldV S h vals f.name = zV) := by
  rcases field_fit hS (rowE_fit hr) hf with ⟨hg, hk⟩ | ⟨ho, hv⟩
  · left
    exact fit_int (k := ⟨1, false⟩) (Or.inl ⟨hg, by rw [hk, ht]⟩) rfl rfl
  · exact Or.inr ⟨ho, hv⟩
theorem short_one {S : List FieldA} {h : Bool} {vals : List ValA} (hv : ∀ v ∈ vals, I64 v.n) {i : Nat} {f : FieldA} (hf : S[i]? = some f) {e : XE} (he : e.int) : AlikeP S h vals (st1 2 f.name e .nil) (st1 1 f.name (mk2 9 (plainOrX f zeroX) e) .nil) :=
  alikeP_of fun hS hr w1 o1 w2 o2 => by
    obtain ⟨a1, a2, a3, _⟩ := st1_ok w1 o1
    obtain ⟨⟨g, hg, gt⟩, k1, k2, k3⟩ := own_chg (by omega) a3
    have hfs := field_self hS hf
    rw [hfs] at hg
    cases hg
    obtain ⟨x, hx⟩ := fit_int (ok_fit hS hr (e := e) ⟨a1, a2, k1⟩) k2 k3
    have hxi : I64 x := by have := val_in hr hv (e := e) ⟨a1, a2, k1⟩ he; rw [hx] at this; exact this
    rw [run_st1, run_st1, stmt_set, stmt_chg (by omega), head_val, head_val, val2 (by decide), plainOr_val, hx]
    show setV _ _ _ = setV _ _ _
    refine congrArg _ ?_
    rcases field_int hS hr hfs gt with ⟨y, hy⟩ | ⟨ho, hz⟩
    · show joinV 2 (fieldV S h vals f.name) (numV x) = _
      rw [hy]
      have : (if f.opt = true then (if (numV y).kind = 0 then zeroX.val S h vals else numV y) else numV y) = numV y := by
        cases f.opt <;> rfl
      rw [this]
      rfl
    · show joinV 2 (fieldV S h vals f.name) (numV x) = _
      rw [hz, ho]
      show numV x = numV (wrap64 (0 + x))
      rw [Int.zero_add, wrap_i64 hxi]
theorem short_two {S : List FieldA} {h : Bool} {vals : List ValA} {i : Nat} {f : FieldA} (hf : S[i]? = some f) {e : XE} {op b : Int} (hob : (op = 3 ∧ b = 21) ∨ (op = 4 ∧ b = 22)) : AlikeP S h vals (st1 op f.name e .nil) (st1 1 f.name (mk2 b (plainOrX f e) e) .nil) :=
  alikeP_of fun hS hr w1 o1 w2 o2 => by
    obtain ⟨a1, a2, a3, _⟩ := st1_ok w1 o1
    obtain ⟨⟨g, hg, gt⟩, k1, k2, k3⟩ := own_chg (by omega) a3
    have hfs := field_self hS hf
    rw [hfs] at hg
    cases hg
    obtain ⟨x, hx⟩ := fit_int (ok_fit hS hr (e := e) ⟨a1, a2, k1⟩) k2 k3
    rw [run_st1, run_st1, stmt_set, stmt_chg (by omega), head_val, head_val, val2 (by omega), plainOr_val, hx]
    show setV _ _ _ = setV _ _ _
    refine congrArg _ ?_
    show joinV op (fieldV S h vals f.name) (numV x) = _
    rcases field_int hS hr hfs gt with ⟨y, hy⟩ | ⟨ho, hz⟩
    · rw [hy]
      have : (if f.opt = true then (if (numV y).kind = 0 then numV x else numV y) else numV y) = numV y := by
        cases f.opt <;> rfl
      rw [this]
      rcases hob with ⟨rfl, rfl⟩ | ⟨rfl, rfl⟩ <;> rfl
    · rw [hz, ho]
      rcases hob with ⟨rfl, rfl⟩ | ⟨rfl, rfl⟩
      · show numV x = numV (min x x)
        rw [Int.min_self]
      · show numV x = numV (max x x)
        rw [Int.max_self]
theorem set_same {α : Type} (l : List α) (i : Nat) (d : α) : l.set i ((l[i]?).getD d) = l := by
  apply List.ext_getElem?
  intro j
  rw [List.getElem?_set]
  split
  · rename_i h
    subst h
    split
    · rename_i hl
      rw [List.getElem?_eq_getElem hl]
      rfl
    · rename_i hl
      rw [List.getElem?_eq_none (by omega)]
  · rfl
theorem short_four {S : List FieldA} {h : Bool} {vals : List ValA} (nm : Txt) : AlikeP S h vals .nil (st1 1 nm (fldX nm) (.cons 8 [] (hereX.el .nil) .nil .nil .nil)) :=
  alikeP_of fun _ _ _ _ _ _ => by
    rw [run_st1, stmt_set, head_val, fld_val, runS_cons]
    have h8 : ∀ r : Bool × List ValA, stmtS S 8 [] (hereX.el .nil) .nil .nil r = r := fun r => by
      unfold stmtS
      rw [if_neg (by decide), if_neg (by decide), if_neg (by decide), if_neg (by decide), if_neg (by decide)]
      split <;> rfl
    rw [h8]
    show (h, vals) = setV (h, vals) (placeP S nm) (fieldV S h vals nm)
    unfold setV fieldV
    cases h with
    | false => rfl
    | true =>
      simp only [if_true]
      rw [set_same]
theorem named_place {S : List FieldA} {f : Txt} (h : (namedK S f).2 = 0) : ∃ fd, S[placeP S f]? = some fd ∧ fd.name = f := by
  obtain ⟨fd, hfd, _⟩ := named_some h
  refine ⟨fd, find_idx hfd, ?_⟩
  unfold fieldOf at hfd
  simpa using List.find?_some hfd
/-- A field of that name is there. -/
def Has (S : List FieldA) (nm : Txt) : Prop := ∃ fd, S[placeP S nm]? = some fd ∧ fd.name = nm
theorem rule_has {S : List FieldA} {op : Int} {s : Txt} {ks : List KA} (ho : op = 4 ∨ op = 5) (h : (ruleP S op s ks).2 = 0) : Has S s := by
  rcases ho with rfl | rfl
  · exact named_place (show (namedK S s).2 = 0 from h)
  · exact named_place (orI_zero (show orI (namedK S s).2 (optI (namedK S s).1) = 0 from h)).1
theorem kinds_has {S : List FieldA} : ∀ (l : EL), (kindsP S l).2 = 0 → ∀ nm, 0 < cntE l nm → Has S nm
  | .nil, _, nm, h => by simp [cntE] at h
  | .cons op n s kids rest, h, nm, hc => by
    simp only [kindsP] at h
    split at h
    · exact absurd h ‹_›
    · rename_i h1
      split at h
      · exact absurd h ‹_›
      · rename_i h2
        split at h
        · exact absurd h ‹_›
        · rename_i h3
          simp only [cntE] at hc
          by_cases ho : (op = 4 ∨ op = 5) ∧ s = nm
          · obtain ⟨ho, rfl⟩ := ho
            exact rule_has ho (Decidable.byContradiction h2)
          · rw [if_neg ho] at hc
            by_cases hk : 0 < cntE kids nm
            · exact kinds_has kids (Decidable.byContradiction h1) nm hk
            · exact kinds_has rest (Decidable.byContradiction h3) nm (by omega)
/-- Values of expressions that do not read a field are the same whatever it holds. -/
theorem vals_set {S : List FieldA} {vals : List ValA} {p : Nat} {v : ValA} : ∀ l : EL, (∀ nm, 0 < cntE l nm → placeP S nm ≠ p) → valsP S true (vals.set p v) l = valsP S true vals l
  | .nil, _ => rfl
  | .cons op n s kids rest, hE => by
    have hk := vals_set (S := S) (vals := vals) (p := p) (v := v) kids fun nm hc => hE nm (by simp only [cntE]; omega)
    have hr := vals_set (S := S) (vals := vals) (p := p) (v := v) rest fun nm hc => hE nm (by simp only [cntE]; omega)
    simp only [valsP]
    rw [hk, hr]
    have hl : leafV S true (vals.set p v) op n s = leafV S true vals op n s := by
      have hf : op = 4 ∨ op = 5 → fieldV S true (vals.set p v) s = fieldV S true vals s := fun ho => by
        have := hE s (by unfold cntE; rw [if_pos ⟨ho, rfl⟩]; omega)
        unfold fieldV
        simp only [if_true]
        rw [List.getElem?_set_ne (fun e => this e.symm)]
      unfold leafV
      split
      · rfl
      · split
        · rfl
        · split
          · rfl
          · split
            · exact hf (by omega)
            · split
              · rw [hf (by omega)]
              · rfl
    rw [hl]
theorem short_five {S : List FieldA} {h : Bool} {vals : List ValA} {i : Nat} {f : FieldA} (hf : S[i]? = some f) {e d : XE} (hg : (fieldsP S (st1 1 f.name d .nil)).2.2 = 0) (hn : f.name ∉ (fieldsP S (st1 1 f.name d .nil)).1) :
    AlikeP S h vals (st1 2 f.name e (st1 2 f.name d .nil)) (st1 2 f.name (mk2 9 e d) .nil) :=
  alikeP_of fun hS hr w1 o1 w2 o2 => by
    obtain ⟨a1, a2, a3, w3, o3⟩ := st1_ok w1 o1
    obtain ⟨d1, d2, d3, _⟩ := st1_ok w3 o3
    obtain ⟨⟨g, hgf, gt⟩, k1, k2, k3⟩ := own_chg (by omega) a3
    obtain ⟨_, m1, m2, m3⟩ := own_chg (by omega) d3
    have hfs := field_self hS hf
    rw [hfs] at hgf
    cases hgf
    obtain ⟨x, hx⟩ := fit_int (ok_fit hS hr (e := e) ⟨a1, a2, k1⟩) k2 k3
    obtain ⟨z, hz⟩ := fit_int (ok_fit hS hr (e := d) ⟨d1, d2, m1⟩) m2 m3
    have hcd : ∀ nm, 0 < cntE (d.el .nil) nm → placeP S nm ≠ placeP S f.name := fun nm hc => by
      have hdk : (kindsP S (d.el .nil)).2 = 0 := by
        unfold XE.el
        rw [kindsP_cons, if_neg (by simpa using m1)]
        rfl
      obtain ⟨fd, q1, q2⟩ := kinds_has (d.el .nil) hdk nm hc
      intro hp
      rw [hp, find_idx hfs] at q1
      cases q1
      subst q2
      have hfp : fieldsP S (st1 1 f.name d .nil) = (pick S (fun s => decide (0 < rdF (flatS (st1 1 f.name d .nil)) s)), pick S (fun s => decide (0 < wrF (flatS (st1 1 f.name d .nil)) s)), 0) := by
        unfold fieldsP at hg ⊢
        split at hg
        · exact absurd hg ‹_›
        · rw [if_neg ‹_›]
      rw [hfp] at hn
      apply hn
      refine List.mem_filter.2 ⟨List.mem_map.2 ⟨f, List.mem_of_getElem? hf, rfl⟩, ?_⟩
      have : 0 < rdF (flatS (st1 1 f.name d .nil)) f.name := by
        show 0 < cntE (d.el .nil) f.name + _ + _
        omega
      simpa using this
    have e1 : headV S (h, vals) (e.el .nil) = numV x := (head_val S h vals e).trans hx
    have e2 : headV S (h, vals) ((mk2 9 e d).el .nil) = numV (wrap64 (x + z)) := by rw [head_val, val2 (by decide), hx, hz, add_num]
    rw [run_st1, run_st1, run_st1, stmt_chg (by omega), stmt_chg (by omega), stmt_chg (by omega), e1, e2]
    show setV (setV (h, vals) _ _) _ _ = setV _ _ _
    cases h with
    | false => rfl
    | true =>
      have hlen : vals.length = S.length := (show vals.length = S.length ∧ _ from rowE_fit hr).1
      have hpl : placeP S f.name < vals.length := by rw [hlen]; exact get_lt (find_idx hfs)
      have hd1 : ∀ j, headV S (true, vals.set (placeP S f.name) j) (d.el .nil) = numV z := fun j => by
        unfold headV
        show kV (valsP S true (vals.set (placeP S f.name) j) (d.el .nil)) 0 = numV z
        rw [vals_set _ hcd, ← hz]
        rfl
      have hf1 : ∀ j, fieldV S true (vals.set (placeP S f.name) j) f.name = j := fun j => by
        unfold fieldV
        simp only [if_true]
        rw [List.getElem?_set_self hpl]
        rfl
      show ((true, (vals.set (placeP S f.name) (joinV 2 (fieldV S true vals f.name) (numV x))).set (placeP S f.name) (joinV 2 (fieldV S true (vals.set (placeP S f.name) (joinV 2 (fieldV S true vals f.name) (numV x))) f.name) (headV S (true, vals.set (placeP S f.name) (joinV 2 (fieldV S true vals f.name) (numV x))) (d.el .nil)))) : Bool × List ValA) = (true, vals.set (placeP S f.name) (joinV 2 (fieldV S true vals f.name) (numV (wrap64 (x + z)))))
      rw [hd1, hf1, List.set_set]
      refine congrArg (fun v => ((true, vals.set (placeP S f.name) v) : Bool × List ValA)) ?_
      rcases field_int hS hr hfs gt with ⟨y, hy⟩ | ⟨_, hzz⟩
      · rw [hy]
        show numV (wrap64 (wrap64 (y + x) + z)) = numV (wrap64 (y + wrap64 (x + z)))
        rw [ring7]
      · rw [hzz]
        rfl
end Go.Proofs.YtiinohibmcefkaaGreatDoor
namespace Go.Proofs.YtiinohibmcefkaaGreatDoor
open Go.RowKit Go.Maps

/-- The operations of a region, one by one: each writes its own slot, is not guarded, waits for earlier ones alone. -/
def opsB (dl : List Nat) (sz : Nat) : Nat → List Oper → Bool
  | _, [] => true
  | i, o :: r => decide (o.dst = some (dl.getD i 0)) && o.guard.isNone && decide (dl.getD i 0 < sz) && o.after.toList.all (fun e => decide (e.on < i)) && opsB dl sz (i + 1) r
theorem opsB_at {dl : List Nat} {sz : Nat} : ∀ {l : List Oper} {k : Nat}, opsB dl sz k l = true → ∀ (j : Nat) (o : Oper), l[j]? = some o → o.dst = some (dl.getD (k + j) 0) ∧ o.guard = none ∧ dl.getD (k + j) 0 < sz ∧ ∀ e ∈ o.after, e.on < k + j
  | [], _, _, j, o, h => by simp at h
  | x :: r, k, hB, 0, o, h => by
    simp at h
    subst h
    simp only [opsB, Bool.and_eq_true, decide_eq_true_eq, Option.isNone_iff_eq_none] at hB
    obtain ⟨⟨⟨⟨h1, h2⟩, h3⟩, h4⟩, _⟩ := hB
    refine ⟨h1, h2, h3, fun e he => ?_⟩
    have := List.all_eq_true.1 h4 e (by simpa using he)
    simpa using this
  | x :: r, k, hB, j + 1, o, h => by
    simp only [opsB, Bool.and_eq_true] at hB
    have := opsB_at hB.2 j o (by simpa using h)
    rw [show k + 1 + j = k + (j + 1) by omega] at this
    exact this
section
variable {P : Program} {ops : Array Oper} {Q : Exit → Act → World → Prop}
theorem wp_region_table {id : Nat} {a0 : Act} {w0 X : World} (hm : P.follows .mixedOrders = true) (dl : List Nat) (hn : dl.Nodup) (hlen : dl.length = ops.size) (hB : opsB dl a0.tmps.size 0 ops.toList = true)
    (hX : Keeps (fun _ => False) X w0)
    (F : Nat → Value → World → Prop) (hF : ∀ i v w w', F i v w → Keeps (fun _ => False) w w' → F i v w')
    (hs : ∀ (i : Nat) (o : Oper) (a : Act) (w : World), ops[i]? = some o → Same a0 ops.size (fun i => dl.getD i 0) a → Keeps (fun _ => False) X w → (∀ e ∈ o.after, Region.binds .any e = true → F e.on (a.tmps.getD (dl.getD e.on 0) undef) w) →
      ∀ K' : Act → World → Prop, (∀ v w', F i v w' → Keeps (fun _ => False) w w' → K' (a.put o.dst v) w') → Oper.wp P o a w K' Q)
    (he : ∀ (a : Act) (w : World), Same a0 ops.size (fun i => dl.getD i 0) a → Keeps (fun _ => False) X w → (∀ i, i < ops.size → F i (a.tmps.getD (dl.getD i 0) undef) w) → Q .normal a w) : (Code.region id ops true).wp P Q a0 w0 := by
  have hat : ∀ (i : Nat) (o : Oper), ops[i]? = some o → o.dst = some (dl.getD i 0) ∧ o.guard = none ∧ dl.getD i 0 < a0.tmps.size ∧ ∀ e ∈ o.after, e.on < i := fun i o ho => by
    have := opsB_at hB i o (by simpa using ho)
    rwa [Nat.zero_add] at this
  refine wp_region_slots hm (fun i o ho => (hat i o ho).2.2.2) (fun i => dl.getD i 0) (fun i o ho => ⟨(hat i o ho).1, (hat i o ho).2.1, (hat i o ho).2.2.1⟩) (fun i j hi hj e => ?_) hX F hF (fun i o a w ho h1 h2 h3 K' hK => ?_) he
  · have hi' : i < dl.length := by omega
    have hj' : j < dl.length := by omega
    have e' : dl[i] = dl[j] := by
      have := e
      simp only [List.getD_eq_getElem?_getD, List.getElem?_eq_getElem hi', List.getElem?_eq_getElem hj'] at this
      exact this
    exact (List.getElem?_inj hi' hn).1 (by rw [List.getElem?_eq_getElem hi', List.getElem?_eq_getElem hj', e'])
  · exact hs i o a w ho h1 h2 h3 K' (fun v w' hv hk => by rw [(hat i o ho).1]; exact hK v w' hv hk)
end
end Go.Proofs.YtiinohibmcefkaaGreatDoor
namespace Go.Proofs.YtiinohibmcefkaaGreatDoor
open Go.RowKit Go.Maps

section
variable {P : Program} {ops : Array Oper} {Q : Exit → Act → World → Prop}
end
/-- A box of an expression, all zero. -/
abbrev zBox : Obj := .cells #[.int .i64 0, .int .i64 0, .string ⟨#[]⟩, .slice none 0 0] 27 (0, 0)
/-- Where trees lie: below N, or in a block that is no box of zeros. -/
def boxZ (N : Nat) : Zone := ⟨fun w _ k => k < N ∨ w.heap[k]? ≠ some zBox, fun _ _ => True, fun hk h hg => hg.imp id (fun q e => q ((hk.block _ h id).symm.trans e))⟩
theorem ExIn.zone {Z Z' : Zone} {w : World} (hP : ∀ b b', Z'.P b b') (hG : ∀ k, k < w.heap.size → Z.G w false k → Z'.G w false k) : ∀ {l : EL} {b o : Nat}, ExIn Z w l b o → ExIn Z' w l b o
  | .nil, _, _, _ => trivial
  | .cons _ _ _ _ _, _, _, ⟨h1, h2, h3, h4, h5, ⟨ao, cap, h6, h7, h8⟩, h9⟩ => ⟨h1, hG _ h1 h2, h3, h4, h5, ⟨ao, cap, h6, h7, fun h0 => by obtain ⟨b', o', e, _, hx⟩ := h8 h0; exact ⟨b', o', e, hP _ _, ExIn.zone hP hG hx⟩⟩, ExIn.zone hP hG h9⟩
theorem SlE.zone {Z Z' : Zone} {w : World} (hP : ∀ b b', Z'.P b b') (hG : ∀ k, k < w.heap.size → Z.G w false k → Z'.G w false k) {up up' : Nat} {v : Value} {l : EL} (h : SlE Z w up v l) : SlE Z' w up' v l := by
  obtain ⟨ao, cap, e, hc, hr⟩ := h
  refine ⟨ao, cap, e, hc, fun h0 => ?_⟩
  obtain ⟨b, o, e1, _, hx⟩ := hr h0
  exact ⟨b, o, e1, hP _ _, hx.zone hP hG⟩
theorem EsIn.keepF {Z : Zone} {w w' : World} (hk : Keeps (fun _ => False) w w') : ∀ {l : EL} {xs : List Value}, EsIn Z w l xs → EsIn Z w' l xs
  | .nil, _, h => h
  | .cons _ _ _ _ _, _, ⟨kv, xs', e, h1, h⟩ => ⟨kv, xs', e, h1.keepF hk, h.keepF hk⟩
theorem EsIn.length {Z : Zone} {w : World} : ∀ {l : EL} {xs : List Value}, EsIn Z w l xs → xs.length = l.len * 4
  | .nil, _, h => by have h' : _ = _ := h; subst h'; rfl
  | .cons _ _ _ _ r, _, ⟨kv, xs', e, _, h⟩ => by have := EsIn.length h; subst e; simp [EL.len, this]; omega
theorem EsIn.exZ {Z : Zone} (hP : ∀ b b', Z.P b b') {w : World} {b : Nat} (hb : b < w.heap.size) (hG : Z.G w false b) : ∀ {l : EL} {xs : List Value} {o : Nat}, EsIn Z w l xs → (∀ j x, xs[j]? = some x → w.cell? ⟨b, o + j, none⟩ = some x) → ExIn Z w l b o
  | .nil, _, _, _, _ => trivial
  | .cons op n s kids r, _, o, ⟨kv, xs', ee, h1, h4⟩, hc => by
    subst ee
    obtain ⟨ao, cap, et, hcap, hr⟩ := h1
    refine ⟨hb, hG, hc 0 _ rfl, hc 1 _ rfl, hc 2 _ rfl, ⟨ao, cap, by rw [← et]; exact hc 3 _ rfl, hcap, fun h0 => ?_⟩, EsIn.exZ hP hb hG h4 (fun j x hx => ?_)⟩
    · obtain ⟨b', o', e, _, hx⟩ := hr h0
      exact ⟨b', o', e, hP _ _, hx⟩
    · rw [show o + 4 + j = o + (j + 4) by omega]
      exact hc (j + 4) x (by simpa using hx)
/-- A block that holds two expressions or more is no box of zeros. -/
theorem no_box {w : World} {b o : Nat} {xs : List Value} (h : 8 ≤ xs.length) (hc : ∀ j x, xs[j]? = some x → w.cell? ⟨b, o + j, none⟩ = some x) : w.heap[b]? ≠ some zBox := fun e => by
  have h1 := hc 7 _ (List.getElem?_eq_getElem (show 7 < xs.length by omega))
  rw [cell_of_blk e (o + 7)] at h1
  have : (#[.int .i64 0, .int .i64 0, .string ⟨#[]⟩, .slice none 0 0] : Array Value)[o + 7]? = none := by simp
  rw [this] at h1
  cases h1
end Go.Proofs.YtiinohibmcefkaaGreatDoor
namespace Go.Proofs.YtiinohibmcefkaaGreatDoor
open Go.RowKit Go.Maps

set_option maxRecDepth 100000 in
set_option maxHeartbeats 4000000 in
/-- An operation on some expressions, wherever these lie. -/
theorem op_z (Z : Zone) (hP : ∀ b b', Z.P b b') (k : Int) (l : EL) (hls : l.len ≤ 1000) (v : Value) (w : World) (hx : SlE Z w 0 v l) :
    Calls Tryz.prog 18 #[.int .i64 k, v] w fun e w' => ∃ ao c xs, e = .returned (exV k 0 [] (.slice ao l.len c)) ∧ w'.ownsRow (w.heap.size + 1) 27 4 (.slice ao l.len c) l.len xs ∧ EsIn Z w l xs ∧ Keeps (fun _ => False) w w' := by
  obtain ⟨i0, hi, hz0, hz1, hz2⟩ := info_parts Tryz.infoE
  obtain ⟨pao, pcap, pb, poff, rfl, hpcap, hpa, hpx⟩ := hx.open
  obtain ⟨X, hX⟩ : ∃ X, w.alloc (.cells #[.int .i64 0, .int .i64 0, .string ⟨#[]⟩, .slice none 0 0] 27) = X := ⟨_, rfl⟩
  have PK : Keeps (fun _ => False) w X := hX ▸ (Keeps.refl _ w).alloc _
  have P0 : X.heap[w.heap.size]? = some (.cells #[.int .i64 0, .int .i64 0, .string ⟨#[]⟩, .slice none 0 0] 27 (0, 0)) := hX ▸ heap_alloc_new w _
  have hXs : X.heap.size = w.heap.size + 1 := by rw [← hX]; simp
  have HXS1 := hide hXs
  have HPK := hide PK
  have HP0 := hide P0
  have HpX := hide hpx
  have HpA := hide hpa
  clear hx hpx hpa PK P0 hXs
  go_enter Tryz.func18, Tryz.ntmps18
  go_wp2_with fail
  go_loopw [5, 6] (fun o i wr => ∃ (pre rest : EL) (k : Nat) (xs : List Value), i = .int .i64 k ∧ l = pre.app rest ∧ k = pre.len ∧ wr.ownsRow X.heap.size 27 4 o k xs ∧ EsIn Z w pre xs ∧ Keeps (fun _ => False) X wr ∧ ExIn Z w rest pb (poff + k * 4)) (fun _ i _ => l.len - (intOf i).toNat)
  case atStart => exact ⟨.nil, l, 0, [], rfl, rfl, rfl, World.ownsRow_nil X X.heap.size 27 4, rfl, Keeps.refl _ _, by simpa using unhide HpX⟩
  case round =>
    obtain ⟨pre, rest, j, xs, rfl, happ, hkp, hown, hss, hkeep, hr⟩ := hrel
    obtain ⟨oo, oc, rfl⟩ := (rowAt_own hown).form
    have hll := congrArg EL.len happ
    rw [EL.lenApp] at hll
    have HO := hide hown
    have HSS := hide hss
    have HK := hide hkeep
    have HKw := hide ((unhide HPK).trans hkeep)
    cases rest with
    | cons op n s kids rest =>
      obtain ⟨h1, h2, h3, h4, h5, ⟨xao, xcap, h6, h7, h8⟩, h9⟩ := hr
      simp only [EL.len] at hll
      obtain ⟨rfl, hp'⟩ := (unhide HpA) (by omega)
      have HXS : Hid (SlE Z w pb (.slice xao kids.len xcap) kids) := ⟨xao, xcap, rfl, h7, h8⟩
      have HR := hide h9
      have i1 : (j : Int) < (l.len : Int) := by omega
      have ix0 : (0 : Int) ≤ (j : Int) := by omega
      have q0 := ((unhide HKw).cell h1 id).trans h3
      have q1 := ((unhide HKw).cell h1 id).trans h4
      have q2 := ((unhide HKw).cell h1 id).trans h5
      have q3 := ((unhide HKw).cell h1 id).trans h6
      have HNB := hide (heap_alloc_new wr (.cells #[.int .i64 op, .int .i64 n, str s, .slice xao kids.len xcap] 27))
      have HOX := hide (ownsRow_kept hown ((Keeps.refl (fun _ => False) wr).alloc (.cells #[.int .i64 op, .int .i64 n, str s, .slice xao kids.len xcap] 27)) (fun _ _ => id))
      have HB0 : Hid (X.heap.size ≤ wr.heap.size) := hkeep.size
      have HKP := hide hkp
      have HAPP := hide happ
      have hj : j ≤ 1000 := by omega
      clear hown hss hkeep h1 h2 h3 h4 h5 h6 h8 h9 happ hkp
      go_wp2_with (at_builtin; refine wpList_append_lies _ rfl _ _ _ rfl X.heap.size 27 i0 _ 4 56 Tryz.underlying25 hi hz0 hz1 hz2 rfl (by omega) (.slice oo j oc) j xs rfl (unhide HOX) ⟨wr.heap.size, 0, none⟩ 1 1 [.int .i64 op, .int .i64 n, str s, .slice xao kids.len xcap] rfl rfl (World.news_of_block (cs := #[.int .i64 op, .int .i64 n, str s, .slice xao kids.len xcap]) (t := 27) (fr := (0, 0)) (unhide HNB)) (by simp [Value.oneCell']) (by omega) (by unfold maxLen; omega) (by omega) (by have := unhide HB0; simp; omega) (wr.heap.size + 1) (by simp) ?_; intro g6 c6 w6 hown6 hgrow _ _; have HO6 := hide hown6; have HGR := hide hgrow; clear hown6 hgrow)
      go_roundw
      case rel =>
        have kr6 : Keeps (fun q => X.heap.size ≤ q) wr w6 := ((Keeps.refl _ wr).alloc _).grown (unhide HGR) (fun q e _ => ((unhide HO).lt q e).1)
        have kX6 : Keeps (fun q => X.heap.size ≤ q) X w6 := (unhide HK).any.trans kr6
        have s1 := unhide HSS
        have s2 : EsIn Z w (.cons op n s kids .nil) [.int .i64 op, .int .i64 n, str s, .slice xao kids.len xcap] := ⟨_, [], rfl, (unhide HXS).zone hP (fun _ _ q => q), rfl⟩
        refine ⟨pre.app (.cons op n s kids .nil), rest, j + 1, by go_num, by rw [app_oneX]; exact unhide HAPP, by rw [EL.lenApp, unhide HKP]; rfl, _, unhide HO6, s1.app s2, kX6.mono (fun q hq e => by have e' : X.heap.size ≤ q := e; omega), ?_⟩
        rw [show poff + (j + 1) * 4 = poff + j * 4 + 4 by omega]
        exact unhide HR
      case measure => simp [intOf]; omega
    | nil =>
      rw [EL.appNil] at happ
      subst happ
      simp only [EL.len, Nat.add_zero] at hll
      have i1 : ¬ (j : Int) < (l.len : Int) := by omega
      subst hkp
      have HZ := hide ((hkeep.block _ (lt_of_block (unhide HP0)) id).trans (unhide HP0))
      have m0 := (cell_of_blk (unhide HZ) 0).trans rfl
      have m1 := (cell_of_blk (unhide HZ) 1).trans rfl
      have m2 := (cell_of_blk (unhide HZ) 2).trans rfl
      have m3 := (cell_of_blk (unhide HZ) 3).trans rfl
      have g0 := frozen_of_blk (unhide HZ) 0
      have g1 := frozen_of_blk (unhide HZ) 1
      have g2 := frozen_of_blk (unhide HZ) 2
      have g3 := frozen_of_blk (unhide HZ) 3
      have z := set4b (unhide HZ) (.int .i64 k) (.int .i64 0) (.string ⟨#[]⟩) (.slice oo l.len oc)
      have o0 := (cell_of_blk z 0).trans rfl
      have o1 := (cell_of_blk z 1).trans rfl
      have o2 := (cell_of_blk z 2).trans rfl
      have o3 := (cell_of_blk z 3).trans rfl
      have HFIN : Hid (World.ownsRow ((((wr.setCell ⟨w.heap.size, 0, none⟩ (.int .i64 k)).setCell ⟨w.heap.size, 1, none⟩ (.int .i64 0)).setCell ⟨w.heap.size, 2, none⟩ (.string ⟨#[]⟩)).setCell ⟨w.heap.size, 3, none⟩ (.slice oo l.len oc)) (w.heap.size + 1) 27 4 (.slice oo l.len oc) l.len xs) := by
        have kq := keeps_set4 wr w.heap.size (.int .i64 k) (.int .i64 0) (.string ⟨#[]⟩) (.slice oo l.len oc)
        have hlt := (lt_of_block (unhide HP0))
        rw [unhide HXS1] at hown
        exact ownsRow_kept hown kq (fun q e hq => by have := (hown.lt q e).1; omega)
      have HKF : Hid (Keeps (fun _ => False) w ((((wr.setCell ⟨w.heap.size, 0, none⟩ (.int .i64 k)).setCell ⟨w.heap.size, 1, none⟩ (.int .i64 0)).setCell ⟨w.heap.size, 2, none⟩ (.string ⟨#[]⟩)).setCell ⟨w.heap.size, 3, none⟩ (.slice oo l.len oc))) := (unhide HKw).narrow (keeps_set4 _ _ _ _ _ _) (fun q e => by omega)
      clear hown hss hkeep hr hll z
      go_wp2_with fail
      refine bodyPost_ret (v := exV k 0 [] (.slice oo l.len oc)) (by simp [results, go_sem, o0, o1, o2, o3, exV]) rfl ?_
      exact ⟨oo, oc, rfl, xs, unhide HFIN, unhide HSS, unhide HKF⟩

section
variable {Q : Exit → Act → World → Prop} {K : Act → World → Prop} {o : Oper} {a : Act} {w X : World}
end
end Go.Proofs.YtiinohibmcefkaaGreatDoor
namespace Go.Proofs.YtiinohibmcefkaaGreatDoor
open Go.RowKit Go.Maps

theorem Same.at {a0 a : Act} {n : Nat} {dl : List Nat} (h : Same a0 n (fun i => dl.getD i 0) a) (hn : dl.length = n) (t : Nat) (ht : t ∉ dl) : a.tmps.getD t undef = a0.tmps.getD t undef :=
  h.slot t fun i hi e => ht (by rw [← e]; subst hn; rw [List.getD_eq_getElem?_getD, List.getElem?_eq_getElem hi]; exact List.getElem_mem hi)
section
variable {Q : Exit → Act → World → Prop} {K : Act → World → Prop} {o : Oper} {a : Act} {w : World}
theorem step_move {t : Nat} {v : Value} (ho : o.op = .move (.tmp t)) (ht : a.tmps.getD t undef = v) (hk : K (a.put o.dst v) w) : Oper.wp Tryz.prog o a w K Q := by
  have he : a.eval (.tmp t) = v := ht
  unfold Oper.wp
  simp only [execOp, ho, he]
  exact hk
theorem step_load9 {t b off : Nat} {v : Value} (ho : o.op = .load 9 (.tmp t)) (ht : a.tmps.getD t undef = .pointer (some ⟨b, off, none⟩)) (hc : w.cell? ⟨b, off, none⟩ = some v) (hk : K (a.put o.dst v) w) : Oper.wp Tryz.prog o a w K Q := by
  have he := slot_of ht
  unfold Oper.wp
  simp [execOp, ho, he, go_sem, hc]
  exact hk
end
end Go.Proofs.YtiinohibmcefkaaGreatDoor
