import Derived.Test.YtoempeobaknkcaaGreatDoorJyat
import Derived.Test.YtoempeobaknkcaaGreatDoorKy
namespace Go.Proofs.YtoempeobaknkcaaGreatDoor
open Go.RowKit Go.Maps

end Go.Proofs.YtoempeobaknkcaaGreatDoor
namespace Go.Proofs.YtoempeobaknkcaaGreatDoor
open Go.RowKit Go.Maps

end Go.Proofs.YtoempeobaknkcaaGreatDoor
namespace Go.Proofs.YtoempeobaknkcaaGreatDoor
open Go.RowKit Go.Maps

end Go.Proofs.YtoempeobaknkcaaGreatDoor
namespace Go.Proofs.YtoempeobaknkcaaGreatDoor
open Go.RowKit Go.Maps

end Go.Proofs.YtoempeobaknkcaaGreatDoor
namespace Go.Proofs.YtoempeobaknkcaaGreatDoor
open Go.RowKit Go.Maps

end Go.Proofs.YtoempeobaknkcaaGreatDoor
namespace Go.Proofs.YtoempeobaknkcaaGreatDoor
open Go.RowKit Go.Maps

end Go.Proofs.YtoempeobaknkcaaGreatDoor
namespace Go.Proofs.YtoempeobaknkcaaGreatDoor
open Go.RowKit Go.Maps

theorem kids_of {op n : Int} {s : Txt} {k : Nat} (h : rootB op n s k = true) : (k : Int) = kidsB op := by
  unfold rootB at h
  simp only [Bool.and_eq_true, decide_eq_true_eq] at h
  exact h.2.1
theorem intl1 {ks : List Int} (h : ks.length = 1) : ∃ a, ks = [a] := by
  match ks, h with
  | [a], _ => exact ⟨a, rfl⟩
theorem intl2 {ks : List Int} (h : ks.length = 2) : ∃ a b, ks = [a, b] := by
  match ks, h with
  | [a, b], _ => exact ⟨a, b, rfl⟩
theorem intl3 {ks : List Int} (h : ks.length = 3) : ∃ a b c, ks = [a, b, c] := by
  match ks, h with
  | [a, b, c], _ => exact ⟨a, b, c, rfl⟩
end Go.Proofs.YtoempeobaknkcaaGreatDoor
namespace Go.Proofs.YtoempeobaknkcaaGreatDoor
open Go.RowKit Go.Maps

theorem schema_8 {S : List FieldA} (hS : schemaB S = true) : S.length ≤ 8 := by
  unfold schemaB at hS
  simp only [Bool.and_eq_true, decide_eq_true_eq] at hS
  exact hS.1.1.1.2
theorem idx_none {S : List FieldA} {nm : Txt} (h : fieldOf S nm = none) : idxF S nm = none := by
  unfold fieldOf at h
  unfold idxF
  rw [List.findIdx?_eq_none_iff]
  intro f hf
  have := List.find?_eq_none.1 h f hf
  simpa using this
theorem idx_some {S : List FieldA} (hS : schemaB S = true) {nm : Txt} {k : Nat} {f : FieldA} (hk : S[k]? = some f) (h : fieldOf S nm = some f) : idxF S nm = some k := by
  have hn : f.name = nm := by
    unfold fieldOf at h
    have := List.find?_some h
    simpa using this
  have hnd : (S.map FieldA.name).Nodup := by
    unfold schemaB at hS
    simp only [Bool.and_eq_true, decide_eq_true_eq] at hS
    exact hS.1.2
  unfold idxF
  rw [List.findIdx?_eq_some_iff_getElem]
  obtain ⟨hlt, hke⟩ := List.getElem?_eq_some_iff.1 hk
  refine ⟨hlt, by simp [hke, hn], fun j hj => ?_⟩
  have hjl : j < S.length := by omega
  simp only [decide_eq_true_eq]
  intro hc
  have h1 : (S.map FieldA.name)[j]? = some nm := by rw [List.getElem?_map, List.getElem?_eq_getElem hjl]; simp [hc]
  have h2 : (S.map FieldA.name)[k]? = some nm := by rw [List.getElem?_map, hk]; simp [hn]
  have := (List.getElem?_inj (by simpa using hjl) hnd).1 (h1.trans h2.symm)
  omega
end Go.Proofs.YtoempeobaknkcaaGreatDoor
namespace Go.Proofs.YtoempeobaknkcaaGreatDoor
open Go.RowKit Go.Maps

theorem Tryz.info3 : (Tryz.prog.info? 3).map (fun i => (i.zero, i.size, i.bytes)) = some (some (.int .i64 0), 1, 8) := by kernel_rfl
end Go.Proofs.YtoempeobaknkcaaGreatDoor
namespace Go.Proofs.YtoempeobaknkcaaGreatDoor
open Go.RowKit Go.Maps

theorem idx_field (nm : Txt) : ∀ S : List FieldA, fieldOf S nm = (idxF S nm).bind (fun i => S[i]?)
  | [] => rfl
  | f :: r => by
    have ih := idx_field nm r
    unfold fieldOf idxF at ih ⊢
    rw [List.find?_cons, List.findIdx?_cons]
    by_cases h : f.name = nm
    · simp [h]
    · simp only [h, decide_false]
      rw [ih]
      cases List.findIdx? (fun f => decide (f.name = nm)) r <;> simp
theorem row_at {S : List FieldA} {nm : Txt} (g : FieldA → Int) : (idxF S nm).bind (fun i => (S.map g)[i]?) = (fieldOf S nm).map g := by
  rw [idx_field]
  cases idxF S nm with
  | none => rfl
  | some i => simp
/-- What is said of one expression. -/
def NodeOK (S : List FieldA) (op : Int) (s : Txt) (kids : EL) : Prop :=
  ((kindP S op s kids).2 = 0 → nodeG S (rowH S) op s kids = some (kindP S op s kids).1.t ∧ nodeG S (rowG S) op s kids = some (kindP S op s kids).1.gone ∧ ((kindP S op s kids).1.o = true → op = 4)) ∧
  ((kindP S op s kids).2 ≠ 0 → (nodeG S (rowH S) op s kids = none ∨ nodeG S (rowG S) op s kids = none) ∧ ((kindP S op s kids).2 = 90 ∨ (kindP S op s kids).2 = 91 ∨ (kindP S op s kids).2 = 92))
/-- What is said of a list. -/
def ListOK (S : List FieldA) (l : EL) : Prop :=
  ((kindsP S l).2 = 0 → goG S (rowH S) l = some ((kindsP S l).1.map KA.t) ∧ goG S (rowG S) l = some ((kindsP S l).1.map KA.gone)) ∧
  ((kindsP S l).2 ≠ 0 → (goG S (rowH S) l = none ∨ goG S (rowG S) l = none) ∧ ((kindsP S l).2 = 90 ∨ (kindsP S l).2 = 91 ∨ (kindsP S l).2 = 92))
theorem list_step {S : List FieldA} {op n : Int} {s : Txt} {kids rest : EL} (h1 : NodeOK S op s kids) (h2 : ListOK S rest) : ListOK S (.cons op n s kids rest) := by
  unfold ListOK
  rw [goG_cons, goG_cons, kindsP_cons]
  by_cases hp : (kindP S op s kids).2 = 0
  · obtain ⟨a1, a2, _⟩ := h1.1 hp
    rw [a1, a2]
    by_cases hq : (kindsP S rest).2 = 0
    · obtain ⟨b1, b2⟩ := h2.1 hq
      rw [b1, b2]
      simp [hp, hq]
    · obtain ⟨b1, b2⟩ := h2.2 hq
      simp only [hp, hq, ne_eq, not_true_eq_false, if_false, not_false_eq_true, if_true, false_implies, true_implies, true_and]
      refine ⟨?_, b2⟩
      rcases b1 with b | b
      · left; rw [b]; rfl
      · right; rw [b]; rfl
  · obtain ⟨a1, a2⟩ := h1.2 hp
    simp only [hp, ne_eq, not_false_eq_true, if_true, false_implies, true_implies, true_and]
    refine ⟨?_, a2⟩
    rcases a1 with a | a
    · left; rw [a]; rfl
    · right; rw [a]; rfl
theorem kindP_nil (S : List FieldA) (op : Int) (s : Txt) : kindP S op s .nil = ruleP S op s [] := by simp [kindP, kindsP]
theorem node_leaf {S : List FieldA} {op n : Int} {s : Txt} (hr : rootB op n s 0 = true) (h6 : op ≤ 6) : NodeOK S op s .nil := by
  obtain ⟨m, r, rfl, _, hrl, _, _, _⟩ := root_open hr
  have hm1 : 1 ≤ m := by
    rcases Nat.eq_zero_or_pos m with h | h
    · subst h; cases hrl
    · exact h
  unfold NodeOK nodeG
  rw [kindP_nil, if_pos h6, if_pos h6]
  rcases (show m = 1 ∨ m = 2 ∨ m = 3 ∨ m = 4 ∨ m = 5 ∨ m = 6 by omega) with rfl | rfl | rfl | rfl | rfl | rfl
  · exact ⟨fun _ => ⟨rfl, rfl, fun h => by cases h⟩, fun h => absurd rfl h⟩
  · exact ⟨fun _ => ⟨rfl, rfl, fun h => by cases h⟩, fun h => absurd rfl h⟩
  · exact ⟨fun _ => ⟨rfl, rfl, fun h => by cases h⟩, fun h => absurd rfl h⟩
  · have e : ruleP S ((4 : Nat) : Int) s [] = namedK S s := rfl
    have g1 : leafG S (rowH S) ((4 : Nat) : Int) s = (fieldOf S s).map FieldA.type := row_at FieldA.type
    have g2 : leafG S (rowG S) ((4 : Nat) : Int) s = (fieldOf S s).map (fun f => if f.opt then 0 else f.type) := row_at _
    rw [e, g1, g2]
    unfold namedK
    cases hf : fieldOf S s with
    | none => exact ⟨fun h => absurd h (by decide), fun _ => ⟨Or.inl rfl, Or.inl rfl⟩⟩
    | some f => exact ⟨fun _ => ⟨rfl, rfl, fun _ => rfl⟩, fun h => absurd rfl h⟩
  · have e : ruleP S ((5 : Nat) : Int) s [] = hasK S s := rfl
    have g : ∀ rk, leafG S rk ((5 : Nat) : Int) s = (fieldOf S s).bind (fun f => if f.opt then some 2 else none) := fun _ => rfl
    rw [e, g, g]
    unfold hasK namedK
    cases hf : fieldOf S s with
    | none => exact ⟨fun h => absurd h (by decide), fun _ => ⟨Or.inl rfl, Or.inl rfl⟩⟩
    | some f =>
      cases ho : f.opt with
      | false => exact ⟨fun h => by simp [orI, optI, ho] at h, fun _ => ⟨Or.inl (by simp [ho]), by simp [orI, optI, ho]⟩⟩
      | true => exact ⟨fun _ => ⟨by simp [ho], by simp [ho, KA.gone], fun h => by cases h⟩, fun h => by simp [orI, optI, ho] at h⟩
  · exact ⟨fun _ => ⟨rfl, rfl, fun h => by cases h⟩, fun h => absurd rfl h⟩
end Go.Proofs.YtoempeobaknkcaaGreatDoor
namespace Go.Proofs.YtoempeobaknkcaaGreatDoor
open Go.RowKit Go.Maps

theorem node_err {S : List FieldA} {op : Int} {s : Txt} {kids : EL} (h7 : ¬ op ≤ 6) (hl : ListOK S kids) (he : (kindsP S kids).2 ≠ 0) : NodeOK S op s kids := by
  have e : kindP S op s kids = (⟨0, false⟩, (kindsP S kids).2) := by unfold kindP; rw [if_pos he]
  unfold NodeOK nodeG
  rw [e, if_neg h7, if_neg h7]
  refine ⟨fun h => absurd h he, fun _ => ⟨?_, (hl.2 he).2⟩⟩
  rcases (hl.2 he).1 with h | h
  · left; rw [h]; rfl
  · right; rw [h]; rfl
theorem node_agree {S : List FieldA} {op : Int} {s : Txt} {kids : EL} (h7 : ¬ op ≤ 6) (h25 : op ≤ 25) (h20 : op ≠ 20) (hl : ListOK S kids) (he : (kindsP S kids).2 = 0) (ha : agree op (kindsP S kids).1 = true) : NodeOK S op s kids := by
  have e : kindP S op s kids = ruleP [] op [] (kindsP S kids).1 := by
    unfold kindP
    rw [if_neg (by simpa using he)]
    exact rule_nofield S op s _ (by omega) h25
  obtain ⟨g1, g2⟩ := hl.1 he
  unfold NodeOK nodeG
  rw [e, if_neg h7, if_neg h7, g1, g2]
  simp only [Option.bind_some]
  rw [workG_nofield S op _ _ h20, workG_nofield S op _ _ h20]
  unfold agree at ha
  by_cases h0 : (ruleP [] op [] (kindsP S kids).1).2 = 0
  · rw [if_pos h0] at ha
    simp only [Bool.and_eq_true, decide_eq_true_eq, Bool.not_eq_true'] at ha
    refine ⟨fun _ => ⟨ha.1.1, ?_, fun h => ?_⟩, fun h => absurd h0 h⟩
    · rw [ha.1.2]
      unfold KA.gone
      rw [ha.2]
      rfl
    · rw [ha.2] at h; cases h
  · rw [if_neg h0] at ha
    simp only [Bool.and_eq_true, Bool.or_eq_true, decide_eq_true_eq] at ha
    exact ⟨fun h => absurd h h0, fun _ => ⟨ha.1, Or.inr ha.2⟩⟩
theorem node_else {S : List FieldA} {s s0 s1 : Txt} {op0 n0 op1 n1 : Int} {kids0 kids1 : EL} (hr0 : rootB op0 n0 s0 kids0.len = true)
    (hl : ListOK S (.cons op0 n0 s0 kids0 (.cons op1 n1 s1 kids1 .nil))) (h0 : NodeOK S op0 s0 kids0) (hok : ∀ k ∈ (kindsP S (.cons op0 n0 s0 kids0 (.cons op1 n1 s1 kids1 .nil))).1, okT k.t)
    (he : (kindsP S (.cons op0 n0 s0 kids0 (.cons op1 n1 s1 kids1 .nil))).2 = 0) : NodeOK S 20 s (.cons op0 n0 s0 kids0 (.cons op1 n1 s1 kids1 .nil)) := by
  obtain ⟨g1, g2⟩ := hl.1 he
  have hk0 : (kindP S op0 s0 kids0).2 = 0 := by
    rw [kindsP_cons] at he
    by_cases h : (kindP S op0 s0 kids0).2 = 0
    · exact h
    · rw [if_pos h] at he; exact absurd he h
  have hk1 : (kindP S op1 s1 kids1).2 = 0 := by
    rw [kindsP_cons, if_neg (by simpa using hk0), kindsP_cons] at he
    by_cases h : (kindP S op1 s1 kids1).2 = 0
    · exact h
    · simp [h] at he
  have hks : (kindsP S (.cons op0 n0 s0 kids0 (.cons op1 n1 s1 kids1 .nil))).1 = [(kindP S op0 s0 kids0).1, (kindP S op1 s1 kids1).1] := by
    rw [kindsP_cons, kindsP_cons]
    simp [hk0, hk1, kindsP]
  rw [hks] at g1 g2 hok
  obtain ⟨k0, hk0'⟩ : ∃ k, k = (kindP S op0 s0 kids0).1 := ⟨_, rfl⟩
  obtain ⟨k1, hk1'⟩ : ∃ k, k = (kindP S op1 s1 kids1).1 := ⟨_, rfl⟩
  have hfield : op0 = 4 → ∃ f, fieldOf S s0 = some f ∧ f.opt = k0.o ∧ f.type = k0.t := by
    intro h4
    subst h4
    have hlen : kids0.len = 0 := by
      unfold rootB at hr0
      simp only [Bool.and_eq_true, decide_eq_true_eq] at hr0
      have := hr0.2.1
      unfold kidsB at this
      rw [if_pos (by omega)] at this
      omega
    obtain rfl := EL.len0 hlen
    have e : kindP S 4 s0 .nil = namedK S s0 := rfl
    rw [e] at hk0 hk0'
    unfold namedK at hk0 hk0'
    cases hf : fieldOf S s0 with
    | none => rw [hf] at hk0; exact absurd hk0 (by decide)
    | some f => rw [hf] at hk0'; exact ⟨f, rfl, by rw [hk0'], by rw [hk0']⟩
  have hopt : k0.o = true → op0 = 4 := by rw [hk0']; exact (h0.1 hk0).2.2
  have e : kindP S 20 s (.cons op0 n0 s0 kids0 (.cons op1 n1 s1 kids1 .nil)) = (⟨k0.t, false⟩, orI (optI k0) (plainI k1 [k0.t])) := by
    unfold kindP
    rw [if_neg (by simpa using he), hks, ← hk0', ← hk1']
    rfl
  have hok0 : okT k0.t := hok _ (by rw [← hk0']; simp)
  have hok1 : okT k1.t := hok _ (by rw [← hk1']; simp)
  rw [← hk0', ← hk1'] at g1 g2
  unfold NodeOK nodeG
  rw [e, if_neg (by decide), if_neg (by decide), g1, g2]
  simp only [Option.bind_some, List.map_cons, List.map_nil, headOp]
  have hn1 : k1.t ≠ 0 := by rcases hok1 with h | h | h <;> omega
  have hn0 : k0.t ≠ 0 := by rcases hok0 with h | h | h <;> omega
  cases ho : k0.o with
  | false =>
    have hE : orI (optI k0) (plainI k1 [k0.t]) = 92 := by simp [orI, optI, ho]
    rw [hE]
    have hw : workG S 20 (op0, s0) [k0.t, k1.t] = none := by
      unfold workG
      rw [if_pos rfl]
      by_cases h4 : op0 = 4
      · obtain ⟨f, hf, hfo, _⟩ := hfield h4
        rw [ho] at hfo
        simp [h4, hf, hfo]
      · simp [h4]
    exact ⟨fun h => absurd h (by decide), fun _ => ⟨Or.inl hw, Or.inr (Or.inr rfl)⟩⟩
  | true =>
    obtain ⟨f, hf, hfo, _⟩ := hfield (hopt ho)
    rw [ho] at hfo
    have h4 := hopt ho
    have hg0 : k0.gone = 0 := by simp [KA.gone, ho]
    rw [hg0]
    have hE : orI (optI k0) (plainI k1 [k0.t]) = plainI k1 [k0.t] := by simp [orI, optI, ho]
    rw [hE]
    have hw : ∀ a b : Int, workG S 20 (op0, s0) [a, b] = if b = 0 then none else if a = 0 ∨ a = b then some b else none := by
      intro a b
      unfold workG
      rw [if_pos rfl]
      simp [h4, hf, hfo]
    rw [hw, hw]
    unfold plainI ofI orI
    by_cases ht : k1.t = k0.t
    · have hc : ([k0.t].contains k1.t) = true := by simp [ht]
      rw [hc]
      cases ho1 : k1.o with
      | false =>
        have hg1 : k1.gone = k1.t := by simp [KA.gone, ho1]
        rw [hg1]
        exact ⟨fun _ => ⟨by simp [ht, hn0], by simp [ht, hn0, KA.gone], fun h => by cases h⟩, fun h => absurd rfl h⟩
      | true =>
        have hg1 : k1.gone = 0 := by simp [KA.gone, ho1]
        rw [hg1]
        exact ⟨fun h => absurd h (by decide), fun _ => ⟨Or.inr (by simp), Or.inr (Or.inr rfl)⟩⟩
    · have hc : ([k0.t].contains k1.t) = false := by simp [ht]
      rw [hc]
      exact ⟨fun h => by simp at h, fun _ => ⟨Or.inl (by simp [hn1, hn0, Ne.symm ht]), Or.inr (Or.inl rfl)⟩⟩
/-- It is said of each expression of a list. -/
def NodesOK (S : List FieldA) : EL → Prop
  | .nil => True
  | .cons op _ s kids rest => NodeOK S op s kids ∧ NodesOK S rest
/-- Typing tells what goes wrong: on every well-made tree. -/
theorem right_pure {S : List FieldA} (hS : schemaB S = true) : ∀ l : EL, wellE l = true → NodesOK S l ∧ ListOK S l
  | .nil, _ => ⟨trivial, fun _ => ⟨rfl, rfl⟩, fun h => absurd rfl h⟩
  | .cons op n s kids rest, hw => by
    have ih1 := right_pure hS kids
    have ih2 := right_pure hS rest
    simp only [wellE, Bool.and_eq_true] at hw
    obtain ⟨hr, hwk, hwr⟩ := hw
    suffices hnode : NodeOK S op s kids from ⟨⟨hnode, (ih2 hwr).1⟩, list_step hnode (ih2 hwr).2⟩
    obtain ⟨hnk, hlk⟩ := ih1 hwk
    obtain ⟨m, r, hm, hm25, hrl, hkids, hl3, _⟩ := root_open hr
    by_cases h6 : op ≤ 6
    · have h0 : kids.len = 0 := by
        have hb := hr
        unfold rootB at hb
        simp only [Bool.and_eq_true, decide_eq_true_eq] at hb
        have hk := hb.2.1
        unfold kidsB at hk
        rw [if_pos (by
          have : 1 ≤ m := by
            rcases Nat.eq_zero_or_pos m with h | h
            · subst h; cases hrl
            · exact h
          omega)] at hk
        omega
      obtain rfl := EL.len0 h0
      exact node_leaf (n := n) hr h6
    · by_cases he : (kindsP S kids).2 = 0
      · have hok := kinds_okT hS kids hwk he
        have hlen := kindsP_len S kids he
        have hk : ((kindsP S kids).1.length : Int) = kidsB op := by
          have hb := hr
          unfold rootB at hb
          simp only [Bool.and_eq_true, decide_eq_true_eq] at hb
          rw [hlen]; exact hb.2.1
        by_cases h20 : op = 20
        · subst h20
          have h2 : kids.len = 2 := by
            rw [hlen] at hk
            have : kidsB 20 = 2 := by decide
            omega
          clear ih1 ih2 hr hlen hk hkids hl3
          match kids, h2, hwk, hlk, hnk, hok, he with
          | .cons op0 n0 s0 kids0 (.cons op1 n1 s1 kids1 .nil), _, hwk, hlk, hnk, hok, he =>
            simp only [wellE, Bool.and_eq_true] at hwk
            exact node_else hwk.1 hlk hnk.1 hok he
        · refine node_agree h6 (by omega) h20 hlk he ?_
          unfold kidsB at hk
          rw [if_neg (by omega)] at hk
          by_cases hA : op = 7 ∨ op = 8 ∨ op = 23
          · rw [if_pos hA] at hk
            match hks : (kindsP S kids).1, hk with
            | [a], _ => exact agree1 op (by rcases hA with rfl | rfl | rfl <;> decide) a (mem_KAs (hok a (by rw [hks]; simp)))
            | [], hk => exact absurd hk (by simp)
            | _ :: _ :: _, hk => exact absurd hk (by simp; omega)
          · rw [if_neg hA] at hk
            by_cases hB : op = 25
            · subst hB
              rw [if_neg (by omega), if_pos rfl] at hk
              match hks : (kindsP S kids).1, hk with
              | [a, b, c], _ => exact agree3 a (mem_KAs (hok a (by rw [hks]; simp))) b (mem_KAs (hok b (by rw [hks]; simp))) c (mem_KAs (hok c (by rw [hks]; simp)))
              | [], hk => exact absurd hk (by simp)
              | [_], hk => exact absurd hk (by simp)
              | [_, _], hk => exact absurd hk (by simp)
              | _ :: _ :: _ :: _ :: _, hk => exact absurd hk (by simp; omega)
            · rw [if_pos (by omega)] at hk
              match hks : (kindsP S kids).1, hk with
              | [a, b], _ =>
                have hmem : op ∈ ([9, 10, 11, 12, 13, 14, 15, 16, 17, 18, 19, 21, 22, 24] : List Int) := by
                  simp only [List.mem_cons, List.not_mem_nil, or_false]
                  omega
                exact agree2 op hmem a (mem_KAs (hok a (by rw [hks]; simp))) b (mem_KAs (hok b (by rw [hks]; simp)))
              | [], hk => exact absurd hk (by simp)
              | [_], hk => exact absurd hk (by simp)
              | _ :: _ :: _ :: _, hk => exact absurd hk (by simp; omega)
      · exact node_err h6 hlk he
end Go.Proofs.YtoempeobaknkcaaGreatDoor
namespace Go.Proofs.YtoempeobaknkcaaGreatDoor
open Go.RowKit Go.Maps

theorem rowV_H (S : List FieldA) : (rowV S true).map ValA.kind = rowH S := by
  unfold rowV rowH
  rw [List.map_map]
  apply List.map_congr_left
  intro f _
  simp
theorem rowV_G (S : List FieldA) : (rowV S false).map ValA.kind = rowG S := by
  unfold rowV rowG
  rw [List.map_map]
  apply List.map_congr_left
  intro f _
  cases h : f.opt <;> simp [h]
theorem rowV_len (S : List FieldA) (p : Bool) : (rowV S p).length = S.length := by simp [rowV]
end Go.Proofs.YtoempeobaknkcaaGreatDoor
