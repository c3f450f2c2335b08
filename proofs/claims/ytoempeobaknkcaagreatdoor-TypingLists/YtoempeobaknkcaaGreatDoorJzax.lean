import Derived.Test.YtoempeobaknkcaaGreatDoorJzaw
import Derived.Test.YtoempeobaknkcaaGreatDoorJzav
import Derived.Test.YtoempeobaknkcaaGreatDoorJzam
import Derived.Test.YtoempeobaknkcaaGreatDoorJzan
namespace Go.Proofs.YtoempeobaknkcaaGreatDoor
open Go.RowKit Go.Maps

theorem schema_8 {S : List FieldA} (hS : schemaB S = true) : S.length ≤ 8 := by
  unfold schemaB at hS
  simp only [Bool.and_eq_true, decide_eq_true_eq] at hS
  exact hS.1.1.1.2
theorem idx_none {S : List FieldA} {nm : Txt} (h : fieldOf S nm = none) : idxF S nm = none := by
  unfold fieldOf at h
  unfold idxF
  rw [List.findIdx?_eq_none_iff]
  intro f hf
  have := List.find?_eq_none.1 h f hf
  simpa using this
theorem idx_some {S : List FieldA} (hS : schemaB S = true) {nm : Txt} {k : Nat} {f : FieldA} (hk : S[k]? = some f) (h : fieldOf S nm = some f) : idxF S nm = some k := by
  have hn : f.name = nm := by
    unfold fieldOf at h
    have := List.find?_some h
    simpa using this
  have hnd : (S.map FieldA.name).Nodup := by
    unfold schemaB at hS
    simp only [Bool.and_eq_true, decide_eq_true_eq] at hS
    exact hS.1.2
  unfold idxF
  rw [List.findIdx?_eq_some_iff_getElem]
  obtain ⟨hlt, hke⟩ := List.getElem?_eq_some_iff.1 hk
  refine ⟨hlt, by simp [hke, hn], fun j hj => ?_⟩
  have hjl : j < S.length := by omega
  simp only [decide_eq_true_eq]
  intro hc
  have h1 : (S.map FieldA.name)[j]? = some nm := by rw [List.getElem?_map, List.getElem?_eq_getElem hjl]; simp [hc]
  have h2 : (S.map FieldA.name)[k]? = some nm := by rw [List.getElem?_map, hk]; simp [hn]
  have := (List.getElem?_inj (by simpa using hjl) hnd).1 (h1.trans h2.symm)
  omega
end Go.Proofs.YtoempeobaknkcaaGreatDoor
namespace Go.Proofs.YtoempeobaknkcaaGreatDoor
open Go.RowKit Go.Maps

theorem Tryz.info3 : (Tryz.prog.info? 3).map (fun i => (i.zero, i.size, i.bytes)) = some (some (.int .i64 0), 1, 8) := by kernel_rfl
end Go.Proofs.YtoempeobaknkcaaGreatDoor
namespace Go.Proofs.YtoempeobaknkcaaGreatDoor
open Go.RowKit Go.Maps

theorem idx_field (nm : Txt) : ∀ S : List FieldA, fieldOf S nm = (idxF S nm).bind (fun i => S[i]?)
  | [] => rfl
  | f :: r => by
    have ih := idx_field nm r
    unfold fieldOf idxF at ih ⊢
    rw [List.find?_cons, List.findIdx?_cons]
    by_cases h : f.name = nm
    · simp [h]
    · simp only [h, decide_false]
      rw [ih]
      cases List.findIdx? (fun f => decide (f.name = nm)) r <;> simp
theorem row_at {S : List FieldA} {nm : Txt} (g : FieldA → Int) : (idxF S nm).bind (fun i => (S.map g)[i]?) = (fieldOf S nm).map g := by
  rw [idx_field]
  cases idxF S nm with
  | none => rfl
  | some i => simp
/-- What is said of one expression. -/
def NodeOK (S : List FieldA) (op : Int) (s : Txt) (kids : EL) : Prop :=
  ((kindP S op s kids).2 = 0 → nodeG S (rowH S) op s kids = some (kindP S op s kids).1.t ∧ nodeG S (rowG S) op s kids = some (kindP S op s kids).1.gone ∧ ((kindP S op s kids).1.o = true → op = 4)) ∧
  ((kindP S op s kids).2 ≠ 0 → (nodeG S (rowH S) op s kids = none ∨ nodeG S (rowG S) op s kids = none) ∧ ((kindP S op s kids).2 = 90 ∨ (kindP S op s kids).2 = 91 ∨ (kindP S op s kids).2 = 92))
/-- What is said of a list. -/
def ListOK (S : List FieldA) (l : EL) : Prop :=
  ((kindsP S l).2 = 0 → goG S (rowH S) l = some ((kindsP S l).1.map KA.t) ∧ goG S (rowG S) l = some ((kindsP S l).1.map KA.gone)) ∧
  ((kindsP S l).2 ≠ 0 → (goG S (rowH S) l = none ∨ goG S (rowG S) l = none) ∧ ((kindsP S l).2 = 90 ∨ (kindsP S l).2 = 91 ∨ (kindsP S l).2 = 92))
theorem list_step {S : List FieldA} {op n : Int} {s : Txt} {kids rest : EL} (h1 : NodeOK S op s kids) (h2 : ListOK S rest) : ListOK S (.cons op n s kids rest) := by
  unfold ListOK
  rw [goG_cons, goG_cons, kindsP_cons]
  by_cases hp : (kindP S op s kids).2 = 0
  · obtain ⟨a1, a2, _⟩ := h1.1 hp
    rw [a1, a2]
    by_cases hq : (kindsP S rest).2 = 0
    · obtain ⟨b1, b2⟩ := h2.1 hq
      rw [b1, b2]
      simp [hp, hq]
    · obtain ⟨b1, b2⟩ := h2.2 hq
      simp only [hp, hq, ne_eq, not_true_eq_false, if_false, not_false_eq_true, if_true, false_implies, true_implies, true_and]
      refine ⟨?_, b2⟩
      rcases b1 with b | b
      · left; rw [b]; rfl
      · right; rw [b]; rfl
  · obtain ⟨a1, a2⟩ := h1.2 hp
    simp only [hp, ne_eq, not_false_eq_true, if_true, false_implies, true_implies, true_and]
    refine ⟨?_, a2⟩
    rcases a1 with a | a
    · left; rw [a]; rfl
    · right; rw [a]; rfl
theorem kindP_nil (S : List FieldA) (op : Int) (s : Txt) : kindP S op s .nil = ruleP S op s [] := by simp [kindP, kindsP]
theorem node_leaf {S : List FieldA} {op n : Int} {s : Txt} (hr : rootB op n s 0 = true) (h6 : op ≤ 6) : NodeOK S op s .nil := by
  obtain ⟨m, r, rfl, _, hrl, _, _, _⟩ := root_open hr
  have hm1 : 1 ≤ m := by
    rcases Nat.eq_zero_or_pos m with h | h
    · subst h; cases hrl
    · exact h
  unfold NodeOK nodeG
  rw [kindP_nil, if_pos h6, if_pos h6]
  rcases (show m = 1 ∨ m = 2 ∨ m = 3 ∨ m = 4 ∨ m = 5 ∨ m = 6 by omega) with rfl | rfl | rfl | rfl | rfl | rfl
  · exact ⟨fun _ => ⟨rfl, rfl, fun h => by cases h⟩, fun h => absurd rfl h⟩
  · exact ⟨fun _ => ⟨rfl, rfl, fun h => by cases h⟩, fun h => absurd rfl h⟩
  · exact ⟨fun _ => ⟨rfl, rfl, fun h => by cases h⟩, fun h => absurd rfl h⟩
  · have e : ruleP S ((4 : Nat) : Int) s [] = namedK S s := rfl
    have g1 : leafG S (rowH S) ((4 : Nat) : Int) s = (fieldOf S s).map FieldA.type := row_at FieldA.type
    have g2 : leafG S (rowG S) ((4 : Nat) : Int) s = (fieldOf S s).map (fun f => if f.opt then 0 else f.type) := row_at _
    rw [e, g1, g2]
    unfold namedK
    cases hf : fieldOf S s with
    | none => exact ⟨fun h => absurd h (by decide), fun _ => ⟨Or.inl rfl, Or.inl rfl⟩⟩
    | some f => exact ⟨fun _ => ⟨rfl, rfl, fun _ => rfl⟩, fun h => absurd rfl h⟩
  · have e : ruleP S ((5 : Nat) : Int) s [] = hasK S s := rfl
    have g : ∀ rk, leafG S rk ((5 : Nat) : Int) s = (fieldOf S s).bind (fun f => if f.opt then some 2 else none) := fun _ => rfl
    rw [e, g, g]
    unfold hasK namedK
    cases hf : fieldOf S s with
    | none => exact ⟨fun h => absurd h (by decide), fun _ => ⟨Or.inl rfl, Or.inl rfl⟩⟩
    | some f =>
      cases ho : f.opt with
      | false => exact ⟨fun h => by simp [orI, optI, ho] at h, fun _ => ⟨Or.inl (by simp [ho]), by simp [orI, optI, ho]⟩⟩
      | true => exact ⟨fun _ => ⟨by simp [ho], by simp [ho, KA.gone], fun h => by cases h⟩, fun h => by simp [orI, optI, ho] at h⟩
  · exact ⟨fun _ => ⟨rfl, rfl, fun h => by cases h⟩, fun h => absurd rfl h⟩
end Go.Proofs.YtoempeobaknkcaaGreatDoor
namespace Go.Proofs.YtoempeobaknkcaaGreatDoor
open Go.RowKit Go.Maps

theorem node_err {S : List FieldA} {op : Int} {s : Txt} {kids : EL} (h7 : ¬ op ≤ 6) (hl : ListOK S kids) (he : (kindsP S kids).2 ≠ 0) : NodeOK S op s kids := by
  have e : kindP S op s kids = (⟨0, false⟩, (kindsP S kids).2) := by unfold kindP; rw [if_pos he]
  unfold NodeOK nodeG
  rw [e, if_neg h7, if_neg h7]
  refine ⟨fun h => absurd h he, fun _ => ⟨?_, (hl.2 he).2⟩⟩
  rcases (hl.2 he).1 with h | h
  · left; rw [h]; rfl
  · right; rw [h]; rfl
theorem node_agree {S : List FieldA} {op : Int} {s : Txt} {kids : EL} (h7 : ¬ op ≤ 6) (h25 : op ≤ 25) (h20 : op ≠ 20) (hl : ListOK S kids) (he : (kindsP S kids).2 = 0) (ha : agree op (kindsP S kids).1 = true) : NodeOK S op s kids := by
  have e : kindP S op s kids = ruleP [] op [] (kindsP S kids).1 := by
    unfold kindP
    rw [if_neg (by simpa using he)]
    exact rule_nofield S op s _ (by omega) h25
  obtain ⟨g1, g2⟩ := hl.1 he
  unfold NodeOK nodeG
  rw [e, if_neg h7, if_neg h7, g1, g2]
  simp only [Option.bind_some]
  rw [workG_nofield S op _ _ h20, workG_nofield S op _ _ h20]
  unfold agree at ha
  by_cases h0 : (ruleP [] op [] (kindsP S kids).1).2 = 0
  · rw [if_pos h0] at ha
    simp only [Bool.and_eq_true, decide_eq_true_eq, Bool.not_eq_true'] at ha
    refine ⟨fun _ => ⟨ha.1.1, ?_, fun h => ?_⟩, fun h => absurd h0 h⟩
    · rw [ha.1.2]
      unfold KA.gone
      rw [ha.2]
      rfl
    · rw [ha.2] at h; cases h
  · rw [if_neg h0] at ha
    simp only [Bool.and_eq_true, Bool.or_eq_true, decide_eq_true_eq] at ha
    exact ⟨fun h => absurd h h0, fun _ => ⟨ha.1, Or.inr ha.2⟩⟩
theorem node_else {S : List FieldA} {s s0 s1 : Txt} {op0 n0 op1 n1 : Int} {kids0 kids1 : EL} (hr0 : rootB op0 n0 s0 kids0.len = true)
    (hl : ListOK S (.cons op0 n0 s0 kids0 (.cons op1 n1 s1 kids1 .nil))) (h0 : NodeOK S op0 s0 kids0) (hok : ∀ k ∈ (kindsP S (.cons op0 n0 s0 kids0 (.cons op1 n1 s1 kids1 .nil))).1, okT k.t)
    (he : (kindsP S (.cons op0 n0 s0 kids0 (.cons op1 n1 s1 kids1 .nil))).2 = 0) : NodeOK S 20 s (.cons op0 n0 s0 kids0 (.cons op1 n1 s1 kids1 .nil)) := by
  obtain ⟨g1, g2⟩ := hl.1 he
  have hk0 : (kindP S op0 s0 kids0).2 = 0 := by
    rw [kindsP_cons] at he
    by_cases h : (kindP S op0 s0 kids0).2 = 0
    · exact h
    · rw [if_pos h] at he; exact absurd he h
  have hk1 : (kindP S op1 s1 kids1).2 = 0 := by
    rw [kindsP_cons, if_neg (by simpa using hk0), kindsP_cons] at he
    by_cases h : (kindP S op1 s1 kids1).2 = 0
    · exact h
    · simp [h] at he
  have hks : (kindsP S (.cons op0 n0 s0 kids0 (.cons op1 n1 s1 kids1 .nil))).1 = [(kindP S op0 s0 kids0).1, (kindP S op1 s1 kids1).1] := by
    rw [kindsP_cons, kindsP_cons]
    simp [hk0, hk1, kindsP]
  rw [hks] at g1 g2 hok
  obtain ⟨k0, hk0'⟩ : ∃ k, k = (kindP S op0 s0 kids0).1 := ⟨_, rfl⟩
  obtain ⟨k1, hk1'⟩ : ∃ k, k = (kindP S op1 s1 kids1).1 := ⟨_, rfl⟩
  have hfield : op0 = 4 → ∃ f, fieldOf S s0 = some f ∧ f.opt = k0.o ∧ f.type = k0.t := by
    intro h4
    subst h4
    have hlen : kids0.len = 0 := by
      unfold rootB at hr0
      simp only [Bool.and_eq_true, decide_eq_true_eq] at hr0
      have := hr0.2.1
      unfold kidsB at this
      rw [if_pos (by omega)] at this
      omega
    obtain rfl := EL.len0 hlen
    have e : kindP S 4 s0 .nil = namedK S s0 := rfl
    rw [e] at hk0 hk0'
    unfold namedK at hk0 hk0'
    cases hf : fieldOf S s0 with
    | none => rw [hf] at hk0; exact absurd hk0 (by decide)
    | some f => rw [hf] at hk0'; exact ⟨f, rfl, by rw [hk0'], by rw [hk0']⟩
  have hopt : k0.o = true → op0 = 4 := by rw [hk0']; exact (h0.1 hk0).2.2
  have e : kindP S 20 s (.cons op0 n0 s0 kids0 (.cons op1 n1 s1 kids1 .nil)) = (⟨k0.t, false⟩, orI (optI k0) (plainI k1 [k0.t])) := by
    unfold kindP
    rw [if_neg (by simpa using he), hks, ← hk0', ← hk1']
    rfl
  have hok0 : okT k0.t := hok _ (by rw [← hk0']; simp)
  have hok1 : okT k1.t := hok _ (by rw [← hk1']; simp)
  rw [← hk0', ← hk1'] at g1 g2
  unfold NodeOK nodeG
  rw [e, if_neg (by decide), if_neg (by decide), g1, g2]
  simp only [Option.bind_some, List.map_cons, List.map_nil, headOp]
  have hn1 : k1.t ≠ 0 := by rcases hok1 with h | h | h <;> omega
  have hn0 : k0.t ≠ 0 := by rcases hok0 with h | h | h <;> omega
  cases ho : k0.o with
  | false =>
    have hE : orI (optI k0) (plainI k1 [k0.t]) = 92 := by simp [orI, optI, ho]
    rw [hE]
    have hw : workG S 20 (op0, s0) [k0.t, k1.t] = none := by
      unfold workG
      rw [if_pos rfl]
      by_cases h4 : op0 = 4
      · obtain ⟨f, hf, hfo, _⟩ := hfield h4
        rw [ho] at hfo
        simp [h4, hf, hfo]
      · simp [h4]
    exact ⟨fun h => absurd h (by decide), fun _ => ⟨Or.inl hw, Or.inr (Or.inr rfl)⟩⟩
  | true =>
    obtain ⟨f, hf, hfo, _⟩ := hfield (hopt ho)
    rw [ho] at hfo
    have h4 := hopt ho
    have hg0 : k0.gone = 0 := by simp [KA.gone, ho]
    rw [hg0]
    have hE : orI (optI k0) (plainI k1 [k0.t]) = plainI k1 [k0.t] := by simp [orI, optI, ho]
    rw [hE]
    have hw : ∀ a b : Int, workG S 20 (op0, s0) [a, b] = if b = 0 then none else if a = 0 ∨ a = b then some b else none := by
      intro a b
      unfold workG
      rw [if_pos rfl]
      simp [h4, hf, hfo]
    rw [hw, hw]
    unfold plainI ofI orI
    by_cases ht : k1.t = k0.t
    · have hc : ([k0.t].contains k1.t) = true := by simp [ht]
      rw [hc]
      cases ho1 : k1.o with
      | false =>
        have hg1 : k1.gone = k1.t := by simp [KA.gone, ho1]
        rw [hg1]
        exact ⟨fun _ => ⟨by simp [ht, hn0], by simp [ht, hn0, KA.gone], fun h => by cases h⟩, fun h => absurd rfl h⟩
      | true =>
        have hg1 : k1.gone = 0 := by simp [KA.gone, ho1]
        rw [hg1]
        exact ⟨fun h => absurd h (by decide), fun _ => ⟨Or.inr (by simp), Or.inr (Or.inr rfl)⟩⟩
    · have hc : ([k0.t].contains k1.t) = false := by simp [ht]
      rw [hc]
      exact ⟨fun h => by simp at h, fun _ => ⟨Or.inl (by simp [hn1, hn0, Ne.symm ht]), Or.inr (Or.inl rfl)⟩⟩
/-- It is said of each expression of a list. -/
def NodesOK (S : List FieldA) : EL → Prop
  | .nil => True
  | .cons op _ s kids rest => NodeOK S op s kids ∧ NodesOK S rest
/-- Typing tells what goes wrong: on every well-made tree. -/
theorem right_pure {S : List FieldA} (hS : schemaB S = true) : ∀ l : EL, wellE l = true → NodesOK S l ∧ ListOK S l
  | .nil, _ => ⟨trivial, fun _ => ⟨rfl, rfl⟩, fun h => absurd rfl h⟩
  | .cons op n s kids rest, hw => by
    have ih1 := right_pure hS kids
    have ih2 := right_pure hS rest
    simp only [wellE, Bool.and_eq_true] at hw
    obtain ⟨hr, hwk, hwr⟩ := hw
    suffices hnode : NodeOK S op s kids from ⟨⟨hnode, (ih2 hwr).1⟩, list_step hnode (ih2 hwr).2⟩
    obtain ⟨hnk, hlk⟩ := ih1 hwk
    obtain ⟨m, r, hm, hm25, hrl, hkids, hl3, _⟩ := root_open hr
    by_cases h6 : op ≤ 6
    · have h0 : kids.len = 0 := by
        have hb := hr
        unfold rootB at hb
        simp only [Bool.and_eq_true, decide_eq_true_eq] at hb
        have hk := hb.2.1
        unfold kidsB at hk
        rw [if_pos (by
          have : 1 ≤ m := by
            rcases Nat.eq_zero_or_pos m with h | h
            · subst h; cases hrl
            · exact h
          omega)] at hk
        omega
      obtain rfl := EL.len0 h0
      exact node_leaf (n := n) hr h6
    · by_cases he : (kindsP S kids).2 = 0
      · have hok := kinds_okT hS kids hwk he
        have hlen := kindsP_len S kids he
        have hk : ((kindsP S kids).1.length : Int) = kidsB op := by
          have hb := hr
          unfold rootB at hb
          simp only [Bool.and_eq_true, decide_eq_true_eq] at hb
          rw [hlen]; exact hb.2.1
        by_cases h20 : op = 20
        · subst h20
          have h2 : kids.len = 2 := by
            rw [hlen] at hk
            have : kidsB 20 = 2 := by decide
            omega
          clear ih1 ih2 hr hlen hk hkids hl3
          match kids, h2, hwk, hlk, hnk, hok, he with
          | .cons op0 n0 s0 kids0 (.cons op1 n1 s1 kids1 .nil), _, hwk, hlk, hnk, hok, he =>
            simp only [wellE, Bool.and_eq_true] at hwk
            exact node_else hwk.1 hlk hnk.1 hok he
        · refine node_agree h6 (by omega) h20 hlk he ?_
          unfold kidsB at hk
          rw [if_neg (by omega)] at hk
          by_cases hA : op = 7 ∨ op = 8 ∨ op = 23
          · rw [if_pos hA] at hk
            match hks : (kindsP S kids).1, hk with
            | [a], _ => exact agree1 op (by rcases hA with rfl | rfl | rfl <;> decide) a (mem_KAs (hok a (by rw [hks]; simp)))
            | [], hk => exact absurd hk (by simp)
            | _ :: _ :: _, hk => exact absurd hk (by simp; omega)
          · rw [if_neg hA] at hk
            by_cases hB : op = 25
            · subst hB
              rw [if_neg (by omega), if_pos rfl] at hk
              match hks : (kindsP S kids).1, hk with
              | [a, b, c], _ => exact agree3 a (mem_KAs (hok a (by rw [hks]; simp))) b (mem_KAs (hok b (by rw [hks]; simp))) c (mem_KAs (hok c (by rw [hks]; simp)))
              | [], hk => exact absurd hk (by simp)
              | [_], hk => exact absurd hk (by simp)
              | [_, _], hk => exact absurd hk (by simp)
              | _ :: _ :: _ :: _ :: _, hk => exact absurd hk (by simp; omega)
            · rw [if_pos (by omega)] at hk
              match hks : (kindsP S kids).1, hk with
              | [a, b], _ =>
                have hmem : op ∈ ([9, 10, 11, 12, 13, 14, 15, 16, 17, 18, 19, 21, 22, 24] : List Int) := by
                  simp only [List.mem_cons, List.not_mem_nil, or_false]
                  omega
                exact agree2 op hmem a (mem_KAs (hok a (by rw [hks]; simp))) b (mem_KAs (hok b (by rw [hks]; simp)))
              | [], hk => exact absurd hk (by simp)
              | [_], hk => exact absurd hk (by simp)
              | _ :: _ :: _ :: _, hk => exact absurd hk (by simp; omega)
      · exact node_err h6 hlk he
end Go.Proofs.YtoempeobaknkcaaGreatDoor
namespace Go.Proofs.YtoempeobaknkcaaGreatDoor
open Go.RowKit Go.Maps

theorem rowV_H (S : List FieldA) : (rowV S true).map ValA.kind = rowH S := by
  unfold rowV rowH
  rw [List.map_map]
  apply List.map_congr_left
  intro f _
  simp
theorem rowV_G (S : List FieldA) : (rowV S false).map ValA.kind = rowG S := by
  unfold rowV rowG
  rw [List.map_map]
  apply List.map_congr_left
  intro f _
  cases h : f.opt <;> simp [h]
theorem rowV_len (S : List FieldA) (p : Bool) : (rowV S p).length = S.length := by simp [rowV]
end Go.Proofs.YtoempeobaknkcaaGreatDoor
namespace Go.Proofs.YtoempeobaknkcaaGreatDoor
open Go.RowKit Go.Maps

/-- The kind of a statement's first expression on a row; 0, if there is none. -/
def headG (S : List FieldA) (rk : List Int) : EL → Option Int
  | .nil => some 0
  | .cons o _ s kids _ => nodeG S rk o s kids
/-- Does a statement by itself go wrong on a row? (Of what its operation asks of its field.) -/
def fieldW (S : List FieldA) (op : Int) (f : Txt) (k : Int) : Bool := match fieldOf S f with
  | none => true
  | some d => if op = 5 then !d.opt else if op = 1 then k != d.type && (k != 0 || !d.opt) else d.type != 1 || k != 1
def wrongK (S : List FieldA) (op : Int) (f : Txt) : Option Int → Bool
  | none => true
  | some k => if op = 6 ∨ op = 7 then false else if op = 8 then k != 2 else fieldW S op f k
def wrongG (S : List FieldA) (rk : List Int) (op : Int) (f : Txt) (x : EL) : Bool := wrongK S op f (headG S rk x)
theorem wrongK_f {S : List FieldA} {op : Int} {f : Txt} {k : Int} (h : op = 1 ∨ op = 2 ∨ op = 3 ∨ op = 4 ∨ op = 5) : wrongK S op f (some k) = fieldW S op f k := by
  unfold wrongK
  simp only
  rw [if_neg (by omega), if_neg (by omega)]

end Go.Proofs.YtoempeobaknkcaaGreatDoor
namespace Go.Proofs.YtoempeobaknkcaaGreatDoor
open Go.RowKit Go.Maps

theorem field_at {S : List FieldA} {nm : Txt} {d : FieldA} (h : fieldOf S nm = some d) : ∃ k : Nat, S[k]? = some d := by
  unfold fieldOf at h
  exact List.mem_iff_getElem?.1 (List.mem_of_find?_eq_some h)

end Go.Proofs.YtoempeobaknkcaaGreatDoor
namespace Go.Proofs.YtoempeobaknkcaaGreatDoor
open Go.RowKit Go.Maps

/-- The number of the first statement of a list that goes wrong on one of two rows; -1: none does. -/
def firstW (S : List FieldA) (ra rb : List Int) : SL → Nat → Int
  | .nil, _ => -1
  | .cons op f x _ _ r, k => if wrongG S ra op f x || wrongG S rb op f x then (k : Int) else firstW S ra rb r (k + 1)
theorem firstW_low (S : List FieldA) (ra rb : List Int) : ∀ (l : SL) (k : Nat), firstW S ra rb l k = -1 ∨ ((k : Int) ≤ firstW S ra rb l k ∧ firstW S ra rb l k < (k : Int) + l.len)
  | .nil, _ => Or.inl rfl
  | .cons op f x t e r, k => by
    unfold firstW
    split
    · right; simp only [SL.len]; omega
    · rcases firstW_low S ra rb r (k + 1) with h | h
      · exact Or.inl h
      · right; simp only [SL.len]; omega
theorem firstW_shift (S : List FieldA) (ra rb : List Int) : ∀ (l : SL) (k d : Nat), firstW S ra rb l (k + d) = if 0 ≤ firstW S ra rb l k then firstW S ra rb l k + d else -1
  | .nil, _, _ => rfl
  | .cons op f x t e r, k, d => by
    unfold firstW
    split
    · rw [if_pos (by omega)]; omega
    · rw [show k + d + 1 = k + 1 + d by omega]
      exact firstW_shift S ra rb r (k + 1) d
theorem firstW_app (S : List FieldA) (ra rb : List Int) : ∀ (l m : SL) (k : Nat), firstW S ra rb (l.app m) k = if 0 ≤ firstW S ra rb l k then firstW S ra rb l k else firstW S ra rb m (k + l.len)
  | .nil, m, k => by simp [SL.app, firstW, SL.len]
  | .cons op f x t e r, m, k => by
    have ih := firstW_app S ra rb r m (k + 1)
    have hc : firstW S ra rb (.cons op f x t e r) k = if wrongG S ra op f x || wrongG S rb op f x then (k : Int) else firstW S ra rb r (k + 1) := rfl
    show (if wrongG S ra op f x || wrongG S rb op f x then (k : Int) else firstW S ra rb (r.app m) (k + 1)) = _
    by_cases h : (wrongG S ra op f x || wrongG S rb op f x) = true
    · rw [if_pos h] at hc ⊢
      rw [hc, if_pos (by omega)]
    · rw [if_neg h] at hc ⊢
      rw [hc, ih, show (SL.cons op f x t e r).len = r.len + 1 from rfl, show k + 1 + r.len = k + (r.len + 1) by omega]
/-- One round of the loop. -/
theorem firstW_step (S : List FieldA) (ra rb : List Int) (op : Int) (f : Txt) (x : EL) (t e r : SL) (n : Nat) :
    firstW S ra rb (flatS (.cons op f x t e r)) n = if wrongG S ra op f x || wrongG S rb op f x then (n : Int) else if 0 ≤ firstW S ra rb (flatS t) 0 then ((n + 1 : Nat) : Int) + firstW S ra rb (flatS t) 0
      else if 0 ≤ firstW S ra rb (flatS e) 0 then ((n + 1 + countS t : Nat) : Int) + firstW S ra rb (flatS e) 0 else firstW S ra rb (flatS r) (n + 1 + countS t + countS e) := by
  rw [flatS]
  rw [firstW]
  split
  · rfl
  · rw [firstW_app, firstW_app, flatS_len, flatS_len]
    have h1 := firstW_shift S ra rb (flatS t) 0 (n + 1)
    have h2 := firstW_shift S ra rb (flatS e) 0 (n + 1 + countS t)
    rw [Nat.zero_add] at h1 h2
    rw [h1, h2]
    by_cases a : 0 ≤ firstW S ra rb (flatS t) 0
    · rw [if_pos a, if_pos a, if_pos (by omega)]; omega
    · rw [if_neg a, if_neg a, if_neg (by omega)]
      by_cases c : 0 ≤ firstW S ra rb (flatS e) 0
      · rw [if_pos c, if_pos c, if_pos (by omega)]; omega
      · rw [if_neg c, if_neg c, if_neg (by omega)]
/-- What the walk over a program answers. -/
def FPost (S : List FieldA) (ra rb : List Int) (l : SL) (w : World) (e : Ending) (w' : World) : Prop := e = .returned (.tuple #[.int .i64 (firstW S ra rb (flatS l) 0), .int .i64 (countS l : Int)]) ∧ Keeps (fun _ => False) w w'

end Go.Proofs.YtoempeobaknkcaaGreatDoor
namespace Go.Proofs.YtoempeobaknkcaaGreatDoor
open Go.RowKit Go.Maps

def setO (k d : KA) : Int := orL [0, 0, ofI k [d.t], if k.o = true ∧ d.o = false then 92 else 0]
def setW (v : Int) (d : KA) : Bool := v != d.t && (v != 0 || !d.o)
def chgO (k d : KA) : Int := orL [0, 0, ofI d [1], plainI k [1]]
def chgW (v : Int) (d : KA) : Bool := d.t != 1 || v != 1
def ifO (k : KA) : Int := orL [0, plainI k [2]]
/-- What is said of an error and of what goes wrong on two rows. -/
def Agr (E : Int) (a b : Bool) : Prop := (E = 0 → (a || b) = false) ∧ (E ≠ 0 → (a || b) = true ∧ (E = 90 ∨ E = 91 ∨ E = 92))
def agrB (E : Int) (a b : Bool) : Bool := if E = 0 then !(a || b) else (a || b) && (decide (E = 91) || decide (E = 92))
theorem agr_of {E : Int} {a b : Bool} (h : agrB E a b = true) : Agr E a b := by
  unfold agrB at h
  split at h
  · rename_i h0
    exact ⟨fun _ => by simpa using h, fun h1 => absurd h0 h1⟩
  · rename_i h0
    simp only [Bool.and_eq_true, Bool.or_eq_true, decide_eq_true_eq] at h
    exact ⟨fun h1 => absurd h1 h0, fun _ => ⟨by simpa using h.1, Or.inr h.2⟩⟩
set_option maxRecDepth 100000 in
theorem set_agr : ∀ k ∈ KAs, ∀ d ∈ KAs, agrB (setO k d) (setW k.t d) (setW k.gone d) = true := by decide
set_option maxRecDepth 100000 in
theorem chg_agr : ∀ k ∈ KAs, ∀ d ∈ KAs, agrB (chgO k d) (chgW k.t d) (chgW k.gone d) = true := by decide
set_option maxRecDepth 100000 in
theorem if_agr : ∀ k ∈ KAs, agrB (ifO k) (k.t != 2) (k.gone != 2) = true := by decide
theorem agr_err {E : Int} {a b : Bool} (h : a = true ∨ b = true) (hE : E = 90 ∨ E = 91 ∨ E = 92) : Agr E a b :=
  ⟨fun h0 => by omega, fun _ => ⟨by rcases h with h | h <;> simp [h], hE⟩⟩
theorem orL_skip (r : List Int) : orL (0 :: r) = orL r := rfl
theorem orL_head {a : Int} (h : a ≠ 0) (r : List Int) : orL (a :: r) = a := by show (if a = 0 then orL r else a) = a; rw [if_neg h]
theorem node_okT {S : List FieldA} (hS : schemaB S = true) {o n : Int} {s : Txt} {kids : EL} (hr : rootB o n s kids.len = true) (hw : wellE kids = true) (h0 : (kindP S o s kids).2 = 0) : okT (kindP S o s kids).1.t := by
  have hc := kindsP_cons S o n s kids .nil
  have hk0 : (kindsP S (.cons o n s kids .nil)).2 = 0 := by rw [hc]; simp [h0, kindsP]
  have := kinds_okT hS (.cons o n s kids .nil) (by simp [wellE, hr, hw]) hk0 (kindP S o s kids).1 (by rw [hc]; simp [h0, kindsP])
  exact this
/-- A statement is refused just if it goes wrong on one of the two rows. -/
theorem own_agr {S : List FieldA} (hS : schemaB S = true) {op : Int} {f : Txt} {x : EL} {t e : Nat} (hh : headS op f x.len t e = true) (hw : wellE x = true) :
    Agr (ownP S op f x) (wrongG S (rowH S) op f x) (wrongG S (rowG S) op f x) := by
  rcases head_open hh with ⟨h1, _, hl⟩ | ⟨rfl, _, rfl⟩ | ⟨h1, rfl⟩ | ⟨rfl, hl⟩
  · obtain ⟨o, n, s, kids, rfl⟩ := EL.one_of hl
    simp only [wellE, Bool.and_eq_true] at hw
    have hnode : NodeOK S o s kids := (right_pure hS (.cons o n s kids .nil) (by simp [wellE, hw.1, hw.2.1])).1.1
    have hok := node_okT hS (n := n) hw.1 hw.2.1
    show Agr _ (wrongK S op f (nodeG S (rowH S) o s kids)) (wrongK S op f (nodeG S (rowG S) o s kids))
    cases hfo : fieldOf S f with
    | none =>
      have hn : namedK S f = (⟨0, false⟩, 90) := by unfold namedK; rw [hfo]
      have ho : ownP S op f (.cons o n s kids .nil) = 90 := by
        unfold ownP
        rcases h1 with rfl | rfl | rfl | rfl
        · rw [if_pos rfl, hn]; rfl
        all_goals rw [if_neg (by decide), if_pos (by decide), hn]; rfl
      rw [ho]
      refine agr_err (Or.inl ?_) (Or.inl rfl)
      cases nodeG S (rowH S) o s kids with
      | none => rfl
      | some k => rw [wrongK_f (by omega)]; unfold fieldW; rw [hfo]
    | some d =>
      have hn : namedK S f = (⟨d.type, d.opt⟩, 0) := by unfold namedK; rw [hfo]
      have hd := mem_KAs (k := ⟨d.type, d.opt⟩) (field_okT hS hfo)
      have hhk : headK S (.cons o n s kids .nil) = kindP S o s kids := rfl
      by_cases hE : (kindP S o s kids).2 = 0
      · obtain ⟨a1, a2, _⟩ := hnode.1 hE
        have hk := mem_KAs (hok hE)
        rw [a1, a2]
        rcases h1 with rfl | h1
        · have ho : ownP S 1 f (.cons o n s kids .nil) = setO (kindP S o s kids).1 ⟨d.type, d.opt⟩ := by
            unfold ownP
            rw [if_pos rfl, hn, hhk, hE]
            rfl
          have hwk : ∀ v, wrongK S 1 f (some v) = setW v ⟨d.type, d.opt⟩ := fun v => by
            rw [wrongK_f (by omega)]; unfold fieldW; rw [hfo]; rfl
          rw [ho, hwk, hwk]
          exact agr_of (set_agr _ hk _ hd)
        · have ho : ownP S op f (.cons o n s kids .nil) = chgO (kindP S o s kids).1 ⟨d.type, d.opt⟩ := by
            unfold ownP
            rw [if_neg (by omega), if_pos h1, hn, hhk, hE]
            rfl
          have hwk : ∀ v, wrongK S op f (some v) = chgW v ⟨d.type, d.opt⟩ := fun v => by
            rw [wrongK_f (by omega)]; unfold fieldW; rw [hfo]
            simp only
            rw [if_neg (by omega), if_neg (by omega)]
            rfl
          rw [ho, hwk, hwk]
          exact agr_of (chg_agr _ hk _ hd)
      · obtain ⟨a1, a2⟩ := hnode.2 hE
        have ho : ownP S op f (.cons o n s kids .nil) = (kindP S o s kids).2 := by
          unfold ownP
          rcases h1 with rfl | h1
          · rw [if_pos rfl, hn, hhk, orL_skip, orL_head hE]
          · rw [if_neg (by omega), if_pos h1, hn, hhk, orL_skip, orL_head hE]
        rw [ho]
        refine agr_err ?_ a2
        rcases a1 with a | a
        · left; rw [a]; rfl
        · right; rw [a]; rfl
  · show Agr _ (wrongK S 5 f (some 0)) (wrongK S 5 f (some 0))
    rw [wrongK_f (by omega)]
    have ho : ownP S 5 f .nil = orL [(namedK S f).2, optI (namedK S f).1] := rfl
    rw [ho]
    unfold namedK fieldW
    cases fieldOf S f with
    | none => exact agr_err (Or.inl rfl) (Or.inl rfl)
    | some d =>
      obtain ⟨nm, ty, op'⟩ := d
      cases op' with
      | true => exact ⟨fun _ => rfl, fun h => absurd rfl h⟩
      | false => exact agr_err (Or.inl rfl) (Or.inr (Or.inr rfl))
  · rcases h1 with rfl | rfl
    · exact ⟨fun _ => rfl, fun h => absurd rfl h⟩
    · exact ⟨fun _ => rfl, fun h => absurd rfl h⟩
  · obtain ⟨o, n, s, kids, rfl⟩ := EL.one_of hl
    simp only [wellE, Bool.and_eq_true] at hw
    have hnode : NodeOK S o s kids := (right_pure hS (.cons o n s kids .nil) (by simp [wellE, hw.1, hw.2.1])).1.1
    have hok := node_okT hS (n := n) hw.1 hw.2.1
    show Agr _ (wrongK S 8 f (nodeG S (rowH S) o s kids)) (wrongK S 8 f (nodeG S (rowG S) o s kids))
    have hO : ownP S 8 f (.cons o n s kids .nil) = orL [(kindP S o s kids).2, plainI (kindP S o s kids).1 [2]] := rfl
    rw [hO]
    by_cases hE : (kindP S o s kids).2 = 0
    · obtain ⟨a1, a2, _⟩ := hnode.1 hE
      rw [a1, a2, hE]
      exact agr_of (if_agr _ (mem_KAs (hok hE)))
    · obtain ⟨a1, a2⟩ := hnode.2 hE
      rw [orL_head hE]
      refine agr_err ?_ a2
      rcases a1 with a | a
      · left; rw [a]; rfl
      · right; rw [a]; rfl
/-- Of a list: the first one that is refused is the first one that goes wrong. -/
theorem bad_first {S : List FieldA} (hS : schemaB S = true) {N : Nat} : ∀ (l : SL) (k : Nat), wellF N l → 
    (firstW S (rowH S) (rowG S) l k < 0 → firstBad S l k = (0, 0)) ∧ (0 ≤ firstW S (rowH S) (rowG S) l k → ((firstBad S l k).2 : Int) = firstW S (rowH S) (rowG S) l k ∧ ((firstBad S l k).1 = 90 ∨ (firstBad S l k).1 = 91 ∨ (firstBad S l k).1 = 92))
  | .nil, _, _ => ⟨fun _ => rfl, fun h => by simp [firstW] at h⟩
  | .cons op f x t e r, k, ⟨h1, h2, _, h4⟩ => by
    have ih := bad_first hS r (k + 1) h4
    obtain ⟨ha, hb⟩ := own_agr hS h1 h2
    have hw : firstW S (rowH S) (rowG S) (.cons op f x t e r) k = if wrongG S (rowH S) op f x || wrongG S (rowG S) op f x then (k : Int) else firstW S (rowH S) (rowG S) r (k + 1) := rfl
    have hf : firstBad S (.cons op f x t e r) k = if ownP S op f x ≠ 0 then (ownP S op f x, k) else firstBad S r (k + 1) := rfl
    by_cases h0 : ownP S op f x = 0
    · rw [if_neg (by simpa using h0)] at hf
      rw [ha h0, if_neg (by simp)] at hw
      rw [hw, hf]
      exact ih
    · rw [if_pos h0] at hf
      rw [(hb h0).1, if_pos rfl] at hw
      rw [hw, hf]
      exact ⟨fun h => by omega, fun _ => ⟨rfl, (hb h0).2⟩⟩
end Go.Proofs.YtoempeobaknkcaaGreatDoor
namespace Go.Proofs.YtoempeobaknkcaaGreatDoor
open Go.RowKit Go.Maps

theorem checkS_well {l : SL} (h : checkS l = 0) : wellS l = true := by
  unfold checkS at h
  split at h
  · cases h
  · rename_i h0; simpa using h0

end Go.Proofs.YtoempeobaknkcaaGreatDoor
