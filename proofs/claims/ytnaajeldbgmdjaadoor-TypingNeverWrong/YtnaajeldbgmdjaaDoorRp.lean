import Derived.Test.YtnaajeldbgmdjaaDoorJk
import Derived.Test.YtnaajeldbgmdjaaDoorJm
namespace Go.Proofs.YtnaajeldbgmdjaaDoor
open Go.RowKit Go.Maps

/-- A row's kinds are those of the fields, or none where a field is optional. -/
def RowOK (S : List FieldA) (rk : List Int) : Prop := rk.length = S.length ∧ ∀ (i : Nat) (f : FieldA) (x : Int), S[i]? = some f → rk[i]? = some x → x = f.type ∨ (x = 0 ∧ f.opt = true)
/-- A kind's value on such a row. -/
def Btw (k : KA) (x : Int) : Prop := x = k.t ∨ (x = 0 ∧ k.o = true)
def BtwL : List KA → List Int → Prop
  | [], [] => True
  | k :: ks, x :: xs => Btw k x ∧ BtwL ks xs
  | _, _ => False
theorem btw_all : ∀ {ks : List KA} {xs : List Int}, BtwL ks xs → (∀ k ∈ ks, k.o = false) → xs = ks.map KA.t
  | [], [], _, _ => rfl
  | k :: ks, x :: xs, h, hn => by
    rw [btw_all h.2 (fun q hq => hn q (by simp [hq]))]
    rcases h.1 with e | ⟨_, e⟩
    · rw [e]; rfl
    · rw [hn k (by simp)] at e; cases e
  | [], _ :: _, h, _ => h.elim
  | _ :: _, [], h, _ => h.elim
theorem gone_not {ks : List KA} (hc : (ks.map KA.gone).contains 0 = false) : ∀ k ∈ ks, k.o = false := by
  intro k hk
  cases ho : k.o with
  | false => rfl
  | true =>
    exfalso
    have : (0 : Int) ∈ ks.map KA.gone := List.mem_map.2 ⟨k, hk, by simp [KA.gone, ho]⟩
    simp at hc
    simp at this
    obtain ⟨q, hq, he⟩ := this
    exact hc q hq he
theorem work_some {S : List FieldA} {op : Int} {h : Int × Txt} {xs : List Int} {t : Int} (h20 : op ≠ 20) (hw : workG S op h xs = some t) : xs.contains 0 = false := by
  cases hc : xs.contains 0 with
  | false => rfl
  | true => rw [work_zero h20 hc] at hw; cases hw
theorem work_else {S : List FieldA} {h : Int × Txt} {ks : List KA} {xs : List Int} {t g : Int} (hb : BtwL ks xs) (hH : workG S 20 h (ks.map KA.t) = some t) (hG : workG S 20 h (ks.map KA.gone) = some g) : workG S 20 h xs = some t := by
  match ks, xs, hb with
  | [], [], _ => simp [workG] at hH
  | [a], [x], _ => simp [workG] at hH
  | a :: b :: c :: r, x :: y :: z :: q, _ => simp [workG] at hH
  | [a, b], [x, y], hb =>
    obtain ⟨h1, h2, _⟩ := hb
    unfold workG at hH hG ⊢
    simp only [if_true, List.map_cons, List.map_nil] at hH hG ⊢
    by_cases h4 : h.1 ≠ 4
    · rw [if_pos h4] at hH; cases hH
    · rw [if_neg h4] at hH hG ⊢
      cases hf : fieldOf S h.2 with
      | none => rw [hf] at hH; cases hH
      | some f =>
        rw [hf] at hH hG
        simp only [Option.bind_some] at hH hG ⊢
        have hbo : b.o = false := by
          cases ho : b.o with
          | false => rfl
          | true =>
            rw [if_pos (Or.inr (by simp [KA.gone, ho]))] at hG
            cases hG
        have hy : y = b.t := by
          rcases h2 with e | ⟨_, e⟩
          · exact e
          · rw [hbo] at e; cases e
        subst hy
        by_cases hc : f.opt = false ∨ b.t = 0
        · rw [if_pos hc] at hH; cases hH
        · rw [if_neg hc] at hH ⊢
          by_cases hd : a.t = 0 ∨ a.t = b.t
          · rw [if_pos hd] at hH
            have : x = 0 ∨ x = b.t := by
              rcases h1 with e | ⟨e, _⟩
              · rw [e]; exact hd
              · exact Or.inl e
            rw [if_pos this]
            exact hH
          · rw [if_neg hd] at hH; cases hH
theorem leaf_btw {S : List FieldA} {rk : List Int} (hr : RowOK S rk) {op : Int} {s : Txt} {t g : Int} {o : Bool} (hH : leafG S (rowH S) op s = some t) (hG : leafG S (rowG S) op s = some g) (hg : g = if o then 0 else t) : ∃ x, leafG S rk op s = some x ∧ Btw ⟨t, o⟩ x := by
  unfold leafG at hH hG ⊢
  by_cases h1 : op = 1
  · rw [if_pos h1] at hH ⊢; exact ⟨1, rfl, Or.inl (by simpa using hH)⟩
  rw [if_neg h1] at hH hG ⊢
  by_cases h2 : op = 2 ∨ op = 6
  · rw [if_pos h2] at hH ⊢; exact ⟨2, rfl, Or.inl (by simpa using hH)⟩
  rw [if_neg h2] at hH hG ⊢
  by_cases h3 : op = 3
  · rw [if_pos h3] at hH ⊢; exact ⟨3, rfl, Or.inl (by simpa using hH)⟩
  rw [if_neg h3] at hH hG ⊢
  by_cases h4 : op = 4
  · rw [if_pos h4] at hH hG ⊢
    cases hi : idxF S s with
    | none => rw [hi] at hH; cases hH
    | some i =>
      rw [hi] at hH hG
      simp only [Option.bind_some] at hH hG ⊢
      cases hf : S[i]? with
      | none => rw [rowH, List.getElem?_map, hf] at hH; cases hH
      | some f =>
        rw [rowH, List.getElem?_map, hf] at hH
        rw [rowG, List.getElem?_map, hf] at hG
        simp at hH hG
        obtain ⟨x, hx⟩ : ∃ x, rk[i]? = some x := ⟨_, List.getElem?_eq_getElem (by rw [hr.1]; exact get_lt hf)⟩
        refine ⟨x, hx, ?_⟩
        rcases hr.2 i f x hf hx with e | ⟨e, ho⟩
        · exact Or.inl (e.trans hH)
        · rw [ho] at hG
          simp at hG
          cases o with
          | true => exact Or.inr ⟨e, rfl⟩
          | false =>
            simp at hg
            exact Or.inl (by show x = t; omega)
  rw [if_neg h4] at hH ⊢
  cases hf : fieldOf S s with
  | none => rw [hf] at hH; cases hH
  | some f =>
    rw [hf] at hH
    simp only [Option.bind_some] at hH ⊢
    cases ho : f.opt with
    | false => rw [ho] at hH; simp at hH
    | true => rw [ho] at hH; simp at hH; exact ⟨2, rfl, Or.inl hH⟩
theorem btw_list {S : List FieldA} (hS : schemaB S = true) {rk : List Int} (hr : RowOK S rk) : ∀ l : EL, wellE l = true → (kindsP S l).2 = 0 → ∃ xs, goG S rk l = some xs ∧ BtwL (kindsP S l).1 xs
  | .nil, _, _ => ⟨[], rfl, trivial⟩
  | .cons op n s kids rest, hw, h0 => by
    have hall := (right_pure hS _ hw).1.1
    have ihk := btw_list hS hr kids
    have ihr := btw_list hS hr rest
    have hwell := hw
    simp only [wellE, Bool.and_eq_true] at hwell
    rw [kindsP_cons] at h0 ⊢
    by_cases hk : (kindP S op s kids).2 = 0
    · rw [if_neg (by simpa using hk)] at h0 ⊢
      by_cases hrr : (kindsP S rest).2 = 0
      · rw [if_neg (by simpa using hrr)] at h0 ⊢
        obtain ⟨ys, hys, hby⟩ := ihr hwell.2.2 hrr
        obtain ⟨g1, g2, _⟩ := hall.1 hk
        suffices hnode : ∃ x, nodeG S rk op s kids = some x ∧ Btw (kindP S op s kids).1 x by
          obtain ⟨x, hx, hbx⟩ := hnode
          refine ⟨x :: ys, ?_, hbx, hby⟩
          rw [goG_cons, hx, hys]
          rfl
        unfold nodeG at g1 g2 ⊢
        by_cases h6 : op ≤ 6
        · rw [if_pos h6] at g1 g2 ⊢
          exact leaf_btw hr g1 g2 rfl
        · rw [if_neg h6] at g1 g2 ⊢
          have hkk : (kindsP S kids).2 = 0 := by
            have h := hk
            unfold kindP at h
            by_cases hz : (kindsP S kids).2 = 0
            · exact hz
            · rw [if_pos hz] at h; exact absurd h hz
          obtain ⟨xs, hxs, hbx⟩ := ihk hwell.2.1 hkk
          have hlk := (right_pure hS _ hwell.2.1).2.1 hkk
          rw [hlk.1] at g1
          rw [hlk.2] at g2
          simp only [Option.bind_some] at g1 g2
          rw [hxs]
          simp only [Option.bind_some]
          by_cases h20 : op = 20
          · subst h20
            exact ⟨_, work_else hbx g1 g2, Or.inl rfl⟩
          · have hno := gone_not (work_some h20 g2)
            rw [btw_all hbx hno]
            exact ⟨_, g1, Or.inl rfl⟩
      · rw [if_pos hrr] at h0; exact absurd h0 hrr
    · rw [if_pos hk] at h0; exact absurd h0 hk
theorem btw_node {S : List FieldA} (hS : schemaB S = true) {rk : List Int} (hr : RowOK S rk) {op n : Int} {s : Txt} {kids : EL} (hw : wellE (.cons op n s kids .nil) = true) (h0 : (kindP S op s kids).2 = 0) : ∃ x, nodeG S rk op s kids = some x ∧ Btw (kindP S op s kids).1 x := by
  obtain ⟨xs, hxs, hb⟩ := btw_list hS hr (.cons op n s kids .nil) hw (by rw [kindsP_cons]; simp [h0, kindsP])
  rw [goG_cons] at hxs
  rw [kindsP_cons] at hb
  simp [h0, kindsP] at hb
  cases hn : nodeG S rk op s kids with
  | none => rw [hn] at hxs; cases hxs
  | some x =>
    rw [hn] at hxs
    simp [goG] at hxs
    subst hxs
    exact ⟨x, rfl, hb.1⟩

end Go.Proofs.YtnaajeldbgmdjaaDoor
