import Derived.Test.YtafniangljmjeaaDoorJh
import Derived.Test.YtafniangljmjeaaDoorWd
import Derived.Test.YtafniangljmjeaaDoorNi
import Derived.Test.YtafniangljmjeaaDoorJc
namespace Go.Proofs.YtafniangljmjeaaDoor
open Go.RowKit Go.Maps
theorem brings_more {S : List FieldA} {l : List ValA} {hv : List (Bool × List Int)} {z : Bool × List Int} {i t : Nat} (h : i < hv.length) : bringsB S l (hv ++ [z]) i t = bringsB S l hv i t := by
  unfold bringsB
  rw [List.getElem?_append_left h]
theorem pull_more (S : List FieldA) (l : List ValA) (hv : List (Bool × List Int)) (z : Bool × List Int) (t : Nat) : ∀ k, k ≤ hv.length → pullB S l (hv ++ [z]) t k = pullB S l hv t k
  | 0, _ => rfl
  | k + 1, h => by rw [pullB, pullB, brings_more (by omega), pull_more S l hv z t k (by omega)]
/-- What was brought to a place is what stands there. -/
theorem pull_brought {S : List FieldA} {l : List ValA} {hv : List (Bool × List Int)} {t : Nat} : ∀ {k : Nat} {z : Bool × List Int}, pullB S l hv t k = some z → ∀ i st, i < k → bringsB S l hv i t = some st → z = (true, st)
  | 0, _, _, _, _, hi, _ => absurd hi (Nat.not_lt_zero _)
  | k + 1, z, h, i, st, hi, hb => by
    rw [pullB] at h
    cases hp : pullB S l hv t k with
    | none => rw [hp] at h; cases h
    | some y =>
      obtain ⟨r, s0⟩ := y
      rw [hp] at h
      by_cases hik : i = k
      · subst hik
        rw [hb] at h
        simp only at h
        split at h
        · cases h
        · cases h; rfl
      · have ih := pull_brought hp i st (by omega) hb
        cases ih
        cases hbk : bringsB S l hv k t with
        | none => rw [hbk] at h; cases h; rfl
        | some st2 =>
          rw [hbk] at h
          simp only [true_and] at h
          by_cases he : st = st2
          · subst he; simp at h; exact h.symm
          · rw [if_pos he] at h; cases h
/-- The places of a code that passes. -/
structure HvOK (S : List FieldA) (l : List ValA) (hv : List (Bool × List Int)) : Prop where
  len : hv.length = l.length + 1
  small : ∀ (k : Nat) (z : Bool × List Int), hv[k]? = some z → z.2.length ≤ 16 ∧ ∀ k ∈ z.2, isK k
  beh : ∀ (k : Nat) (st : List Int), k < l.length → hv[k]? = some (true, st) → ∃ x st', l[k]? = some x ∧ behB S x st = some st'
  pull : ∀ (j : Nat) (z : Bool × List Int), hv[j]? = some z → pullB S l hv j j = some z
  last : ∀ st, hv[l.length]? = some (true, st) → st = []
theorem brings_small {S : List FieldA} {l : List ValA} {hv : List (Bool × List Int)} {i t : Nat} {st : List Int} (hS : ∀ f ∈ S, isK f.type) (hF : ∀ i ∈ l, formB i = 0 ∧ rightF S i = true) (hg : ∀ (k : Nat) (z : Bool × List Int), hv[k]? = some z → z.2.length ≤ 16 ∧ ∀ k ∈ z.2, isK k) (h : bringsB S l hv i t = some st) : st.length ≤ 16 ∧ ∀ k ∈ st, isK k := by
  unfold bringsB at h
  split at h
  · rename_i s0 x h1 h2
    split at h
    · obtain ⟨hf, hr⟩ := hF x (List.mem_of_getElem? h2)
      exact ⟨behB_le h, behB_isK hS hf hr (hg i _ h1).2 h⟩
    · cases h
  · cases h
theorem pull_small {S : List FieldA} {l : List ValA} {hv : List (Bool × List Int)} {t : Nat} (hS : ∀ f ∈ S, isK f.type) (hF : ∀ i ∈ l, formB i = 0 ∧ rightF S i = true) (hg : ∀ (k : Nat) (z : Bool × List Int), hv[k]? = some z → z.2.length ≤ 16 ∧ ∀ k ∈ z.2, isK k) : ∀ {k : Nat} {z : Bool × List Int}, pullB S l hv t k = some z → z.2.length ≤ 16 ∧ ∀ k ∈ z.2, isK k
  | 0, z, h => by rw [pullB] at h; cases h; exact ⟨Nat.zero_le _, fun _ q => by cases q⟩
  | k + 1, z, h => by
    rw [pullB] at h
    cases hp : pullB S l hv t k with
    | none => rw [hp] at h; cases h
    | some y =>
      obtain ⟨r, s0⟩ := y
      rw [hp] at h
      cases hbk : bringsB S l hv k t with
      | none => rw [hbk] at h; cases h; exact pull_small hS hF hg hp
      | some st2 =>
        rw [hbk] at h
        simp only at h
        split at h
        · cases h
        · cases h; exact brings_small hS hF hg hbk
theorem snoc_all {α : Type} {P : Nat → α → Prop} {hv : List α} {z : α} (h : ∀ k y, hv[k]? = some y → P k y) (hz : P hv.length z) : ∀ k y, (hv ++ [z])[k]? = some y → P k y := by
  intro k y hy
  by_cases hk : k < hv.length
  · rw [List.getElem?_append_left hk] at hy; exact h k y hy
  · rw [List.getElem?_append_right (by omega)] at hy
    cases hj : k - hv.length with
    | zero =>
      rw [hj] at hy
      simp at hy
      subst hy
      rwa [show k = hv.length by omega]
    | succ j => rw [hj] at hy; simp at hy
theorem pullA_ok {S : List FieldA} {l : List ValA} (hS : ∀ f ∈ S, isK f.type) (hF : ∀ i ∈ l, formB i = 0 ∧ rightF S i = true) : ∀ (rest : List ValA) (k : Nat) (hv hv' : List (Bool × List Int)), rest = l.drop k → k ≤ l.length → hv.length = k →
    (∀ (k : Nat) (z : Bool × List Int), hv[k]? = some z → z.2.length ≤ 16 ∧ ∀ k ∈ z.2, isK k) → (∀ (k : Nat) (st : List Int), hv[k]? = some (true, st) → ∃ x st', l[k]? = some x ∧ behB S x st = some st') → (∀ (j : Nat) (z : Bool × List Int), hv[j]? = some z → pullB S l hv j j = some z) →
    pullA S l k rest hv = (some hv', 0, 0) → HvOK S l hv'
  | [], k, hv, hv', hr, hkl, hlen, hsm, hbe, hpl, h => by
    have hk : k = l.length := by
      have := congrArg List.length hr
      rw [List.length_drop] at this
      simp at this
      omega
    rw [pullA_nil] at h
    cases hp : pullB S l hv k k with
    | none => rw [hp] at h; cases h
    | some z =>
      rw [hp] at h
      simp only at h
      split at h
      · cases h
      · rename_i hz
        cases h
        have hz2 := pull_small hS hF hsm hp
        refine ⟨by simp; omega, snoc_all hsm hz2, ?_, ?_, ?_⟩
        · intro j st hj hy
          rw [List.getElem?_append_left (by omega)] at hy
          exact hbe j st hy
        · refine snoc_all (P := fun j y => pullB S l (hv ++ [z]) j j = some y) (fun j y hy => ?_) ?_
          · have := (List.getElem?_eq_some_iff.1 hy).1
            rw [pull_more S l hv z j j (by omega)]; exact hpl j y hy
          · rw [pull_more S l hv z _ _ (Nat.le_refl _), hlen]; exact hp
        · intro st hst
          rw [← hk, List.getElem?_append_right (by omega), hlen, Nat.sub_self] at hst
          simp at hst
          subst hst
          by_cases hs : st = []
          · exact hs
          · exact absurd ⟨rfl, hs⟩ hz
  | x :: rest, k, hv, hv', hr, hkl, hlen, hsm, hbe, hpl, h => by
    have hkl' : k < l.length := by
      have := congrArg List.length hr
      rw [List.length_drop] at this
      simp at this
      omega
    have hx : l[k]? = some x ∧ rest = l.drop (k + 1) := by
      rw [List.drop_eq_getElem_cons hkl'] at hr
      simp only [List.cons.injEq] at hr
      exact ⟨by rw [List.getElem?_eq_getElem hkl', hr.1], hr.2⟩
    obtain ⟨hxk, hrest⟩ := hx
    rw [pullA_cons] at h
    cases hp : pullB S l hv k k with
    | none => rw [hp] at h; cases h
    | some z =>
      rw [hp] at h
      simp only at h
      split at h
      · cases h
      · rename_i hz
        have hz2 := pull_small hS hF hsm hp
        refine pullA_ok hS hF rest (k + 1) (hv ++ [z]) hv' hrest hkl' (by simp [hlen]) (snoc_all hsm hz2) ?_ ?_ h
        · intro j st hy
          refine snoc_all (P := fun j y => ∀ st, y = (true, st) → ∃ x st', l[j]? = some x ∧ behB S x st = some st') (fun j y hy st e => hbe j st (e ▸ hy)) (fun st e => ?_) j _ hy st rfl
          subst e
          rw [hlen]
          cases hb : behB S x st with
          | none => exact absurd ⟨rfl, hb⟩ hz
          | some st' => exact ⟨x, st', hxk, hb⟩
        · refine snoc_all (P := fun j y => pullB S l (hv ++ [z]) j j = some y) (fun j y hy => ?_) ?_
          · have := (List.getElem?_eq_some_iff.1 hy).1
            rw [pull_more S l hv z j j (by omega)]; exact hpl j y hy
          · rw [pull_more S l hv z _ _ (Nat.le_refl _), hlen]; exact hp
theorem pullA_first {S : List FieldA} {l : List ValA} {hv : List (Bool × List Int)} (h : HvOK S l hv) : hv[0]? = some (true, []) := by
  have h0 : 0 < hv.length := by rw [h.len]; omega
  have := h.pull 0 _ (List.getElem?_eq_getElem h0)
  rw [pullB] at this
  rw [List.getElem?_eq_getElem h0, ← this]
  rfl
/-- Where an instruction leads, the stack is the one behind it. -/
theorem HvOK.next {S : List FieldA} {l : List ValA} {hv : List (Bool × List Int)} (h : HvOK S l hv) {k t : Nat} {x : ValA} {st st' : List Int} (hk : hv[k]? = some (true, st)) (hx : l[k]? = some x) (hb : behB S x st = some st') (hl : leadsB k x t = true) (ht : t ≤ l.length) : hv[t]? = some (true, st') := by
  have hkt : k < t := by
    unfold leadsB at hl
    simp at hl
    omega
  have h0 : t < hv.length := by rw [h.len]; omega
  have hz := List.getElem?_eq_getElem h0
  have hp := h.pull t _ hz
  have hbr : bringsB S l hv k t = some st' := by
    unfold bringsB
    rw [hk, hx]
    simp [hl, hb]
  rw [hz, pull_brought hp k st' hkt hbr]
theorem deepH_le {hv : List (Bool × List Int)} {k : Nat} {z : Bool × List Int} (h : hv[k]? = some z) : z.2.length ≤ deepH hv := by
  have key : ∀ (l : List (Bool × List Int)) (d : Nat), d ≤ l.foldl (fun d z => max d z.2.length) d ∧ ∀ z ∈ l, z.2.length ≤ l.foldl (fun d z => max d z.2.length) d := by
    intro l
    induction l with
    | nil => intro d; exact ⟨Nat.le_refl _, fun z hz => by cases hz⟩
    | cons a r ih =>
      intro d
      have := ih (max d a.2.length)
      refine ⟨Nat.le_trans (Nat.le_max_left _ _) this.1, fun z hz => ?_⟩
      rcases List.mem_cons.1 hz with rfl | hz
      · exact Nat.le_trans (Nat.le_max_right _ _) this.1
      · exact this.2 z hz
  exact (key hv 0).2 z (List.mem_of_getElem? h)

end Go.Proofs.YtafniangljmjeaaDoor
namespace Go.Proofs.YtafniangljmjeaaDoor
open Go.RowKit Go.Maps
/-- The text of a place's types. -/
def txtP (r : Bool) (st : List Int) : Txt := if r = true then st.map letR else [45]
def rowK (st : List Int) (k : Nat) : List Value := ((st.take k).map fun x => Value.int .u8 (num (letR x))) ++ List.replicate (st.length - k) (.int .u8 0)
theorem rowK_length {st : List Int} {k : Nat} (h : k ≤ st.length) : (rowK st k).length = st.length := by simp [rowK]; omega
theorem rowK_set {st : List Int} {k : Nat} {x : Int} (h : st[k]? = some x) : (rowK st k).set k (.int .u8 (num (letR x))) = rowK st (k + 1) := by
  have hk := (List.getElem?_eq_some_iff.1 h).1
  unfold rowK
  rw [take_snoc st k x h, show st.length - k = (st.length - (k + 1)) + 1 by omega, List.replicate_succ]
  rw [List.set_append_right _ _ (by simp; omega)]
  simp [Nat.min_eq_left (Nat.le_of_lt hk)]
theorem rowK_end (st : List Int) : rowK st st.length = bs (st.map letR) := by
  unfold rowK
  rw [Nat.sub_self, List.take_length]
  simp [bs]
set_option maxRecDepth 100000 in
set_option maxHeartbeats 2000000 in
theorem typesText_v (r u : Bool) (st : List Int) (sv : Value) (w : World) (h : KsAt w sv st) (hl : st.length ≤ 16) (hk : r = true → ∀ k ∈ st, isK k) :
    Calls Tryd.prog 35 #[.agg #[.bool r, sv, .bool u]] w fun e w' => e = .returned (str (txtP r st)) ∧ Keeps (fun _ => False) w w' := by
  obtain ⟨ao, cap, rfl⟩ := RowAt.form h
  obtain ⟨HB, hbb, hbc⟩ := boxed w #[.bool r, .slice ao st.length cap, .bool u] 68
  have s0 := hbc 0 (.bool r) rfl
  have s1 := hbc 1 (.slice ao st.length cap) rfl
  have s2 := hbc 2 (.bool u) rfl
  have HV := hide (h.keepF (unhide HB))
  have HKK := hide hk
  clear hbc h hk
  cases r with
  | false =>
    go_enter Tryd.func35, Tryd.ntmps35
    go_wp2_with fail
    go_ret
    exact ⟨rfl, unhide HB⟩
  | true =>
    generalize hWb : w.alloc (.cells #[.bool true, .slice ao st.length cap, .bool u] 68) = Wb at *
    have hmk := run_mkb st.length st.length (Nat.le_refl _) (by omega)
    have HO := hide (owns_made Wb st.length st.length (Nat.le_refl _) (by omega))
    have HK0 := hide ((Keeps.refl (fun _ => False) Wb).alloc (.cells (madeCells #[.int .u8 0] st.length) 5))
    go_enter Tryd.func35, Tryd.ntmps35
    go_wp2_with fail
    clear hmk hWb
    have hO0 : (Wb.alloc (.cells (madeCells #[.int .u8 0] st.length) 5)).ownsRow Wb.heap.size 5 1 (.slice (some ⟨Wb.heap.size, 0, none⟩) st.length st.length) st.length (rowK st 0) := by
      have := unhide HO
      simpa [rowK] using this
    have HO0 := hide hO0
    clear hO0 HO
    generalize hg : Wb.heap.size = g at *
    generalize Wb.alloc (.cells (madeCells #[.int .u8 0] st.length) 5) = W1 at *
    go_loopw [16] (fun i wr => ∃ k : Nat, k ≤ st.length ∧ i = .int .i64 k ∧ wr.ownsRow g 5 1 (.slice (some ⟨g, 0, none⟩) st.length st.length) st.length (rowK st k) ∧ Keeps (fun _ => False) Wb wr) (fun i _ => st.length - (intOf i).toNat)
    case atStart => exact ⟨0, Nat.zero_le _, rfl, unhide HO0, unhide HK0⟩
    case round =>
      obtain ⟨k, hk, rfl, ho, hkp⟩ := hrel
      by_cases hlt : k < st.length
      · obtain ⟨x, hx⟩ : ∃ x, st[k]? = some x := ⟨_, List.getElem?_eq_getElem hlt⟩
        obtain ⟨b, off, c, ee, hbl, hc⟩ := (unhide HV).cells (by omega)
        simp at ee
        obtain ⟨rfl, rfl⟩ := ee
        have c0 := (hkp.cell hbl id).trans (hc k x hx)
        have f0 := ho.frozenAt k
        obtain ⟨dd, d0⟩ : ∃ dd, wr.cell? ⟨g, k, none⟩ = some dd := ⟨_, (ho.cellAt k (by omega)).trans (List.getElem?_eq_getElem (by rw [rowK_length hk]; exact hlt))⟩
        have HST := hide ((ho.stored k (.int .u8 (num (letR x)))).1)
        rw [rowK_set hx] at HST
        have HKS := hide (hkp.then (keeps_set wr g k (.int .u8 (num (letR x)))) (fun i hi q => by omega))
        have i2 : (k : Int) < (st.length : Int) := by omega
        have i0' : (0 : Int) ≤ (k : Int) := by omega
        have hxK := (unhide HKK) trivial x (List.mem_of_getElem? hx)
        clear hc hx hkp ho
        rcases hxK with rfl | rfl | rfl
        all_goals
          go_wp2_with fail
          go_roundw
          case rel => exact ⟨k + 1, by omega, by go_num, unhide HST, unhide HKS⟩
          case measure => simp [intOf]; omega
      · obtain rfl : k = st.length := by omega
        have i2 : ¬ (st.length : Int) < (st.length : Int) := by omega
        have hcv : (convert 23 9 (.slice (some ⟨g, 0, none⟩) st.length st.length)).run Tryd.prog wr = .ok (str (st.map letR)) wr := by
          have q := conv_bytes wr g st.length (st.map letR) (fun j ch hj => by
            have hjl := (List.getElem?_eq_some_iff.1 hj).1
            rw [List.length_map] at hjl
            rw [ho.cellAt j (by omega), rowK_end]
            simp only [bs, List.getElem?_map, hj, Option.map_some]
            )
          rwa [List.length_map] at q
        have HKE := hide hkp
        clear hlt ho hkp
        go_wp2_with fail
        go_ret
        exact ⟨rfl, (unhide HB).trans (unhide HKE)⟩

end Go.Proofs.YtafniangljmjeaaDoor
namespace Go.Proofs.YtafniangljmjeaaDoor
open Go.RowKit Go.Maps
theorem runA_len {S : List FieldA} : ∀ {rest : List ValA} {k : Nat} {ps : List PlA}, (∃ k', runA S k rest ps = (none, k', 112)) ∨ ∃ ps', runA S k rest ps = (some ps', 0, 0) ∧ ps'.length = ps.length
  | [], k, ps => by
    rw [runA]
    split
    · exact Or.inl ⟨_, rfl⟩
    · exact Or.inr ⟨_, rfl, rfl⟩
  | x :: rest, k, ps => by
    rw [runA]
    cases hs : stepA S k x ps with
    | none => exact Or.inl ⟨_, rfl⟩
    | some ps1 =>
      simp only
      have hl : ps1.length = ps.length := by
        unfold stepA at hs
        split at hs
        · cases hs; rfl
        · split at hs
          · cases hs
          · split at hs
            · cases hs
            · simp only [Option.some.injEq] at hs
              subst hs
              split <;> split <;> simp [bringAt_length]
      rcases runA_len (S := S) (rest := rest) (k := k + 1) (ps := ps1) with h | ⟨ps', h, h2⟩
      · exact Or.inl h
      · exact Or.inr ⟨ps', h, h2.trans hl⟩
/-- What look tells: what is wrong; or the places, which are right. -/
theorem look_tells (S : List FieldA) (l : List ValA) : (∃ k e, lookA S l = (none, k, e) ∧ e ≠ 0) ∨ ∃ ps, lookA S l = (some ps, 0, 0) ∧ pullA S l 0 l [] = (some (ps.map pairP), 0, 0) ∧ HvOK S l (ps.map pairP) ∧ ps.length = l.length + 1 ∧ l.length ≤ 96 ∧ (∀ f ∈ S, isK f.type) ∧ (∀ i ∈ l, formB i = 0 ∧ rightF S i = true) ∧ (∀ k i, l[k]? = some i → (opA i.kind).opd = 6 → k + 1 + i.n.toNat ≤ l.length) := by
  unfold lookA
  by_cases h1 : errS S = 0
  · rw [if_neg (show ¬ errS S ≠ 0 from fun q => q h1)]
    by_cases h2 : (checkI S l).2 = 0
    · rw [if_neg (show ¬ (checkI S l).2 ≠ 0 from fun q => q h2)]
      by_cases h3 : (checkT l).2 = 0
      · rw [if_neg (show ¬ (checkT l).2 ≠ 0 from fun q => q h3)]
        obtain ⟨hl, hF⟩ := checkI_zero h2
        have hT := checkT_zero h3
        have hS := schema_isK h1
        obtain ⟨ha, hb⟩ := run_pull S l (fun i hi => (opd_kind _ (op_cases (formB_zero (hF i hi).1).1)).2.2.1) l 0 [] (startA l) rfl (Nat.zero_le _) rfl (by unfold startA; rw [bringAt_length, List.length_replicate]) (fun t ht => startA_get S l t ht) (fun j hj => absurd hj (Nat.not_lt_zero _))
        rcases runA_len (S := S) (rest := l) (k := 0) (ps := startA l) with ⟨k', h⟩ | ⟨ps, h, hps⟩
        · exact Or.inl ⟨k', 112, h, by decide⟩
        · rw [h] at ha hb
          have hpa : pullA S l 0 l [] = (some (ps.map pairP), 0, 0) := by
            apply Prod.ext
            · exact hb.symm
            · exact ha.symm
          refine Or.inr ⟨ps, h, hpa, pullA_ok hS hF l 0 [] _ rfl (Nat.zero_le _) rfl (fun k z q => by simp at q) (fun k z q => by simp at q) (fun k z q => by simp at q) hpa, ?_, hl, hS, hF, hT⟩
          rw [hps]; unfold startA; rw [bringAt_length, List.length_replicate]
      · rw [if_pos h3]; exact Or.inl ⟨_, _, rfl, h3⟩
    · rw [if_pos h2]; exact Or.inl ⟨_, _, rfl, h2⟩
  · rw [if_pos h1]; exact Or.inl ⟨_, _, rfl, by decide⟩
def txts (ps : List PlA) : List Value := ps.map fun p => str (txtP p.r p.st)
def rowT (ps : List PlA) (k : Nat) : List Value := txts (ps.take k) ++ List.replicate (ps.length - k) (.string ⟨#[]⟩)
theorem rowT_length {ps : List PlA} {k : Nat} (h : k ≤ ps.length) : (rowT ps k).length = ps.length := by simp [rowT, txts]; omega
theorem rowT_set {ps : List PlA} {k : Nat} {x : PlA} (h : ps[k]? = some x) : (rowT ps k).set k (str (txtP x.r x.st)) = rowT ps (k + 1) := by
  have hk := (List.getElem?_eq_some_iff.1 h).1
  unfold rowT
  rw [take_snoc ps k x h, show ps.length - k = (ps.length - (k + 1)) + 1 by omega, List.replicate_succ]
  rw [List.set_append_right _ _ (by simp [txts]; omega)]
  simp [txts, Nat.min_eq_left (Nat.le_of_lt hk)]
theorem rowT_end (ps : List PlA) : rowT ps ps.length = txts ps := by
  unfold rowT
  rw [Nat.sub_self, List.take_length]
  simp
theorem run_mks (n : Nat) (hn : n ≤ 1024) (w : World) : (Instr.makeSlice 46 (.int .i64 (n : Int)) (.int .i64 (n : Int))).run Tryd.prog w = .ok (.slice (some ⟨w.heap.size, 0, none⟩) n n) (w.alloc (.cells (madeCells #[.string ⟨#[]⟩] n) 9)) := by
  obtain ⟨i0, hi, hz0, hz1, hz2⟩ := info_parts Tryd.info9s
  have q := run_make (P := Tryd.prog) w 46 9 i0 (.string ⟨#[]⟩) Tryd.underlying46 hi hz0 .i64 .i64 (n : Int) (n : Int) (by omega) (by omega) (by rw [hz2]; omega) (by omega)
  rw [hz1] at q
  simpa [Value.cells] using q
theorem owns_mks (w : World) (n : Nat) (hn : n ≤ 1024) : (w.alloc (.cells (madeCells #[.string ⟨#[]⟩] n) 9)).ownsRow w.heap.size 9 1 (.slice (some ⟨w.heap.size, 0, none⟩) n n) n (List.replicate n (.string ⟨#[]⟩)) := by
  have := World.ownsRow_lit (base := w.heap.size) (e := 9) (size := 1) w (madeCells #[.string ⟨#[]⟩] n) n (Nat.le_refl _) (by unfold maxLen; omega) (by rw [size_madeCells]; omega)
  rwa [toList_madeCells_one] at this
/-- What Types answers. -/
def Texted (w : World) (vt : Value) : Option (List PlA) → Prop
  | none => vt = .slice none 0 0
  | some ps => w.ownsRow 0 9 1 vt ps.length (txts ps)
set_option maxRecDepth 100000 in
set_option maxHeartbeats 2000000 in
theorem types_v (S : List FieldA) (so : Option Addr) (sc : Nat) (l : List ValA) (v : Value) (w : World) (hO : Ops w) (hT : Types w) (hS : FldsAt w (.slice so S.length sc) S) (h : ValsAt w v l) (hI : InR l) :
    Calls Tryd.prog 23 #[.agg #[.slice so S.length sc], v] w fun e w' => ∃ vt, e = .returned (.tuple #[vt, .int .i64 (lookA S l).2.2]) ∧ Texted w' vt (lookA S l).1 ∧ Keeps (fun _ => False) w w' := by
  obtain ⟨ao, cap, rfl⟩ := RowAt.form h
  obtain ⟨HB, hbb, hbc⟩ := boxed w #[.slice so S.length sc] 39
  have s0 := hbc 0 (.slice so S.length sc) rfl
  have HQ := hide (look_v S so sc l _ _ (hO.keepF (unhide HB)) (hT.keepF (unhide HB)) (hS.keepF (unhide HB)) (h.keepF (unhide HB)) hI)
  have HTL := hide (look_tells S l)
  generalize lookA S l = R at *
  generalize hWb : w.alloc (.cells #[.slice so S.length sc] 39) = Wb at *
  clear hbc h hO hS hI hT
  go_enter Tryd.func23, Tryd.ntmps23
  go_wp2_with fail
  refine (unhide HQ).mono ?_
  rintro e w1 ⟨pv, rfl, hfo, hk1⟩
  have HK1 := hide ((unhide HB).trans hk1)
  clear hk1 HQ
  rcases unhide HTL with ⟨k', e', rfl, he'⟩ | ⟨ps, rfl, q1, hok, hpl, hl96, q2, q3, q4⟩
  · obtain rfl : pv = .slice none 0 0 := hfo
    have be : (e' != 0) = true := by rw [bne_iff_ne]; exact he'
    clear HTL he'
    simp only
    go_wp2_with fail
    go_ret2
    exact ⟨_, rfl, rfl, unhide HK1⟩
  · obtain ⟨pb, rfl, hpb, hpls, hpn⟩ := hfo
    have HP := hide hpls
    have HSM := hide hok.small
    have hmk := run_mks ps.length (by omega)
    have HO0 := hide (owns_mks w1 ps.length (by omega))
    have HK0 := hide ((Keeps.refl (fun _ => False) w1).alloc (.cells (madeCells #[.string ⟨#[]⟩] ps.length) 9))
    simp only
    rw [← hpl, show ((0 : Nat) : Int) = 0 from rfl]
    have hN : ps.length ≤ 97 := by omega
    have HWB : Hid (Wb.heap.size ≤ pb) := hpb
    clear HTL hok hpls hpl hpn q1 q2 q3 q4 hpb
    go_wp2_with fail
    clear hmk
    have hO1 : (w1.alloc (.cells (madeCells #[.string ⟨#[]⟩] ps.length) 9)).ownsRow w1.heap.size 9 1 (.slice (some ⟨w1.heap.size, 0, none⟩) ps.length ps.length) ps.length (rowT ps 0) := by
      have := unhide HO0
      simpa [rowT, txts] using this
    have HO1 := hide hO1
    clear hO1 HO0
    generalize hg : w1.heap.size = g at *
    generalize w1.alloc (.cells (madeCells #[.string ⟨#[]⟩] ps.length) 9) = W1 at *
    go_loopw [27] (fun i wr => ∃ k : Nat, k ≤ ps.length ∧ i = .int .i64 k ∧ wr.ownsRow g 9 1 (.slice (some ⟨g, 0, none⟩) ps.length ps.length) ps.length (rowT ps k) ∧ Keeps (fun _ => False) w1 wr) (fun i _ => ps.length - (intOf i).toNat)
    case atStart => exact ⟨0, Nat.zero_le _, rfl, unhide HO1, unhide HK0⟩
    case round =>
      obtain ⟨k, hk, rfl, ho, hkp⟩ := hrel
      by_cases hlt : k < ps.length
      · obtain ⟨P, hP⟩ : ∃ P, ps[k]? = some P := ⟨_, List.getElem?_eq_getElem hlt⟩
        obtain ⟨hP16, p0, p2, pv, p1, hown⟩ := ((unhide HP).keepF hkp).at' k P hP
        obtain ⟨po, pc, rfl⟩ := (rowAt_own hown).form
        obtain ⟨HY, hyb, hyc⟩ := boxed wr #[.bool P.r, .slice po P.st.length pc, .bool P.u] 68
        have b0 := hyc 0 (.bool P.r) rfl
        have b1 := hyc 1 (.slice po P.st.length pc) rfl
        have b2 := hyc 2 (.bool P.u) rfl
        have HKY := hide (hkp.trans (unhide HY))
        have HOY := hide (ownsRow_kept ho (unhide HY) (fun _ _ => id))
        have hsm := (unhide HSM) k (P.r, P.st) (by rw [List.getElem?_map, hP]; rfl)
        generalize hWY : wr.alloc (.cells #[.bool P.r, .slice po P.st.length pc, .bool P.u] 68) = WY at *
        have HQ := hide (typesText_v P.r P.u P.st (.slice po P.st.length pc) WY (rowAt_own (ownsRow_kept hown (unhide HY) (fun _ _ => id))) hP16 (fun _ => hsm.2))
        have HSET := hide (rowT_set hP)
        have i2 : (k : Int) < (ps.length : Int) := by omega
        have i0' : (0 : Int) ≤ (k : Int) := by omega
        generalize txtP P.r P.st = TX at *
        obtain ⟨Pr, Pst, Pu⟩ := P
        simp only at *
        clear hyc hkp hown ho HY hP hsm
        go_wp2_with fail
        refine (unhide HQ).mono ?_
        rintro e w3 ⟨rfl, hk3⟩
        have HK3 := hide ((unhide HKY).trans hk3)
        have ho3 := ownsRow_kept (unhide HOY) hk3 (fun _ _ => id)
        have f3 := ho3.frozenAt k
        obtain ⟨dd, d3⟩ : ∃ dd, w3.cell? ⟨g, k, none⟩ = some dd := ⟨_, (ho3.cellAt k (by omega)).trans (List.getElem?_eq_getElem (by rw [rowT_length hk]; exact hlt))⟩
        have HST := hide ((ho3.stored k (str TX)).1)
        rw [unhide HSET] at HST
        have HKS := hide ((unhide HK3).then (keeps_set w3 g k (str TX)) (fun i hi q => by omega))
        clear hk3 ho3 HQ HSET
        go_wp2_with fail
        go_roundw
        case rel => exact ⟨k + 1, by omega, by go_num, unhide HST, unhide HKS⟩
        case measure => simp [intOf]; omega
      · obtain rfl : k = ps.length := by omega
        have i2 : ¬ (ps.length : Int) < (ps.length : Int) := by omega
        have HE := hide ho
        have HKE := hide hkp
        rw [rowT_end] at HE
        clear hlt ho hkp
        go_wp2_with fail
        go_ret2
        exact ⟨_, rfl, ownsRow_lower (unhide HE) (Nat.zero_le _), (unhide HK1).trans (unhide HKE)⟩

end Go.Proofs.YtafniangljmjeaaDoor
namespace Go.Proofs.YtafniangljmjeaaDoor
open Go.RowKit Go.Maps
theorem BlsAt.keepF {w w' : World} {v : Value} {l : List Bool} (h : BlsAt w v l) (hk : Keeps (fun _ => False) w w') : BlsAt w' v l := RowAt.keepF h hk
set_option maxRecDepth 100000 in
set_option maxHeartbeats 4000000 in
theorem paths_walk (S : List FieldA) (so : Option Addr) (sc : Nat) (hSl : S.length ≤ 4398046511104) (l : List ValA) (hl : l.length ≤ 4398046511104) (hI : InR l) (cs : List Bool) (hcs : cs.length ≤ 140737488355328) (v u : Value) (w : World) (hE : Env w) (hS : FldsAt w (.slice so S.length sc) S) (h : ValsAt w v l) (hC : BlsAt w u cs) :
    Calls Tryd.prog 8 #[.agg #[.slice so S.length sc], v, u] w fun e w' => e = .returned (.bool true) ∧ Keeps (fun _ => False) w w' := by
  obtain ⟨ao, cap, rfl⟩ := RowAt.form h
  obtain ⟨uo, uc, rfl⟩ := RowAt.form hC
  obtain ⟨HB, hbb, hbc⟩ := boxed w #[.slice so S.length sc] 39
  have s0 := hbc 0 (.slice so S.length sc) rfl
  have HS := hide (hS.keepF (unhide HB))
  have HV := hide (h.keepF (unhide HB))
  have HE := hide (hE.keepF (unhide HB))
  have HCS := hide (hC.keepF (unhide HB))
  generalize hWb : w.alloc (.cells #[.slice so S.length sc] 39) = Wb at *
  have HQ := hide (twin_v Wb (.slice so S.length sc) S (unhide HS) hSl)
  clear h hE hS hbc hC
  go_enter Tryd.func8, Tryd.ntmps8
  go_wp2_with fail
  refine (unhide HQ).mono ?_
  rintro e w1 ⟨v1, rfl, ho1, hk1⟩
  obtain ⟨to, tc, rfl⟩ := (rowAt_own ho1).form
  have HC1 := hide (copied_v w1 (.slice ao l.length cap) l ((unhide HV).keepF hk1) hl)
  have HK1 := hide hk1
  have HT1 := hide ho1
  clear hk1 ho1 HQ hWb
  go_wp2_with fail
  refine (unhide HC1).mono ?_
  rintro e w2 ⟨v2, rfl, ho2, hk2⟩
  have HK2 := hide ((unhide HK1).trans hk2)
  have HQ2 := hide (verify_v S to tc l v2 w2 ((unhide HE).keepF (unhide HK2)).ops ((unhide HE).keepF (unhide HK2)).types (rowAt_own (ownsRow_kept (unhide HT1) hk2 (fun _ _ => id))) (rowAt_own ho2) hI)
  have HVE := hide (verify_ref S l).symm
  have HVA : Hid (verifyA S l = (((lookA S l).1.map deepA).getD 0, (lookA S l).2)) := rfl
  generalize verifyA S l = VA at *
  obtain ⟨D, AT, ER⟩ := VA
  simp only at *
  clear hk2 ho2 HC1 HT1 HK1
  go_wp2_with fail
  refine (unhide HQ2).mono ?_
  rintro e w3 ⟨rfl, hk3⟩
  have HK3 := hide ((unhide HK2).trans hk3)
  have s3 := ((unhide HK3).cell (o := 0) hbb id).trans s0
  have HQ3 := hide (twin_v w3 (.slice so S.length sc) S ((unhide HS).keepF (unhide HK3)) hSl)
  clear hk3 HQ2 HK2
  go_wp2_with fail
  refine (unhide HQ3).mono ?_
  rintro e w4 ⟨v4, rfl, ho4, hk4⟩
  obtain ⟨to2, tc2, rfl⟩ := (rowAt_own ho4).form
  have HK4 := hide ((unhide HK3).trans hk4)
  have HC4 := hide (copied_v w4 (.slice ao l.length cap) l ((unhide HV).keepF (unhide HK4)) hl)
  have HT4 := hide ho4
  clear hk4 ho4 HQ3 HK3
  go_wp2_with fail
  refine (unhide HC4).mono ?_
  rintro e w5 ⟨v5, rfl, ho5, hk5⟩
  have HK5 := hide ((unhide HK4).trans hk5)
  have HQ5 := hide (types_v S to2 tc2 l v5 w5 ((unhide HE).keepF (unhide HK5)).ops ((unhide HE).keepF (unhide HK5)).types (rowAt_own (ownsRow_kept (unhide HT4) hk5 (fun _ _ => id))) (rowAt_own ho5) hI)
  have HTL := hide (look_tells S l)
  generalize lookA S l = LK at *
  clear hk5 ho5 HC4 HT4 HK4
  go_wp2_with fail
  refine (unhide HQ5).mono ?_
  rintro e w6 ⟨vt, rfl, htx, hk6⟩
  have HK6 := hide ((unhide HK5).trans hk6)
  have s6 := ((unhide HK6).cell (o := 0) hbb id).trans s0
  have HQ6 := hide (refVerify_v S so sc l (.slice ao l.length cap) w6 ((unhide HS).keepF (unhide HK6)) ((unhide HV).keepF (unhide HK6)) hI)
  rw [unhide HVE] at HQ6
  simp only at HQ6
  have HTX := hide htx
  clear hk6 HQ5 HK5 HVE htx
  go_wp2_with fail
  refine (unhide HQ6).mono ?_
  rintro e w7 ⟨rfl, hk7⟩
  have HK7 := hide ((unhide HK6).trans hk7)
  have s7 := ((unhide HK7).cell (o := 0) hbb id).trans s0
  rcases unhide HTL with ⟨k', e', rfl, he'⟩ | ⟨ps, rfl, hpa, hok, hpl, hl96, hSK, hF, hTG⟩
  · have hva := unhide HVA
    simp only [Option.map_none, Option.getD_none, Prod.mk.injEq] at hva
    obtain ⟨rfl, rfl, rfl⟩ := hva
    have be : (ER != 0) = true := by rw [bne_iff_ne]; exact he'
    simp only
    clear HVA HTL HTX HQ6 he' hk7
    go_wp2_with fail
    go_ret
    exact ⟨rfl, (unhide HB).trans (unhide HK7)⟩
  · have hva := unhide HVA
    simp only [Option.map_some, Option.getD_some, Prod.mk.injEq] at hva
    obtain ⟨rfl, rfl, rfl⟩ := hva
    have ho7 : w6.ownsRow 0 9 1 vt ps.length (txts ps) := unhide HTX
    have HT7 := hide (ownsRow_kept ho7 hk7 (fun _ _ => id))
    obtain ⟨g, gc, rfl, _, hg7⟩ := World.ownsRow.form (unhide HT7) (by omega)
    have bln : ((ps.length : Int) != (l.length : Int) + 1) = false := by simp; omega
    have HPL := hide hpl
    simp only
    rw [show ((0 : Nat) : Int) = 0 from rfl]
    clear HVA HTL HTX HQ6 hk7 ho7 hpl
    go_wp2_with fail
    have HOK := hide hok
    have HSK := hide hSK
    have HF := hide hF
    have HTG := hide hTG
    have HPA := hide (pullA_first hok)
    have hDP := fun (k : Nat) (z : Bool × List Int) (q : (ps.map pairP)[k]? = some z) => deepH_le q
    rw [deepH_map] at hDP
    have HDP := hide hDP
    generalize deepA ps = DP at *
    clear hpa hok hSK hF hTG hDP s0 s3 s6
    go_loopw [15, 16, 17, 18] (fun q i r d wr => ∃ (p ran c : Nat) (st : List Int), p ≤ l.length ∧ q = str (st.map letR) ∧ i = .int .i64 p ∧ r = .int .i64 ran ∧ ran ≤ p ∧ d = .int .i64 c ∧ c ≤ cs.length ∧ Hid ((ps.map pairP)[p]? = some (true, st)) ∧ Keeps (fun _ => False) w7 wr) (fun _ i _ _ _ => l.length - (intOf i).toNat)
    case atStart => exact ⟨0, 0, 0, [], Nat.zero_le _, rfl, rfl, rfl, Nat.le_refl _, rfl, Nat.zero_le _, unhide HPA, Keeps.refl _ _⟩
    case round =>
      obtain ⟨p, ran, c, st, hp, rfl, rfl, rfl, hran, rfl, hc, HST, hkp⟩ := hrel
      have HKR := hide ((unhide HK7).trans hkp)
      have HKP := hide hkp
      have sb := (hkp.cell (o := 0) (Nat.lt_of_lt_of_le hbb (unhide HK7).size) id).trans s7
      have hbr : w.heap.size < wr.heap.size := Nat.lt_of_lt_of_le hbb (unhide HKR).size
      obtain ⟨P, hP, hPe⟩ : ∃ P, ps[p]? = some P ∧ pairP P = (true, st) := by
        have := unhide HST
        rw [List.getElem?_map] at this
        cases hq : ps[p]? with
        | none => rw [hq] at this; cases this
        | some P => rw [hq] at this; exact ⟨P, rfl, Option.some.inj this⟩
      have hPr : P.r = true := congrArg Prod.fst hPe
      have hPs : P.st = st := congrArg Prod.snd hPe
      have htx : (txts ps)[p]? = some (str (st.map letR)) := by
        unfold txts
        rw [List.getElem?_map, hP]
        simp [txtP, hPr, hPs]
      have hplt := (List.getElem?_eq_some_iff.1 hP).1
      have g0 := (hkp.cell (o := p) hg7 id).trans (((unhide HT7).cellAt p (by omega)).trans htx)
      have hsm := (unhide HOK).small p _ (unhide HST)
      have hdp := (unhide HDP) p _ (unhide HST)
      simp only at hsm hdp
      have ig : (p : Int) < (ps.length : Int) := by omega
      have ip0 : (0 : Int) ≤ (p : Int) := by omega
      by_cases hlt : p < l.length
      · have ipl : (p : Int) < (l.length : Int) := by omega
        obtain ⟨x, st', hx, hbe⟩ := (unhide HOK).beh p st hlt (unhide HST)
        obtain ⟨hxf, hxr⟩ := (unhide HF) x (List.mem_of_getElem? hx)
        have hxt := (unhide HTG) p x hx
        have h6 := (opd_kind _ (op_cases (formB_zero hxf).1)).2.2.1
        have hxj := form_jump hxf
        have HBR := behR_behB S x st hxf hsm.2 (fun q => fldT_isK (unhide HSK) hxf hxr (Or.inl q))
        have hb2 := HBR.1
        rw [hbe] at hb2
        have hb1 := HBR.2 st' hbe
        simp only [Option.isSome_some] at hb2
        have HNX := hide (fun (t : Nat) (hl : leadsB p x t = true) (ht : t ≤ l.length) => (unhide HOK).next (unhide HST) hx hbe hl ht)
        have HLB : Hid (∀ t, leadsB p x t = ((decide (x.kind = 25 ∨ x.kind = 26) && decide (p + 1 + x.n.toNat = t)) || (decide (x.kind ≠ 25) && decide (p + 1 = t)))) := fun _ => rfl
        obtain ⟨b, off, c1, ee, hbl, hcc⟩ := (unhide HV).cells (by omega)
        simp at ee
        obtain ⟨rfl, rfl⟩ := ee
        have a0 := ((unhide HKR).cell hbl id).trans (hcc p x hx).1
        have a1 := ((unhide HKR).cell hbl id).trans (hcc p x hx).2.1
        have a2 := ((unhide HKR).cell hbl id).trans (hcc p x hx).2.2
        have hbl' : b < wr.heap.size := Nat.lt_of_lt_of_le hbl (unhide HKR).size
        have hd := (Keeps.refl (fun _ => False) wr).drew
        have HQ := hide (behindR_v S so sc x (st.map letR) wr.drew ((unhide HS).keepF ((unhide HKR).trans hd)) hxf hxr (by rw [List.length_map]; omega))
        rw [hb1, hb2] at HQ
        have HTV := hide (fun (W : World) (hW : Keeps (fun _ => False) Wb W) (n0 : 0 ≤ x.n) (n1 : x.n ≤ 255) => refTarget_v l (.slice (some ⟨b, off, none⟩) l.length cap) W ((unhide HV).keepF hW) p x hx hl96 n0 n1)
        have hql : (st.map letR).length = st.length := List.length_map ..
        obtain ⟨q0, hq0⟩ : ∃ q0, st.map letR = q0 := ⟨_, rfl⟩
        obtain ⟨q1, hq1⟩ : ∃ q1, st'.map letR = q1 := ⟨_, rfl⟩
        rw [hq0] at g0 HQ hql ⊢
        rw [hq1] at HQ
        have HQ1 := hide hq1
        have idp : ¬ (DP : Int) < (q0.length : Int) := by omega
        have hran2 : ran + 1 ≤ l.length := by omega
        have iran : ¬ (l.length : Int) < (ran : Int) + 1 := by omega
        generalize hTGT : p + 1 + x.n.toNat = TG at *
        have HTGE : Hid (p + 1 ≤ TG) := by show _ ≤ _; omega
        obtain ⟨xk, xn, xs⟩ := x
        unfold ValA.v at HQ
        simp only at *
        clear hcc hx hbe hb1 hb2 HBR hxf hxr hq0 hq1 htx hP hPe hPr hPs hkp hsm hdp hql hd HST hTGT hplt
        go_wp2_with fail
        go_region_held3 (fun w' => w'.cell? ⟨w.heap.size, 0, none⟩ = some (.slice so S.length sc) ∧ w'.cell? ⟨b, off + p * 3, none⟩ = some (.int .i64 xk) ∧ w'.cell? ⟨b, off + p * 3 + 1, none⟩ = some (.int .i64 xn) ∧ w'.cell? ⟨b, off + p * 3 + 2, none⟩ = some (str xs))
          (go_keep)
          (first
            | (go_at_call 24
               refine (unhide HQ).mono ?_
               rintro e w8 ⟨rfl, hk8⟩
               have y0 := (hk8.cell (o := 0) hbr id).trans sb
               have y1 := (hk8.cell (o := off + p * 3) hbl' id).trans a0
               have y2 := (hk8.cell (o := off + p * 3 + 1) hbl' id).trans a1
               have y3 := (hk8.cell (o := off + p * 3 + 2) hbl' id).trans a2))
        have HK8 := hide (((unhide HKP).trans (Keeps.refl _ wr).drew).trans hk8)
        have HKB := hide ((unhide HK7).trans (unhide HK8))
        have hb8 := Nat.lt_of_lt_of_le hbl' hk8.size
        clear hk8 HQ a0 a1 a2 sb y0 y2 y3 g0
        by_cases h25 : xk = 25
        · subst h25
          have hn := hxj (h6.2 (Or.inl rfl))
          have htl := hxt (h6.2 (Or.inl rfl))
          have HN := hide ((unhide HNX) TG (by rw [unhide HLB]; simp) htl)
          have HQT := hide ((unhide HTV) w8 (unhide HKB) hn.1 hn.2)
          have itg : ¬ (l.length : Int) < (TG : Int) := by omega
          have hlt2 : p + 1 ≤ TG := by have := unhide HTGE; omega
          clear HNX HTV HLB hn h6 hxj hxt
          go_wp2_with fail
          refine (unhide HQT).mono ?_
          rintro e w9 ⟨rfl, hk9⟩
          have HK9 := hide ((unhide HK8).trans hk9)
          clear HQT hk9
          go_wp2_with fail
          go_roundw
          case rel => exact ⟨TG, ran + 1, c, st', htl, by rw [unhide HQ1], rfl, by go_num, by omega, rfl, hc, HN, unhide HK9⟩
          case measure => simp [intOf]; omega
        · have b25 : (xk == 25) = false := by simpa using h25
          have HNP := hide ((unhide HNX) (p + 1) (by rw [unhide HLB]; simp [h25]) hlt)
          have ipl1 : ¬ (l.length : Int) < (p : Int) + 1 := by omega
          by_cases h26 : xk = 26
          · subst h26
            clear h25 b25
            have hn := hxj (h6.2 (Or.inr rfl))
            have htl := hxt (h6.2 (Or.inr rfl))
            have HN := hide ((unhide HNX) TG (by rw [unhide HLB]; simp) htl)
            have HQT := hide ((unhide HTV) w8 (unhide HKB) hn.1 hn.2)
            have itg : ¬ (l.length : Int) < (TG : Int) := by omega
            have hlt2 : p + 1 ≤ TG := by have := unhide HTGE; omega
            clear HNX HTV HLB hn h6 hxj hxt
            by_cases hcl : c < cs.length
            · obtain ⟨ch, hch⟩ : ∃ ch, cs[c]? = some ch := ⟨_, List.getElem?_eq_getElem hcl⟩
              obtain ⟨ub, uoff, uc1, ue, hul, huc⟩ := (unhide HCS).cells (by omega)
              simp at ue
              obtain ⟨rfl, rfl⟩ := ue
              have z0 := ((unhide HKB).cell hul id).trans (huc c (.bool ch) (by simp [hch]))
              have icl : (c : Int) < (cs.length : Int) := by omega
              have ic0 : (0 : Int) ≤ (c : Int) := by omega
              clear huc hch
              cases ch with
              | true =>
                go_wp2_with fail
                refine (unhide HQT).mono ?_
                rintro e w9 ⟨rfl, hk9⟩
                have HK9 := hide ((unhide HK8).trans hk9)
                clear HQT hk9
                go_wp2_with fail
                go_roundw
                case rel => exact ⟨TG, ran + 1, c + 1, st', htl, by rw [unhide HQ1], rfl, by go_num, by omega, by go_num, by omega, HN, unhide HK9⟩
                case measure => simp [intOf]; omega
              | false =>
                go_wp2_with fail
                go_roundw
                case rel => exact ⟨p + 1, ran + 1, c + 1, st', hlt, by rw [unhide HQ1], by go_num, by go_num, by omega, by go_num, by omega, HNP, unhide HK8⟩
                case measure => simp [intOf]; omega
            · have icl : ¬ (c : Int) < (cs.length : Int) := by omega
              go_wp2_with fail
              go_roundw
              case rel => exact ⟨p + 1, ran + 1, c, st', hlt, by rw [unhide HQ1], by go_num, by go_num, by omega, rfl, hc, HNP, unhide HK8⟩
              case measure => simp [intOf]; omega
          · have b26 : (xk == 26) = false := by simpa using h26
            clear HNX HTV HLB h6 hxj hxt h25 h26
            go_wp2_with fail
            go_roundw
            case rel => exact ⟨p + 1, ran + 1, c, st', hlt, by rw [unhide HQ1], by go_num, by go_num, by omega, rfl, hc, HNP, unhide HK8⟩
            case measure => simp [intOf]; omega
      · have ipl : ¬ (p : Int) < (l.length : Int) := by omega
        have hpe : p = l.length := by omega
        have hse : st = [] := (unhide HOK).last st (by rw [← hpe]; exact unhide HST)
        have hq : st.map letR = [] := by rw [hse]; rfl
        rw [hq] at g0 ⊢
        clear hpe hse hq htx hP hPe hPr hPs hkp hsm hdp hlt
        go_wp2_with fail
        go_ret
        exact ⟨rfl, (unhide HB).trans (unhide HKR)⟩

end Go.Proofs.YtafniangljmjeaaDoor
namespace Go.Proofs.YtafniangljmjeaaDoor
open Go.RowKit Go.Maps
theorem paths_any (S : List FieldA) (hSl : S.length ≤ 4398046511104) (l : List ValA) (hl : l.length ≤ 4398046511104) (hI : InR l) (cs : List Bool) (hcs : cs.length ≤ 140737488355328) (sv v u : Value) (w : World) (hE : Env w) (hS : FldsAt w sv S) (h : ValsAt w v l) (hC : BlsAt w u cs) :
    Calls Tryd.prog 8 #[.agg #[sv], v, u] w fun e w' => e = .returned (.bool true) ∧ Keeps (fun _ => False) w w' := by
  obtain ⟨so, sc, rfl⟩ := RowAt.form hS
  exact paths_walk S so sc hSl l hl hI cs hcs v u w hE hS h hC

end Go.Proofs.YtafniangljmjeaaDoor
