import Derived.Test.YtafniangljmjeabDoorJh
import Derived.Test.YtafniangljmjeabDoorWd
import Derived.Test.YtafniangljmjeabDoorNi
import Derived.Test.YtafniangljmjeabDoorJc
import Derived.Test.YtafniangljmjeabDoorEa
namespace Go.Proofs.YtafniangljmjeabDoor
open Go.RowKit Go.Maps
theorem brings_more {S : List FieldA} {l : List ValA} {hv : List (Bool × List Int)} {z : Bool × List Int} {i t : Nat} (h : i < hv.length) : bringsB S l (hv ++ [z]) i t = bringsB S l hv i t := by
  unfold bringsB
  rw [List.getElem?_append_left h]
theorem pull_more (S : List FieldA) (l : List ValA) (hv : List (Bool × List Int)) (z : Bool × List Int) (t : Nat) : ∀ k, k ≤ hv.length → pullB S l (hv ++ [z]) t k = pullB S l hv t k
  | 0, _ => rfl
  | k + 1, h => by rw [pullB, pullB, brings_more (by omega), pull_more S l hv z t k (by omega)]
/-- What was brought to a place is what stands there. -/
theorem pull_brought {S : List FieldA} {l : List ValA} {hv : List (Bool × List Int)} {t : Nat} : ∀ {k : Nat} {z : Bool × List Int}, pullB S l hv t k = some z → ∀ i st, i < k → bringsB S l hv i t = some st → z = (true, st)
  | 0, _, _, _, _, hi, _ => absurd hi (Nat.not_lt_zero _)
  | k + 1, z, h, i, st, hi, hb => by
    rw [pullB] at h
    cases hp : pullB S l hv t k with
    | none => rw [hp] at h; cases h
    | some y =>
      obtain ⟨r, s0⟩ := y
      rw [hp] at h
      by_cases hik : i = k
      · subst hik
        rw [hb] at h
        simp only at h
        split at h
        · cases h
        · cases h; rfl
      · have ih := pull_brought hp i st (by omega) hb
        cases ih
        cases hbk : bringsB S l hv k t with
        | none => rw [hbk] at h; cases h; rfl
        | some st2 =>
          rw [hbk] at h
          simp only [true_and] at h
          by_cases he : st = st2
          · subst he; simp at h; exact h.symm
          · rw [if_pos he] at h; cases h
/-- The places of a code that passes. -/
structure HvOK (S : List FieldA) (l : List ValA) (hv : List (Bool × List Int)) : Prop where
  len : hv.length = l.length + 1
  small : ∀ (k : Nat) (z : Bool × List Int), hv[k]? = some z → z.2.length ≤ 16 ∧ ∀ k ∈ z.2, isK k
  beh : ∀ (k : Nat) (st : List Int), k < l.length → hv[k]? = some (true, st) → ∃ x st', l[k]? = some x ∧ behB S x st = some st'
  pull : ∀ (j : Nat) (z : Bool × List Int), hv[j]? = some z → pullB S l hv j j = some z
  last : ∀ st, hv[l.length]? = some (true, st) → st = []
theorem brings_small {S : List FieldA} {l : List ValA} {hv : List (Bool × List Int)} {i t : Nat} {st : List Int} (hS : ∀ f ∈ S, isK f.type) (hF : ∀ i ∈ l, formB i = 0 ∧ rightF S i = true) (hg : ∀ (k : Nat) (z : Bool × List Int), hv[k]? = some z → z.2.length ≤ 16 ∧ ∀ k ∈ z.2, isK k) (h : bringsB S l hv i t = some st) : st.length ≤ 16 ∧ ∀ k ∈ st, isK k := by
  unfold bringsB at h
  split at h
  · rename_i s0 x h1 h2
    split at h
    · obtain ⟨hf, hr⟩ := hF x (List.mem_of_getElem? h2)
      exact ⟨behB_le h, behB_isK hS hf hr (hg i _ h1).2 h⟩
    · cases h
  · cases h
theorem pull_small {S : List FieldA} {l : List ValA} {hv : List (Bool × List Int)} {t : Nat} (hS : ∀ f ∈ S, isK f.type) (hF : ∀ i ∈ l, formB i = 0 ∧ rightF S i = true) (hg : ∀ (k : Nat) (z : Bool × List Int), hv[k]? = some z → z.2.length ≤ 16 ∧ ∀ k ∈ z.2, isK k) : ∀ {k : Nat} {z : Bool × List Int}, pullB S l hv t k = some z → z.2.length ≤ 16 ∧ ∀ k ∈ z.2, isK k
  | 0, z, h => by rw [pullB] at h; cases h; exact ⟨Nat.zero_le _, fun _ q => by cases q⟩
  | k + 1, z, h => by
    rw [pullB] at h
    cases hp : pullB S l hv t k with
    | none => rw [hp] at h; cases h
    | some y =>
      obtain ⟨r, s0⟩ := y
      rw [hp] at h
      cases hbk : bringsB S l hv k t with
      | none => rw [hbk] at h; cases h; exact pull_small hS hF hg hp
      | some st2 =>
        rw [hbk] at h
        simp only at h
        split at h
        · cases h
        · cases h; exact brings_small hS hF hg hbk
theorem snoc_all {α : Type} {P : Nat → α → Prop} {hv : List α} {z : α} (h : ∀ k y, hv[k]? = some y → P k y) (hz : P hv.length z) : ∀ k y, (hv ++ [z])[k]? = some y → P k y := by
  intro k y hy
  by_cases hk : k < hv.length
  · rw [List.getElem?_append_left hk] at hy; exact h k y hy
  · rw [List.getElem?_append_right (by omega)] at hy
    cases hj : k - hv.length with
    | zero =>
      rw [hj] at hy
      simp at hy
      subst hy
      rwa [show k = hv.length by omega]
    | succ j => rw [hj] at hy; simp at hy
theorem pullA_ok {S : List FieldA} {l : List ValA} (hS : ∀ f ∈ S, isK f.type) (hF : ∀ i ∈ l, formB i = 0 ∧ rightF S i = true) : ∀ (rest : List ValA) (k : Nat) (hv hv' : List (Bool × List Int)), rest = l.drop k → k ≤ l.length → hv.length = k →
    (∀ (k : Nat) (z : Bool × List Int), hv[k]? = some z → z.2.length ≤ 16 ∧ ∀ k ∈ z.2, isK k) → (∀ (k : Nat) (st : List Int), hv[k]? = some (true, st) → ∃ x st', l[k]? = some x ∧ behB S x st = some st') → (∀ (j : Nat) (z : Bool × List Int), hv[j]? = some z → pullB S l hv j j = some z) →
    pullA S l k rest hv = (some hv', 0, 0) → HvOK S l hv'
  | [], k, hv, hv', hr, hkl, hlen, hsm, hbe, hpl, h => by
    have hk : k = l.length := by
      have := congrArg List.length hr
      rw [List.length_drop] at this
      simp at this
      omega
    rw [pullA_nil] at h
    cases hp : pullB S l hv k k with
    | none => rw [hp] at h; cases h
    | some z =>
      rw [hp] at h
      simp only at h
      split at h
      · cases h
      · rename_i hz
        cases h
        have hz2 := pull_small hS hF hsm hp
        refine ⟨by simp; omega, snoc_all hsm hz2, ?_, ?_, ?_⟩
        · intro j st hj hy
          rw [List.getElem?_append_left (by omega)] at hy
          exact hbe j st hy
        · refine snoc_all (P := fun j y => pullB S l (hv ++ [z]) j j = some y) (fun j y hy => ?_) ?_
          · have := (List.getElem?_eq_some_iff.1 hy).1
            rw [pull_more S l hv z j j (by omega)]; exact hpl j y hy
          · rw [pull_more S l hv z _ _ (Nat.le_refl _), hlen]; exact hp
        · intro st hst
          rw [← hk, List.getElem?_append_right (by omega), hlen, Nat.sub_self] at hst
          simp at hst
          subst hst
          by_cases hs : st = []
          · exact hs
          · exact absurd ⟨rfl, hs⟩ hz
  | x :: rest, k, hv, hv', hr, hkl, hlen, hsm, hbe, hpl, h => by
    have hkl' : k < l.length := by
      have := congrArg List.length hr
      rw [List.length_drop] at this
      simp at this
      omega
    have hx : l[k]? = some x ∧ rest = l.drop (k + 1) := by
      rw [List.drop_eq_getElem_cons hkl'] at hr
      simp only [List.cons.injEq] at hr
      exact ⟨by rw [List.getElem?_eq_getElem hkl', hr.1], hr.2⟩
    obtain ⟨hxk, hrest⟩ := hx
    rw [pullA_cons] at h
    cases hp : pullB S l hv k k with
    | none => rw [hp] at h; cases h
    | some z =>
      rw [hp] at h
      simp only at h
      split at h
      · cases h
      · rename_i hz
        have hz2 := pull_small hS hF hsm hp
        refine pullA_ok hS hF rest (k + 1) (hv ++ [z]) hv' hrest hkl' (by simp [hlen]) (snoc_all hsm hz2) ?_ ?_ h
        · intro j st hy
          refine snoc_all (P := fun j y => ∀ st, y = (true, st) → ∃ x st', l[j]? = some x ∧ behB S x st = some st') (fun j y hy st e => hbe j st (e ▸ hy)) (fun st e => ?_) j _ hy st rfl
          subst e
          rw [hlen]
          cases hb : behB S x st with
          | none => exact absurd ⟨rfl, hb⟩ hz
          | some st' => exact ⟨x, st', hxk, hb⟩
        · refine snoc_all (P := fun j y => pullB S l (hv ++ [z]) j j = some y) (fun j y hy => ?_) ?_
          · have := (List.getElem?_eq_some_iff.1 hy).1
            rw [pull_more S l hv z j j (by omega)]; exact hpl j y hy
          · rw [pull_more S l hv z _ _ (Nat.le_refl _), hlen]; exact hp
theorem pullA_first {S : List FieldA} {l : List ValA} {hv : List (Bool × List Int)} (h : HvOK S l hv) : hv[0]? = some (true, []) := by
  have h0 : 0 < hv.length := by rw [h.len]; omega
  have := h.pull 0 _ (List.getElem?_eq_getElem h0)
  rw [pullB] at this
  rw [List.getElem?_eq_getElem h0, ← this]
  rfl
/-- Where an instruction leads, the stack is the one behind it. -/
theorem HvOK.next {S : List FieldA} {l : List ValA} {hv : List (Bool × List Int)} (h : HvOK S l hv) {k t : Nat} {x : ValA} {st st' : List Int} (hk : hv[k]? = some (true, st)) (hx : l[k]? = some x) (hb : behB S x st = some st') (hl : leadsB k x t = true) (ht : t ≤ l.length) : hv[t]? = some (true, st') := by
  have hkt : k < t := by
    unfold leadsB at hl
    simp at hl
    omega
  have h0 : t < hv.length := by rw [h.len]; omega
  have hz := List.getElem?_eq_getElem h0
  have hp := h.pull t _ hz
  have hbr : bringsB S l hv k t = some st' := by
    unfold bringsB
    rw [hk, hx]
    simp [hl, hb]
  rw [hz, pull_brought hp k st' hkt hbr]
theorem deepH_le {hv : List (Bool × List Int)} {k : Nat} {z : Bool × List Int} (h : hv[k]? = some z) : z.2.length ≤ deepH hv := by
  have key : ∀ (l : List (Bool × List Int)) (d : Nat), d ≤ l.foldl (fun d z => max d z.2.length) d ∧ ∀ z ∈ l, z.2.length ≤ l.foldl (fun d z => max d z.2.length) d := by
    intro l
    induction l with
    | nil => intro d; exact ⟨Nat.le_refl _, fun z hz => by cases hz⟩
    | cons a r ih =>
      intro d
      have := ih (max d a.2.length)
      refine ⟨Nat.le_trans (Nat.le_max_left _ _) this.1, fun z hz => ?_⟩
      rcases List.mem_cons.1 hz with rfl | hz
      · exact Nat.le_trans (Nat.le_max_right _ _) this.1
      · exact this.2 z hz
  exact (key hv 0).2 z (List.mem_of_getElem? h)

end Go.Proofs.YtafniangljmjeabDoor
namespace Go.Proofs.YtafniangljmjeabDoor
open Go.RowKit Go.Maps
/-- The text of a place's types. -/
def txtP (r : Bool) (st : List Int) : Txt := if r = true then st.map letR else [45]
def rowK (st : List Int) (k : Nat) : List Value := ((st.take k).map fun x => Value.int .u8 (num (letR x))) ++ List.replicate (st.length - k) (.int .u8 0)
theorem rowK_length {st : List Int} {k : Nat} (h : k ≤ st.length) : (rowK st k).length = st.length := by simp [rowK]; omega
theorem rowK_set {st : List Int} {k : Nat} {x : Int} (h : st[k]? = some x) : (rowK st k).set k (.int .u8 (num (letR x))) = rowK st (k + 1) := by
  have hk := (List.getElem?_eq_some_iff.1 h).1
  unfold rowK
  rw [take_snoc st k x h, show st.length - k = (st.length - (k + 1)) + 1 by omega, List.replicate_succ]
  rw [List.set_append_right _ _ (by simp; omega)]
  simp [Nat.min_eq_left (Nat.le_of_lt hk)]
theorem rowK_end (st : List Int) : rowK st st.length = bs (st.map letR) := by
  unfold rowK
  rw [Nat.sub_self, List.take_length]
  simp [bs]
set_option maxRecDepth 100000 in
set_option maxHeartbeats 2000000 in
theorem typesText_v (r u : Bool) (st : List Int) (sv : Value) (w : World) (h : KsAt w sv st) (hl : st.length ≤ 16) (hk : r = true → ∀ k ∈ st, isK k) :
    Calls Tryd.prog 19 #[.agg #[.bool r, sv, .bool u]] w fun e w' => e = .returned (str (txtP r st)) ∧ Keeps (fun _ => False) w w' := by
  obtain ⟨ao, cap, rfl⟩ := RowAt.form h
  obtain ⟨HB, hbb, hbc⟩ := boxed w #[.bool r, .slice ao st.length cap, .bool u] 51
  have s0 := hbc 0 (.bool r) rfl
  have s1 := hbc 1 (.slice ao st.length cap) rfl
  have s2 := hbc 2 (.bool u) rfl
  have HV := hide (h.keepF (unhide HB))
  have HKK := hide hk
  clear hbc h hk
  cases r with
  | false =>
    go_enter Tryd.func19, Tryd.ntmps19
    go_wp2_with fail
    go_ret
    exact ⟨rfl, unhide HB⟩
  | true =>
    generalize hWb : w.alloc (.cells #[.bool true, .slice ao st.length cap, .bool u] 51) = Wb at *
    have hmk := run_mkb st.length st.length (Nat.le_refl _) (by omega)
    have HO := hide (owns_made Wb st.length st.length (Nat.le_refl _) (by omega))
    have HK0 := hide ((Keeps.refl (fun _ => False) Wb).alloc (.cells (madeCells #[.int .u8 0] st.length) 5))
    go_enter Tryd.func19, Tryd.ntmps19
    go_wp2_with fail
    clear hmk hWb
    have hO0 : (Wb.alloc (.cells (madeCells #[.int .u8 0] st.length) 5)).ownsRow Wb.heap.size 5 1 (.slice (some ⟨Wb.heap.size, 0, none⟩) st.length st.length) st.length (rowK st 0) := by
      have := unhide HO
      simpa [rowK] using this
    have HO0 := hide hO0
    clear hO0 HO
    generalize hg : Wb.heap.size = g at *
    generalize Wb.alloc (.cells (madeCells #[.int .u8 0] st.length) 5) = W1 at *
    go_loopw [16] (fun i wr => ∃ k : Nat, k ≤ st.length ∧ i = .int .i64 k ∧ wr.ownsRow g 5 1 (.slice (some ⟨g, 0, none⟩) st.length st.length) st.length (rowK st k) ∧ Keeps (fun _ => False) Wb wr) (fun i _ => st.length - (intOf i).toNat)
    case atStart => exact ⟨0, Nat.zero_le _, rfl, unhide HO0, unhide HK0⟩
    case round =>
      obtain ⟨k, hk, rfl, ho, hkp⟩ := hrel
      by_cases hlt : k < st.length
      · obtain ⟨x, hx⟩ : ∃ x, st[k]? = some x := ⟨_, List.getElem?_eq_getElem hlt⟩
        obtain ⟨b, off, c, ee, hbl, hc⟩ := (unhide HV).cells (by omega)
        simp at ee
        obtain ⟨rfl, rfl⟩ := ee
        have c0 := (hkp.cell hbl id).trans (hc k x hx)
        have f0 := ho.frozenAt k
        obtain ⟨dd, d0⟩ : ∃ dd, wr.cell? ⟨g, k, none⟩ = some dd := ⟨_, (ho.cellAt k (by omega)).trans (List.getElem?_eq_getElem (by rw [rowK_length hk]; exact hlt))⟩
        have HST := hide ((ho.stored k (.int .u8 (num (letR x)))).1)
        rw [rowK_set hx] at HST
        have HKS := hide (hkp.then (keeps_set wr g k (.int .u8 (num (letR x)))) (fun i hi q => by omega))
        have i2 : (k : Int) < (st.length : Int) := by omega
        have i0' : (0 : Int) ≤ (k : Int) := by omega
        have hxK := (unhide HKK) trivial x (List.mem_of_getElem? hx)
        clear hc hx hkp ho
        rcases hxK with rfl | rfl | rfl
        all_goals
          go_wp2_with fail
          go_roundw
          case rel => exact ⟨k + 1, by omega, by go_num, unhide HST, unhide HKS⟩
          case measure => simp [intOf]; omega
      · obtain rfl : k = st.length := by omega
        have i2 : ¬ (st.length : Int) < (st.length : Int) := by omega
        have hcv : (convert 38 9 (.slice (some ⟨g, 0, none⟩) st.length st.length)).run Tryd.prog wr = .ok (str (st.map letR)) wr := by
          have q := conv_bytes wr g st.length (st.map letR) (fun j ch hj => by
            have hjl := (List.getElem?_eq_some_iff.1 hj).1
            rw [List.length_map] at hjl
            rw [ho.cellAt j (by omega), rowK_end]
            simp only [bs, List.getElem?_map, hj, Option.map_some]
            )
          rwa [List.length_map] at q
        have HKE := hide hkp
        clear hlt ho hkp
        go_wp2_with fail
        go_ret
        exact ⟨rfl, (unhide HB).trans (unhide HKE)⟩

end Go.Proofs.YtafniangljmjeabDoor
namespace Go.Proofs.YtafniangljmjeabDoor
open Go.RowKit Go.Maps
theorem runA_len {S : List FieldA} : ∀ {rest : List ValA} {k : Nat} {ps : List PlA}, (∃ k', runA S k rest ps = (none, k', 112)) ∨ ∃ ps', runA S k rest ps = (some ps', 0, 0) ∧ ps'.length = ps.length
  | [], k, ps => by
    rw [runA]
    split
    · exact Or.inl ⟨_, rfl⟩
    · exact Or.inr ⟨_, rfl, rfl⟩
  | x :: rest, k, ps => by
    rw [runA]
    cases hs : stepA S k x ps with
    | none => exact Or.inl ⟨_, rfl⟩
    | some ps1 =>
      simp only
      have hl : ps1.length = ps.length := by
        unfold stepA at hs
        split at hs
        · cases hs; rfl
        · split at hs
          · cases hs
          · split at hs
            · cases hs
            · simp only [Option.some.injEq] at hs
              subst hs
              split <;> split <;> simp [bringAt_length]
      rcases runA_len (S := S) (rest := rest) (k := k + 1) (ps := ps1) with h | ⟨ps', h, h2⟩
      · exact Or.inl h
      · exact Or.inr ⟨ps', h, h2.trans hl⟩
/-- What look tells: what is wrong; or the places, which are right. -/
theorem look_tells (S : List FieldA) (l : List ValA) : (∃ k e, lookA S l = (none, k, e) ∧ e ≠ 0) ∨ ∃ ps, lookA S l = (some ps, 0, 0) ∧ pullA S l 0 l [] = (some (ps.map pairP), 0, 0) ∧ HvOK S l (ps.map pairP) ∧ ps.length = l.length + 1 ∧ l.length ≤ 96 ∧ (∀ f ∈ S, isK f.type) ∧ (∀ i ∈ l, formB i = 0 ∧ rightF S i = true) ∧ (∀ k i, l[k]? = some i → (opA i.kind).opd = 6 → k + 1 + i.n.toNat ≤ l.length) := by
  unfold lookA
  by_cases h1 : errS S = 0
  · rw [if_neg (show ¬ errS S ≠ 0 from fun q => q h1)]
    by_cases h2 : (checkI S l).2 = 0
    · rw [if_neg (show ¬ (checkI S l).2 ≠ 0 from fun q => q h2)]
      by_cases h3 : (checkT l).2 = 0
      · rw [if_neg (show ¬ (checkT l).2 ≠ 0 from fun q => q h3)]
        obtain ⟨hl, hF⟩ := checkI_zero h2
        have hT := checkT_zero h3
        have hS := schema_isK h1
        obtain ⟨ha, hb⟩ := run_pull S l (fun i hi => (opd_kind _ (op_cases (formB_zero (hF i hi).1).1)).2.2.1) l 0 [] (startA l) rfl (Nat.zero_le _) rfl (by unfold startA; rw [bringAt_length, List.length_replicate]) (fun t ht => startA_get S l t ht) (fun j hj => absurd hj (Nat.not_lt_zero _))
        rcases runA_len (S := S) (rest := l) (k := 0) (ps := startA l) with ⟨k', h⟩ | ⟨ps, h, hps⟩
        · exact Or.inl ⟨k', 112, h, by decide⟩
        · rw [h] at ha hb
          have hpa : pullA S l 0 l [] = (some (ps.map pairP), 0, 0) := by
            apply Prod.ext
            · exact hb.symm
            · exact ha.symm
          refine Or.inr ⟨ps, h, hpa, pullA_ok hS hF l 0 [] _ rfl (Nat.zero_le _) rfl (fun k z q => by simp at q) (fun k z q => by simp at q) (fun k z q => by simp at q) hpa, ?_, hl, hS, hF, hT⟩
          rw [hps]; unfold startA; rw [bringAt_length, List.length_replicate]
      · rw [if_pos h3]; exact Or.inl ⟨_, _, rfl, h3⟩
    · rw [if_pos h2]; exact Or.inl ⟨_, _, rfl, h2⟩
  · rw [if_pos h1]; exact Or.inl ⟨_, _, rfl, by decide⟩
def txts (ps : List PlA) : List Value := ps.map fun p => str (txtP p.r p.st)
def rowT (ps : List PlA) (k : Nat) : List Value := txts (ps.take k) ++ List.replicate (ps.length - k) (.string ⟨#[]⟩)
theorem rowT_length {ps : List PlA} {k : Nat} (h : k ≤ ps.length) : (rowT ps k).length = ps.length := by simp [rowT, txts]; omega
theorem rowT_set {ps : List PlA} {k : Nat} {x : PlA} (h : ps[k]? = some x) : (rowT ps k).set k (str (txtP x.r x.st)) = rowT ps (k + 1) := by
  have hk := (List.getElem?_eq_some_iff.1 h).1
  unfold rowT
  rw [take_snoc ps k x h, show ps.length - k = (ps.length - (k + 1)) + 1 by omega, List.replicate_succ]
  rw [List.set_append_right _ _ (by simp [txts]; omega)]
  simp [txts, Nat.min_eq_left (Nat.le_of_lt hk)]
theorem rowT_end (ps : List PlA) : rowT ps ps.length = txts ps := by
  unfold rowT
  rw [Nat.sub_self, List.take_length]
  simp
theorem run_mks (n : Nat) (hn : n ≤ 1024) (w : World) : (Instr.makeSlice 27 (.int .i64 (n : Int)) (.int .i64 (n : Int))).run Tryd.prog w = .ok (.slice (some ⟨w.heap.size, 0, none⟩) n n) (w.alloc (.cells (madeCells #[.string ⟨#[]⟩] n) 9)) := by
  obtain ⟨i0, hi, hz0, hz1, hz2⟩ := info_parts Tryd.info9s
  have q := run_make (P := Tryd.prog) w 27 9 i0 (.string ⟨#[]⟩) Tryd.underlying27 hi hz0 .i64 .i64 (n : Int) (n : Int) (by omega) (by omega) (by rw [hz2]; omega) (by omega)
  rw [hz1] at q
  simpa [Value.cells] using q
theorem owns_mks (w : World) (n : Nat) (hn : n ≤ 1024) : (w.alloc (.cells (madeCells #[.string ⟨#[]⟩] n) 9)).ownsRow w.heap.size 9 1 (.slice (some ⟨w.heap.size, 0, none⟩) n n) n (List.replicate n (.string ⟨#[]⟩)) := by
  have := World.ownsRow_lit (base := w.heap.size) (e := 9) (size := 1) w (madeCells #[.string ⟨#[]⟩] n) n (Nat.le_refl _) (by unfold maxLen; omega) (by rw [size_madeCells]; omega)
  rwa [toList_madeCells_one] at this
/-- What Types answers. -/
def Texted (w : World) (vt : Value) : Option (List PlA) → Prop
  | none => vt = .slice none 0 0
  | some ps => w.ownsRow 0 9 1 vt ps.length (txts ps)
set_option maxRecDepth 100000 in
set_option maxHeartbeats 2000000 in
theorem types_v (S : List FieldA) (so : Option Addr) (sc : Nat) (l : List ValA) (v : Value) (w : World) (hO : Ops w) (hT : Types w) (hS : FldsAt w (.slice so S.length sc) S) (h : ValsAt w v l) (hI : InR l) :
    Calls Tryd.prog 7 #[.agg #[.slice so S.length sc], v] w fun e w' => ∃ vt, e = .returned (.tuple #[vt, .int .i64 (lookA S l).2.2]) ∧ Texted w' vt (lookA S l).1 ∧ Keeps (fun _ => False) w w' := by
  obtain ⟨ao, cap, rfl⟩ := RowAt.form h
  obtain ⟨HB, hbb, hbc⟩ := boxed w #[.slice so S.length sc] 24
  have s0 := hbc 0 (.slice so S.length sc) rfl
  have HQ := hide (look_v S so sc l _ _ (hO.keepF (unhide HB)) (hT.keepF (unhide HB)) (hS.keepF (unhide HB)) (h.keepF (unhide HB)) hI)
  have HTL := hide (look_tells S l)
  generalize lookA S l = R at *
  generalize hWb : w.alloc (.cells #[.slice so S.length sc] 24) = Wb at *
  clear hbc h hO hS hI hT
  go_enter Tryd.func7, Tryd.ntmps7
  go_wp2_with fail
  refine (unhide HQ).mono ?_
  rintro e w1 ⟨pv, rfl, hfo, hk1⟩
  have HK1 := hide ((unhide HB).trans hk1)
  clear hk1 HQ
  rcases unhide HTL with ⟨k', e', rfl, he'⟩ | ⟨ps, rfl, q1, hok, hpl, hl96, q2, q3, q4⟩
  · obtain rfl : pv = .slice none 0 0 := hfo
    have be : (e' != 0) = true := by rw [bne_iff_ne]; exact he'
    clear HTL he'
    simp only
    go_wp2_with fail
    go_ret2
    exact ⟨_, rfl, rfl, unhide HK1⟩
  · obtain ⟨pb, rfl, hpb, hpls, hpn⟩ := hfo
    have HP := hide hpls
    have HSM := hide hok.small
    have hmk := run_mks ps.length (by omega)
    have HO0 := hide (owns_mks w1 ps.length (by omega))
    have HK0 := hide ((Keeps.refl (fun _ => False) w1).alloc (.cells (madeCells #[.string ⟨#[]⟩] ps.length) 9))
    simp only
    rw [← hpl, show ((0 : Nat) : Int) = 0 from rfl]
    have hN : ps.length ≤ 97 := by omega
    have HWB : Hid (Wb.heap.size ≤ pb) := hpb
    clear HTL hok hpls hpl hpn q1 q2 q3 q4 hpb
    go_wp2_with fail
    clear hmk
    have hO1 : (w1.alloc (.cells (madeCells #[.string ⟨#[]⟩] ps.length) 9)).ownsRow w1.heap.size 9 1 (.slice (some ⟨w1.heap.size, 0, none⟩) ps.length ps.length) ps.length (rowT ps 0) := by
      have := unhide HO0
      simpa [rowT, txts] using this
    have HO1 := hide hO1
    clear hO1 HO0
    generalize hg : w1.heap.size = g at *
    generalize w1.alloc (.cells (madeCells #[.string ⟨#[]⟩] ps.length) 9) = W1 at *
    go_loopw [27] (fun i wr => ∃ k : Nat, k ≤ ps.length ∧ i = .int .i64 k ∧ wr.ownsRow g 9 1 (.slice (some ⟨g, 0, none⟩) ps.length ps.length) ps.length (rowT ps k) ∧ Keeps (fun _ => False) w1 wr) (fun i _ => ps.length - (intOf i).toNat)
    case atStart => exact ⟨0, Nat.zero_le _, rfl, unhide HO1, unhide HK0⟩
    case round =>
      obtain ⟨k, hk, rfl, ho, hkp⟩ := hrel
      by_cases hlt : k < ps.length
      · obtain ⟨P, hP⟩ : ∃ P, ps[k]? = some P := ⟨_, List.getElem?_eq_getElem hlt⟩
        obtain ⟨hP16, p0, p2, pv, p1, hown⟩ := ((unhide HP).keepF hkp).at' k P hP
        obtain ⟨po, pc, rfl⟩ := (rowAt_own hown).form
        obtain ⟨HY, hyb, hyc⟩ := boxed wr #[.bool P.r, .slice po P.st.length pc, .bool P.u] 51
        have b0 := hyc 0 (.bool P.r) rfl
        have b1 := hyc 1 (.slice po P.st.length pc) rfl
        have b2 := hyc 2 (.bool P.u) rfl
        have HKY := hide (hkp.trans (unhide HY))
        have HOY := hide (ownsRow_kept ho (unhide HY) (fun _ _ => id))
        have hsm := (unhide HSM) k (P.r, P.st) (by rw [List.getElem?_map, hP]; rfl)
        generalize hWY : wr.alloc (.cells #[.bool P.r, .slice po P.st.length pc, .bool P.u] 51) = WY at *
        have HQ := hide (typesText_v P.r P.u P.st (.slice po P.st.length pc) WY (rowAt_own (ownsRow_kept hown (unhide HY) (fun _ _ => id))) hP16 (fun _ => hsm.2))
        have HSET := hide (rowT_set hP)
        have i2 : (k : Int) < (ps.length : Int) := by omega
        have i0' : (0 : Int) ≤ (k : Int) := by omega
        generalize txtP P.r P.st = TX at *
        obtain ⟨Pr, Pst, Pu⟩ := P
        simp only at *
        clear hyc hkp hown ho HY hP hsm
        go_wp2_with fail
        refine (unhide HQ).mono ?_
        rintro e w3 ⟨rfl, hk3⟩
        have HK3 := hide ((unhide HKY).trans hk3)
        have ho3 := ownsRow_kept (unhide HOY) hk3 (fun _ _ => id)
        have f3 := ho3.frozenAt k
        obtain ⟨dd, d3⟩ : ∃ dd, w3.cell? ⟨g, k, none⟩ = some dd := ⟨_, (ho3.cellAt k (by omega)).trans (List.getElem?_eq_getElem (by rw [rowT_length hk]; exact hlt))⟩
        have HST := hide ((ho3.stored k (str TX)).1)
        rw [unhide HSET] at HST
        have HKS := hide ((unhide HK3).then (keeps_set w3 g k (str TX)) (fun i hi q => by omega))
        clear hk3 ho3 HQ HSET
        go_wp2_with fail
        go_roundw
        case rel => exact ⟨k + 1, by omega, by go_num, unhide HST, unhide HKS⟩
        case measure => simp [intOf]; omega
      · obtain rfl : k = ps.length := by omega
        have i2 : ¬ (ps.length : Int) < (ps.length : Int) := by omega
        have HE := hide ho
        have HKE := hide hkp
        rw [rowT_end] at HE
        clear hlt ho hkp
        go_wp2_with fail
        go_ret2
        exact ⟨_, rfl, ownsRow_lower (unhide HE) (Nat.zero_le _), (unhide HK1).trans (unhide HKE)⟩

end Go.Proofs.YtafniangljmjeabDoor
namespace Go.Proofs.YtafniangljmjeabDoor
open Go.RowKit Go.Maps
/-- Texts in a slice. -/
def StrsAt (w : World) (v : Value) (l : List Txt) : Prop := RowAt w v l.length (l.map str)
theorem StrsAt.keepF {w w' : World} {v : Value} {l : List Txt} (h : StrsAt w v l) (hk : Keeps (fun _ => False) w w') : StrsAt w' v l := RowAt.keepF h hk
theorem StrsAt.cells {w : World} {v : Value} {l : List Txt} (h : StrsAt w v l) (h0 : 0 < l.length) :
    ∃ b off cap, v = .slice (some ⟨b, off, none⟩) l.length cap ∧ b < w.heap.size ∧ ∀ (i : Nat) (x : Txt), l[i]? = some x → w.cell? ⟨b, off + i, none⟩ = some (str x) := by
  obtain ⟨b, off, cap, e, hb, hc⟩ := RowAt.cells h h0
  exact ⟨b, off, cap, e, hb, fun i x hx => hc i _ (by simp [hx])⟩
set_option maxRecDepth 100000 in
set_option maxHeartbeats 2000000 in
theorem eqStrings_v (w : World) (va vb : Value) (la lb : List Txt) (ha : StrsAt w va la) (hb : StrsAt w vb lb) (hla : la.length ≤ maxLen) :
    Calls Tryd.prog 10 #[va, vb] w fun e w' => e = .returned (.bool (decide (la = lb))) ∧ Keeps (fun _ => False) w w' := by
  obtain ⟨ao, capa, rfl⟩ := RowAt.form ha
  obtain ⟨bo, capb, rfl⟩ := RowAt.form hb
  unfold maxLen at hla
  by_cases hlen : la.length = lb.length
  · have hne : ((la.length : Int) != (lb.length : Int)) = false := by simp [hlen]
    have HA := hide ha
    have HB := hide hb
    have HL := hide hlen
    clear ha hb hlen
    go_enter Tryd.func10, Tryd.ntmps10
    go_wp2_with fail
    go_loopw [5] (fun i wr => ∃ k : Nat, k ≤ la.length ∧ i = .int .i64 k ∧ Hid (la.take k = lb.take k) ∧ ∃ n, wr = w.drewN n) (fun i _ => la.length - (intOf i).toNat)
    case atStart => exact ⟨0, Nat.zero_le _, rfl, rfl, 0, rfl⟩
    case round =>
      obtain ⟨k, hk, rfl, HT, n, rfl⟩ := hrel
      by_cases hlt : k < la.length
      · have hltb : k < lb.length := by have := unhide HL; omega
        obtain ⟨b1, o1, c1, e1, _, hc1⟩ := (unhide HA).cells (by omega)
        obtain ⟨b2, o2, c2, e2, _, hc2⟩ := (unhide HB).cells (by omega)
        simp at e1 e2
        obtain ⟨rfl, rfl⟩ := e1
        obtain ⟨rfl, rfl⟩ := e2
        obtain ⟨x, hx⟩ : ∃ x, la[k]? = some x := ⟨_, List.getElem?_eq_getElem hlt⟩
        obtain ⟨y, hy⟩ : ∃ y, lb[k]? = some y := ⟨_, List.getElem?_eq_getElem hltb⟩
        have p0 := hc1 k x hx
        have q0 := hc2 k y hy
        have i1 : (k : Int) < (la.length : Int) := by omega
        have i2 : (k : Int) < (lb.length : Int) := by omega
        have i0 : (0 : Int) ≤ (k : Int) := by omega
        have HX := hide hx
        have HY := hide hy
        clear hc1 hc2 hx hy
        by_cases h1 : x = y
        · subst h1
          go_wp2_with fail
          go_quiet (fail)
          go_wp2_with fail
          go_roundw
          case rel => exact ⟨k + 1, by omega, by go_num, take_succ_eq (unhide HT) (unhide HX) (unhide HY), _, rfl⟩
          case measure => simp [intOf]; omega
        · have h3' : (!x == y) = true := by simpa using h1
          have HN := hide h1
          clear h1
          go_wp2_with fail
          go_quiet (fail)
          go_wp2_with fail
          go_ret
          exact ⟨ret_bool (by symm; rw [decide_eq_false_iff_not]; exact get_ne (unhide HX) (unhide HY) (unhide HN)), (keeps_drewN _ _).drewN _⟩
      · have HF := hide (take_end (unhide HL) (by omega) (unhide HT))
        have i1 : ¬ (k : Int) < (la.length : Int) := by omega
        go_wp2_with fail
        go_ret
        exact ⟨ret_bool (by symm; rw [decide_eq_true_iff]; exact unhide HF), keeps_drewN _ _⟩
  · have hne : ((la.length : Int) != (lb.length : Int)) = true := by rw [bne_iff_ne]; omega
    have HL := hide hlen
    clear hlen
    go_enter Tryd.func10, Tryd.ntmps10
    go_wp2_with fail
    go_ret
    exact ⟨ret_bool (by symm; rw [decide_eq_false_iff_not]; intro e; exact unhide HL (by rw [e])), Keeps.refl _ _⟩
theorem refA_none {S : List FieldA} {l : List ValA} {k : Nat} {e : Int} (h : lookA S l = (none, k, e)) : refA S l = (0, k, e) := by rw [← verify_ref]; unfold verifyA; rw [h]; rfl
theorem refA_some {S : List FieldA} {l : List ValA} {ps : List PlA} (h : lookA S l = (some ps, 0, 0)) : refA S l = (deepA ps, 0, 0) := by rw [← verify_ref]; unfold verifyA; rw [h]; rfl
theorem txts_get {ps : List PlA} {k : Nat} {p : PlA} (h : ps[k]? = some p) : (txts ps)[k]? = some (str (txtP p.r p.st)) := by simp [txts, h]
set_option maxRecDepth 100000 in
set_option maxHeartbeats 2000000 in
theorem refTypes_v (S : List FieldA) (so : Option Addr) (sc : Nat) (l : List ValA) (v : Value) (w : World) (hS : FldsAt w (.slice so S.length sc) S) (h : ValsAt w v l) (hI : InR l) :
    Calls Tryd.prog 9 #[.agg #[.slice so S.length sc], v] w fun e w' => ∃ vt, e = .returned (.tuple #[vt, .int .i64 (lookA S l).2.2]) ∧ Texted w' vt (lookA S l).1 ∧ Keeps (fun _ => False) w w' := by
  obtain ⟨j9, hj9, hz90, hz91, hz92⟩ := info_parts Tryd.info9s
  obtain ⟨ao, cap, rfl⟩ := RowAt.form h
  obtain ⟨HB, hbb, hbc⟩ := boxed w #[.slice so S.length sc] 24
  have s0 := hbc 0 (.slice so S.length sc) rfl
  have HS := hide (hS.keepF (unhide HB))
  have HV := hide (h.keepF (unhide HB))
  generalize hWb : w.alloc (.cells #[.slice so S.length sc] 24) = Wb at *
  have HQ := hide (refVerify_v S so sc l _ Wb (unhide HS) (unhide HV) hI)
  clear hbc h hS hI
  rcases look_tells S l with ⟨k', e', hlk, he'⟩ | ⟨ps, hlk, hpa, hok, hpl, hl96, hSK, hF, hTG⟩
  · rw [hlk]
    rw [refA_none hlk] at HQ
    have be : (e' != 0) = true := by rw [bne_iff_ne]; exact he'
    simp only at HQ ⊢
    clear hlk he'
    go_enter Tryd.func9, Tryd.ntmps9
    go_wp2_with fail
    refine (unhide HQ).mono ?_
    rintro e w1 ⟨rfl, hk1⟩
    go_wp2_with fail
    go_ret2
    exact ⟨_, rfl, rfl, (unhide HB).trans hk1⟩
  · rw [hlk]
    rw [refA_some hlk] at HQ
    simp only at HQ ⊢
    have HST := hide (fun (W : World) (hW : Keeps (fun _ => False) Wb W) => stacks_v S so sc l _ W ((unhide HS).keepF hW) ((unhide HV).keepF hW) hl96 hSK hF)
    rw [hpa] at HST
    have hps : 0 < ps.length := by omega
    have hps2 : ps.length ≤ 97 := by omega
    generalize deepA ps = DP at *
    clear hlk hpa hok hSK hF hTG hpl
    go_enter Tryd.func9, Tryd.ntmps9
    go_wp2_with fail
    refine (unhide HQ).mono ?_
    rintro e w1 ⟨rfl, hk1⟩
    have HK1 := hide hk1
    have s1 := (hk1.cell (o := 0) hbb id).trans s0
    have HQ2 := hide ((unhide HST) w1 hk1)
    clear hk1 HQ HST
    rw [show ((0 : Nat) : Int) = 0 from rfl]
    go_wp2_with fail
    refine (unhide HQ2).mono ?_
    rintro e w2 ⟨vb, vs, bad, rfl, hst, hk2⟩
    obtain ⟨rfl, ho1, ho2⟩ := hst
    rw [List.length_map] at ho1 ho2
    obtain ⟨g1, c1, rfl, _, hg1⟩ := World.ownsRow.form ho1 hps
    obtain ⟨g2, c2, rfl, _, hg2⟩ := World.ownsRow.form ho2 hps
    have HO1 := hide ho1
    have HO2 := hide ho2
    have HK2 := hide (((unhide HB).trans (unhide HK1)).trans hk2)
    clear ho1 ho2 hk2 HQ2
    go_wp2_with fail
    go_loopw [12, 13] (fun o i wr => ∃ k : Nat, k ≤ ps.length ∧ i = .int .i64 k ∧ wr.ownsRow w2.heap.size 9 1 o k (txts (ps.take k)) ∧ Keeps (fun _ => False) w2 wr) (fun _ i _ => ps.length - (intOf i).toNat)
    case atStart => exact ⟨0, Nat.zero_le _, rfl, by simpa [txts] using World.ownsRow_nil w2 w2.heap.size 9 1, Keeps.refl _ _⟩
    case round =>
      obtain ⟨k, hk, rfl, ho, hkp⟩ := hrel
      have HO := hide ho
      have HK := hide hkp
      have i0' : (0 : Int) ≤ (k : Int) := by omega
      by_cases hlt : k < ps.length
      · obtain ⟨P, hP⟩ : ∃ P, ps[k]? = some P := ⟨_, List.getElem?_eq_getElem hlt⟩
        have hPP : (ps.map pairP)[k]? = some (pairP P) := by rw [List.getElem?_map, hP]; rfl
        have d1 := (hkp.cell (o := k) hg1 id).trans (((unhide HO1).cellAt k (by omega)).trans (rbs_get hPP))
        have d2 := (hkp.cell (o := k) hg2 id).trans (((unhide HO2).cellAt k (by omega)).trans (rss_get hPP))
        have i1 : (k : Int) < (ps.length : Int) := by omega
        have HTK : Hid (txts (ps.take (k + 1)) = txts (ps.take k) ++ [str (txtP P.r P.st)]) := by show _ = _; rw [take_snoc _ _ _ hP]; simp [txts]
        obtain ⟨Pr, Pst, Pu⟩ := P
        unfold pairP at d1 d2
        simp only at d1 d2 HTK
        clear hP hPP ho hkp
        cases Pr with
        | true =>
          obtain ⟨q1, hq1⟩ : ∃ q1, Pst.map letR = q1 := ⟨_, rfl⟩
          rw [show txtP true Pst = q1 by unfold txtP; rw [if_pos rfl, hq1]] at HTK
          rw [hq1] at d2
          clear hq1
          go_wp2_with (at_builtin; refine wpList_append_lies _ rfl _ _ _ rfl w2.heap.size 9 j9 _ 1 16 Tryd.underlying27 hj9 hz90 hz91 hz92 rfl (by omega) u12 k (txts (ps.take k)) rfl ((unhide HO).alloc _) ⟨wr.heap.size, 0, none⟩ 1 1 [str q1] rfl rfl (World.news_of_block (cs := #[str q1]) (t := 9) (fr := (0, 0)) (heap_alloc_new wr _)) (by simp [Value.oneCell']) (by omega) (by unfold maxLen; omega) (by omega) (by have := (unhide HK).size; simp; omega) (wr.heap.size + 1) (by simp) ?_; intro g3 c3 w3 hown3 hgrow3 hat3 hlt3)
          go_roundw
          case rel => exact ⟨k + 1, by omega, by go_num, by rw [unhide HTK]; exact hown3, ((unhide HK).alloc _).grown hgrow3 (fun q e hq => by have := ((unhide HO).lt q e).1; omega)⟩
          case measure => simp [intOf]; omega
        | false =>
          rw [show txtP false Pst = [45] by rfl] at HTK
          go_wp2_with (at_builtin; refine wpList_append_lies _ rfl _ _ _ rfl w2.heap.size 9 j9 _ 1 16 Tryd.underlying27 hj9 hz90 hz91 hz92 rfl (by omega) u12 k (txts (ps.take k)) rfl ((unhide HO).alloc _) ⟨wr.heap.size, 0, none⟩ 1 1 [str [45]] rfl rfl (World.news_of_block (cs := #[str [45]]) (t := 9) (fr := (0, 0)) (heap_alloc_new wr _)) (by simp [Value.oneCell']) (by omega) (by unfold maxLen; omega) (by omega) (by have := (unhide HK).size; simp; omega) (wr.heap.size + 1) (by simp) ?_; intro g3 c3 w3 hown3 hgrow3 hat3 hlt3)
          go_roundw
          case rel => exact ⟨k + 1, by omega, by go_num, by rw [unhide HTK]; exact hown3, ((unhide HK).alloc _).grown hgrow3 (fun q e hq => by have := ((unhide HO).lt q e).1; omega)⟩
          case measure => simp [intOf]; omega
      · obtain rfl : k = ps.length := by omega
        have i1 : ¬ (ps.length : Int) < (ps.length : Int) := by omega
        rw [List.take_length] at HO
        clear hlt ho hkp
        go_wp2_with fail
        go_ret2
        exact ⟨_, rfl, ownsRow_lower (unhide HO) (Nat.zero_le _), (unhide HK2).trans (unhide HK)⟩

end Go.Proofs.YtafniangljmjeabDoor
namespace Go.Proofs.YtafniangljmjeabDoor
open Go.RowKit Go.Maps
theorem strs_own {w : World} {vt : Value} {ps : List PlA} {B : Nat} (h : w.ownsRow B 9 1 vt ps.length (txts ps)) : StrsAt w vt (ps.map fun p => txtP p.r p.st) := by
  have := rowAt_own h
  unfold StrsAt
  rw [List.length_map, List.map_map]
  exact this
def txtsO : Option (List PlA) → List Txt
  | none => []
  | some ps => ps.map fun p => txtP p.r p.st
theorem texted_strs {w : World} {vt : Value} {o : Option (List PlA)} (h : Texted w vt o) : StrsAt w vt (txtsO o) := by
  cases o with
  | none =>
    obtain rfl : vt = .slice none 0 0 := h
    exact ⟨⟨_, _, rfl⟩, fun h0 => by simp [txtsO] at h0, fun ao m cap e => by simp at e; omega⟩
  | some ps => exact strs_own h
theorem texted_kept {w w' : World} {vt : Value} {o : Option (List PlA)} (h : Texted w vt o) (hk : Keeps (fun _ => False) w w') : Texted w' vt o := by
  cases o with
  | none => exact h
  | some ps => exact ownsRow_kept h hk (fun _ _ => id)
theorem txtsO_le {S : List FieldA} {l : List ValA} : (txtsO (lookA S l).1).length ≤ maxLen := by
  rcases look_tells S l with ⟨k', e', hlk, he'⟩ | ⟨ps, hlk, _, _, hpl, hl96, _, _, _⟩
  · rw [hlk]; simp [txtsO]
  · rw [hlk]
    unfold maxLen
    simp [txtsO]
    omega
set_option maxRecDepth 100000 in
set_option maxHeartbeats 2000000 in
theorem types_law (S : List FieldA) (so : Option Addr) (sc : Nat) (hSl : S.length ≤ 4398046511104) (l : List ValA) (hl : l.length ≤ 4398046511104) (hI : InR l) (v : Value) (w : World) (hE : Env w) (hS : FldsAt w (.slice so S.length sc) S) (h : ValsAt w v l) :
    Calls Tryd.prog 3 #[.agg #[.slice so S.length sc], v] w fun e w' => e = .returned (.bool true) ∧ Keeps (fun _ => False) w w' := by
  obtain ⟨ao, cap, rfl⟩ := RowAt.form h
  obtain ⟨HB, hbb, hbc⟩ := boxed w #[.slice so S.length sc] 24
  have s0 := hbc 0 (.slice so S.length sc) rfl
  have HS := hide (hS.keepF (unhide HB))
  have HV := hide (h.keepF (unhide HB))
  have HE := hide (hE.keepF (unhide HB))
  generalize hWb : w.alloc (.cells #[.slice so S.length sc] 24) = Wb at *
  have HQ := hide (twin_v Wb (.slice so S.length sc) S (unhide HS) hSl)
  clear h hE hS hbc
  go_enter Tryd.func3, Tryd.ntmps3
  go_wp2_with fail
  refine (unhide HQ).mono ?_
  rintro e w1 ⟨v1, rfl, ho1, hk1⟩
  obtain ⟨to, tc, rfl⟩ := (rowAt_own ho1).form
  obtain ⟨HX, hxb, hxc⟩ := boxed w1 #[.slice to S.length tc] 24
  have t0 := hxc 0 (.slice to S.length tc) rfl
  have HK1 := hide (hk1.trans (unhide HX))
  have HT1 := hide (ownsRow_kept ho1 (unhide HX) (fun _ _ => id))
  have s1 := ((unhide HK1).cell hbb id).trans s0
  have hbb1 := Nat.lt_of_lt_of_le hbb (unhide HK1).size
  clear hk1 ho1 hxc HX HQ hWb
  generalize hW1 : w1.alloc (.cells #[.slice to S.length tc] 24) = W1 at *
  have hd1 := (Keeps.refl (fun _ => False) W1).drew
  have HKD := hide ((unhide HK1).trans hd1)
  have HTD := hide (ownsRow_kept (unhide HT1) hd1 (fun _ _ => id))
  have HC := hide (copied_v W1.drew (.slice ao l.length cap) l ((unhide HV).keepF (unhide HKD)) hl)
  clear hd1
  go_wp2_with fail
  clear hW1
  go_region_held3 (fun w' => w'.cell? ⟨w1.heap.size, 0, none⟩ = some (.slice to S.length tc))
    (go_keep)
    (first
      | (go_at_call 8
         refine (unhide HC).mono ?_
         rintro e w3 ⟨v3, rfl, ho3, hk3⟩
         have y0 := (hk3.cell (o := 0) hxb id).trans t0
         have HK3 := hide ((unhide HKD).trans hk3)
         have HT3 := hide (ownsRow_kept (unhide HTD) hk3 (fun _ _ => id))
         have HVV := hide (types_v S to tc l v3 w3 ((unhide HE).keepF (unhide HK3)).ops ((unhide HE).keepF (unhide HK3)).types (rowAt_own (unhide HT3)) (rowAt_own ho3) hI)
         have hx3 := Nat.lt_of_lt_of_le hxb hk3.size)
      | (go_at_call 7
         refine (unhide HVV).mono ?_
         rintro e w4 ⟨vt, rfl, htx, hk4⟩
         have y1 := (hk4.cell (o := 0) hx3 id).trans y0))
  have HK4 := hide ((unhide HK3).trans hk4)
  have HT4 := hide (ownsRow_kept (unhide HT3) hk4 (fun _ _ => id))
  have s3 := (hk3.cell (o := 0) hbb1 id).trans s1
  have hb3 := Nat.lt_of_lt_of_le hbb1 hk3.size
  have s4 := (hk4.cell (o := 0) hb3 id).trans s3
  have hb4 := Nat.lt_of_lt_of_le hb3 hk4.size
  have hx4 := Nat.lt_of_lt_of_le hx3 hk4.size
  have HTX := hide htx
  have HQ4 := hide (refTypes_v S so sc l (.slice ao l.length cap) w4 ((unhide HS).keepF (unhide HK4)) ((unhide HV).keepF (unhide HK4)) hI)
  have hle := txtsO_le (S := S) (l := l)
  generalize lookA S l = LK at *
  obtain ⟨lo, lk, le⟩ := LK
  simp only at *
  clear hk3 hk4 ho3 HVV HC y0 s3 s1 htx
  go_wp2_with fail
  refine (unhide HQ4).mono ?_
  rintro e w5 ⟨vm, rfl, htm, hk5⟩
  have HK5 := hide ((unhide HK4).trans hk5)
  have HT5 := hide (ownsRow_kept (unhide HT4) hk5 (fun _ _ => id))
  have s5 := (hk5.cell (o := 0) hb4 id).trans s4
  have t5 := (hk5.cell (o := 0) hx4 id).trans y1
  have hb5 := Nat.lt_of_lt_of_le hb4 hk5.size
  have hx5 := Nat.lt_of_lt_of_le hx4 hk5.size
  have HQ5 := hide (eqStrings_v w5 vt vm (txtsO lo) (txtsO lo) (texted_strs (texted_kept (unhide HTX) hk5)) (texted_strs htm) hle)
  rw [decide_eq_true rfl] at HQ5
  clear hk5 HQ4 s4 y1 htm
  go_wp2_with fail
  refine (unhide HQ5).mono ?_
  rintro e w6 ⟨rfl, hk6⟩
  have HK6 := hide ((unhide HK5).trans hk6)
  have s6 := (hk6.cell (o := 0) hb5 id).trans s5
  have t6 := (hk6.cell (o := 0) hx5 id).trans t5
  have HQ6 := hide (eqSchema_any w6 (.slice to S.length tc) (.slice so S.length sc) S S (rowAt_own (ownsRow_kept (unhide HT5) hk6 (fun _ _ => id))) ((unhide HS).keepF (unhide HK6)) (by unfold maxLen; omega))
  rw [decide_eq_true rfl] at HQ6
  clear hk6 HQ5 s5 t5
  go_wp2_with fail
  refine (unhide HQ6).mono ?_
  rintro e w7 ⟨rfl, hk7⟩
  go_wp2_with fail
  go_ret
  exact ⟨rfl, ((unhide HB).trans (unhide HK6)).trans hk7⟩
theorem types_any (S : List FieldA) (hSl : S.length ≤ 4398046511104) (l : List ValA) (hl : l.length ≤ 4398046511104) (hI : InR l) (sv v : Value) (w : World) (hE : Env w) (hS : FldsAt w sv S) (h : ValsAt w v l) :
    Calls Tryd.prog 3 #[.agg #[sv], v] w fun e w' => e = .returned (.bool true) ∧ Keeps (fun _ => False) w w' := by
  obtain ⟨so, sc, rfl⟩ := RowAt.form hS
  exact types_law S so sc hSl l hl hI v w hE hS h

end Go.Proofs.YtafniangljmjeabDoor
