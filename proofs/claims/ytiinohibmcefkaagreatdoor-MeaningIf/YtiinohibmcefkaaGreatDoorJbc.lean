import Derived.Test.YtiinohibmcefkaaGreatDoorVm1
import Derived.Test.YtiinohibmcefkaaGreatDoorJbb
import Derived.Test.YtiinohibmcefkaaGreatDoorJak
import Derived.Test.YtiinohibmcefkaaGreatDoorJaf
import Derived.Test.YtiinohibmcefkaaGreatDoorJaj
import Derived.Test.YtiinohibmcefkaaGreatDoorJaa
import Derived.Test.YtiinohibmcefkaaGreatDoorKr
import Derived.Test.YtiinohibmcefkaaGreatDoorJap
import Derived.Test.YtiinohibmcefkaaGreatDoorJam
import Derived.Test.YtiinohibmcefkaaGreatDoorJaq
namespace Go.Proofs.YtiinohibmcefkaaGreatDoor
open Go.RowKit Go.Maps

/-- What Run answers. -/
def runP (S : List FieldA) (l : SL) (h : Bool) (vals : List ValA) : (Bool × List ValA) × Int := chainP S [l] h vals
set_option maxRecDepth 100000 in
set_option maxHeartbeats 2000000 in
theorem mrun_v (Z : Zone) (S : List FieldA) (l : SL) (hsz : l.size ≤ 4294967294) (h : Bool) (vals : List ValA) (sv u pv : Value) (w : World) (up : Nat) (hT : Types w) (hF : Forms w) (hf : FldsAt w sv S) (hu : ValsAt w u vals) (hp : SlS Z w up pv l) :
    Calls Tryz.prog 12 #[.agg #[sv], pv, .agg #[.bool h, u]] w (RowPost w (runP S l h vals)) := by
  obtain ⟨so, sc, rfl⟩ := RowAt.form hf
  obtain ⟨uo, uc, rfl⟩ := RowAt.form hu
  obtain ⟨po, pc, rfl, _⟩ := hp.head
  obtain ⟨X, hX, P⟩ := proC_of w (.slice so S.length sc) h (.slice uo vals.length uc)
  have a := cell_of_blk P.s0 0
  have c := cell_of_blk P.r0 0
  have d := cell_of_blk P.r0 1
  simp at a c d
  obtain ⟨HB, hxb, hxc⟩ := boxed X #[.slice po l.len pc] 28
  have hk := P.kept.trans (unhide HB)
  have hps : PsAt Z (X.alloc (.cells #[.slice po l.len pc] 28)) up (.slice (some ⟨X.heap.size, 0, none⟩) 1 1) [l] := ⟨_, _, rfl, fun _ => ⟨X.heap.size, 0, rfl, hxb, fun i m hm => by
    rcases i with _ | i
    · simp at hm
      subst hm
      exact ⟨_, hxc 0 _ rfl, hp.keepF hk⟩
    · simp at hm⟩⟩
  have HC := hide (chain_v Z S [l] (by simp) (fun m hm => by simp at hm; subst hm; exact hsz) h vals (.slice so S.length sc) (.slice uo vals.length uc) _ _ up (hT.keepF hk) (hF.keepF hk) (hf.keepF hk) (hu.keepF hk) hps)
  have hone : ∀ w2 : World, Keeps (fun _ => False) (X.alloc (.cells #[.slice po l.len pc] 28)) w2 → w2.cell? ⟨w.heap.size + 1 + 1, 0, none⟩ = some (.bool false) ∧ w2.cell? ⟨w.heap.size + 1 + 1, 1, none⟩ = some (.slice none 0 0) ∧ w2.frozen? ⟨w.heap.size + 1 + 1, 0, none⟩ = false ∧ w2.frozen? ⟨w.heap.size + 1 + 1, 1, none⟩ = false := fun w2 hk => by
    have z := (((unhide HB).trans hk).block _ (lt_of_block P.z0) id).trans P.z0
    exact ⟨(cell_of_blk z _).trans rfl, (cell_of_blk z _).trans rfl, frozen_of_blk z 0, frozen_of_blk z 1⟩
  have hset : ∀ (w2 : World) (x y : Value), Keeps (fun _ => False) (X.alloc (.cells #[.slice po l.len pc] 28)) w2 → ((w2.setCell ⟨w.heap.size + 1 + 1, 0, none⟩ x).setCell ⟨w.heap.size + 1 + 1, 1, none⟩ y).cell? ⟨w.heap.size + 1 + 1, 0, none⟩ = some x ∧ ((w2.setCell ⟨w.heap.size + 1 + 1, 0, none⟩ x).setCell ⟨w.heap.size + 1 + 1, 1, none⟩ y).cell? ⟨w.heap.size + 1 + 1, 1, none⟩ = some y ∧ Keeps (fun _ => False) w ((w2.setCell ⟨w.heap.size + 1 + 1, 0, none⟩ x).setCell ⟨w.heap.size + 1 + 1, 1, none⟩ y) ∧ w2.heap[w.heap.size + 1 + 1]? = some (.cells #[.bool false, .slice none 0 0] 31 (0, 0)) := fun w2 x y hk => by
    have z0 := (((unhide HB).trans hk).block _ (lt_of_block P.z0) id).trans P.z0
    have z := set2b z0 x y
    exact ⟨(cell_of_blk z _).trans rfl, (cell_of_blk z _).trans rfl, (P.kept.trans ((unhide HB).trans hk)).narrow (keeps_set2 _ _ _ _) (fun q e => by omega), z0⟩
  have HONE := hide hone
  have HSET := hide hset
  have hsz2 : w.heap.size ≤ (X.alloc (.cells #[.slice po l.len pc] 28)).heap.size := hk.size
  have HSZ := hide hsz2
  unfold runP
  clear hT hF hf hu hp hps hk hxc P hone hset hsz2
  generalize chainP S [l] h vals = R at *
  obtain ⟨⟨rh, rv⟩, rE⟩ := R
  go_enter Tryz.func12, Tryz.ntmps12
  go_wp2_with fail
  refine (unhide HC).mono ?_
  rintro e w1 ⟨ro, rc, rfl, hown, hk1⟩
  obtain ⟨m0, m1, g0, g1⟩ := unhide HONE _ hk1
  obtain ⟨o0, o1, hd, hz⟩ := unhide HSET w1 (.bool rh) (.slice ro rv.length rc) hk1
  have HOW : Hid (((w1.setCell ⟨w.heap.size + 1 + 1, 0, none⟩ (.bool rh)).setCell ⟨w.heap.size + 1 + 1, 1, none⟩ (.slice ro rv.length rc)).ownsRow w.heap.size 41 3 (.slice ro rv.length rc) rv.length (vcs rv)) :=
    ownsRow_kept (own_base (own_zero hown) (fun q e => Nat.le_trans (unhide HSZ) (hown.lt q e).1)) (keeps_set2 w1 _ _ _) (fun q e hq => ownsRow_ne hown hz (by decide) (by rw [e, hq]))
  have HD := hide hd
  clear hd hz hown hk1
  go_wp2_with fail
  refine bodyPost_ret (v := .tuple #[.agg #[.bool rh, .slice ro rv.length rc], .int .i64 rE]) (by simp [results, go_sem, o0, o1]) rfl ?_
  exact ⟨ro, rc, rfl, unhide HOW, unhide HD⟩
end Go.Proofs.YtiinohibmcefkaaGreatDoor
namespace Go.Proofs.YtiinohibmcefkaaGreatDoor
open Go.RowKit Go.Maps

theorem checkS_zero {l : SL} : checkS l = 0 ↔ wellS l = true ∧ countS l ≤ 32 ∧ depthS l ≤ 12 := by
  unfold checkS
  constructor
  · intro h
    split at h
    · cases h
    · rename_i h0
      split at h
      · cases h
      · split at h
        · cases h
        · exact ⟨by simpa using h0, by omega, by omega⟩
  · rintro ⟨h1, h2, h3⟩
    rw [if_neg (by simp [h1]), if_neg (by omega), if_neg (by omega)]
theorem firstBad_app (S : List FieldA) : ∀ (l m : SL) (k : Nat), firstBad S (l.app m) k = if (firstBad S l k).1 ≠ 0 then firstBad S l k else firstBad S m (k + l.len)
  | .nil, m, k => by simp [SL.app, firstBad, SL.len]
  | .cons op f x t e r, m, k => by
    have ih := firstBad_app S r m (k + 1)
    have hc : firstBad S (.cons op f x t e r) k = if ownP S op f x ≠ 0 then (ownP S op f x, k) else firstBad S r (k + 1) := rfl
    show (if ownP S op f x ≠ 0 then (ownP S op f x, k) else firstBad S (r.app m) (k + 1)) = _
    by_cases h : ownP S op f x ≠ 0
    · rw [if_pos h] at hc ⊢
      rw [hc, if_pos h]
    · rw [if_neg h] at hc ⊢
      rw [hc, ih, show (SL.cons op f x t e r).len = r.len + 1 from rfl, show k + 1 + r.len = k + (r.len + 1) by omega]
end Go.Proofs.YtiinohibmcefkaaGreatDoor
namespace Go.Proofs.YtiinohibmcefkaaGreatDoor
open Go.RowKit Go.Maps

/-- A value of a kind: of its type, or absent where it may be. -/
def FitK (k : KA) (v : ValA) : Prop := (goodV v ∧ v.kind = k.t) ∨ (k.o = true ∧ v = zV)
theorem FitK.plain {k : KA} {v : ValA} (h : FitK k v) (ho : k.o = false) : goodV v ∧ v.kind = k.t := by
  rcases h with h | ⟨h, _⟩
  · exact h
  · rw [ho] at h; cases h
theorem find_idx {S : List FieldA} {nm : Txt} {f : FieldA} (h : fieldOf S nm = some f) : S[placeP S nm]? = some f := by
  unfold fieldOf at h
  unfold placeP idxF
  cases hi : S.findIdx? (fun f => decide (f.name = nm)) with
  | none =>
    rw [List.findIdx?_eq_none_iff] at hi
    have := List.find?_some h
    have hm := List.mem_of_find?_eq_some h
    simp [hi f hm] at this
  | some i =>
    obtain ⟨hl, hp, hb⟩ := List.findIdx?_eq_some_iff_getElem.1 hi
    obtain ⟨hpf, pre, suf, hs, hn⟩ := List.find?_eq_some_iff_append.1 h
    have hi2 : pre.length = i := by
      rcases Nat.lt_trichotomy pre.length i with hlt | heq | hgt
      · have := hb pre.length hlt
        simp [hs] at this
        simp [this] at hpf
      · exact heq
      · have h1 := hn (pre[i]) (List.getElem_mem hgt)
        have h2 : S[i] = pre[i] := by
          simp only [hs]
          rw [List.getElem_append_left hgt]
        rw [h2] at hp
        simp [hp] at h1
    rw [← hi2]
    simp [hs]
theorem fits_kind {f : FieldA} {v : ValA} (h : fitsB f v = true) : FitK ⟨f.type, f.opt⟩ v := by
  by_cases h0 : v.kind = 0
  · unfold fitsB at h
    rw [if_pos h0] at h
    simp only [Bool.and_eq_true, decide_eq_true_eq] at h
    refine Or.inr ⟨h.1.1, ?_⟩
    obtain ⟨k, n, s⟩ := v
    simp only at h0 h
    simp [zV, h0, h.1.2, h.2]
  · obtain ⟨h1, h2⟩ := fits_good h h0
    exact Or.inl ⟨h1, h2⟩
theorem kind_fits {f : FieldA} {v : ValA} (h : FitK ⟨f.type, f.opt⟩ v) : fitsB f v = true := by
  rcases h with ⟨h1, h2⟩ | ⟨h1, rfl⟩
  · exact goodV_fits h1 h2
  · simp only at h1
    simp [fitsB, zV, h1]
theorem schema_types {S : List FieldA} (hS : schemaB S = true) {i : Nat} {f : FieldA} (hf : S[i]? = some f) : f.type = 1 ∨ f.type = 2 ∨ f.type = 3 := type_of (List.all_eq_true.1 (schemaB_ok hS) f (List.mem_of_getElem? hf))
theorem good_zero {t : Int} (h : t = 1 ∨ t = 2 ∨ t = 3) : goodV ⟨t, 0, []⟩ := by
  rcases h with rfl | rfl | rfl
  · exact Or.inl ⟨rfl, rfl⟩
  · exact Or.inr (Or.inl ⟨rfl, Or.inl rfl, rfl⟩)
  · exact Or.inr (Or.inr ⟨rfl, rfl, by simp⟩)
theorem zero_fit {f : FieldA} (h : f.type = 1 ∨ f.type = 2 ∨ f.type = 3) : FitK ⟨f.type, f.opt⟩ (zeroV f) := by
  unfold zeroV
  split
  · exact Or.inr ⟨‹_›, rfl⟩
  · exact Or.inl ⟨good_zero h, rfl⟩
/-- A row that fits the schema. -/
def RowFit (S : List FieldA) (h : Bool) (vals : List ValA) : Prop := if h then vals.length = S.length ∧ ∀ (i : Nat) f v, S[i]? = some f → vals[i]? = some v → fitsB f v = true else vals = []
theorem rowE_fit {S : List FieldA} {h : Bool} {vals : List ValA} (he : rowE S h vals = 0) : RowFit S h vals := by
  cases h with
  | false => exact rowE_nil he
  | true => exact rec_fits (rowE_true he).2
theorem field_fit {S : List FieldA} (hS : schemaB S = true) {h : Bool} {vals : List ValA} (hr : RowFit S h vals) {nm : Txt} {f : FieldA} (hf : fieldOf S nm = some f) : FitK ⟨f.type, f.opt⟩ (fieldV S h vals nm) := by
  have hp := find_idx hf
  unfold fieldV
  cases h with
  | true =>
    obtain ⟨hl, hv⟩ := hr
    have hlt := get_lt hp
    obtain ⟨v, hv1⟩ : ∃ v, vals[placeP S nm]? = some v := ⟨_, List.getElem?_eq_getElem (by omega)⟩
    simp only [if_true, hv1, Option.getD_some]
    exact fits_kind (hv _ f v hp hv1)
  | false =>
    have hz : (zeros S)[placeP S nm]? = some (zeroV f) := by unfold zeros; rw [List.getElem?_map, hp]; rfl
    simp only [Bool.false_eq_true, if_false, hz, Option.getD_some]
    exact zero_fit (schema_types hS hp)
theorem plain_zero {k : KA} {ts : List Int} (h : plainI k ts = 0) : ts.contains k.t = true ∧ k.o = false := by
  unfold plainI orI ofI at h
  by_cases hc : ts.contains k.t
  · rw [if_pos hc] at h
    simp only [if_true] at h
    refine ⟨hc, ?_⟩
    cases ho : k.o with
    | false => rfl
    | true => rw [ho] at h; simp at h
  · rw [if_neg hc] at h
    simp at h
theorem orI_zero {a b : Int} (h : orI a b = 0) : a = 0 ∧ b = 0 := by
  unfold orI at h
  split at h
  · exact ⟨‹_›, h⟩
  · exact absurd h ‹_›
/-- Values of kinds. -/
inductive FitL : List KA → List ValA → Prop
  | nil : FitL [] []
  | cons {k : KA} {v : ValA} {ks : List KA} {vs : List ValA} (h : FitK k v) (t : FitL ks vs) : FitL (k :: ks) (v :: vs)
theorem takesA1 {k : KA} {t : Int} (h : takesI [k] [t] = 0) : k.t = t ∧ k.o = false := by
  obtain ⟨h1, h2⟩ := orI_zero (show orI (plainI k [t]) (takesI [] []) = 0 from h)
  obtain ⟨h3, h4⟩ := plain_zero h1
  exact ⟨by simpa using h3, h4⟩
theorem takesK_zero {is : Int} {ts : List Int} {ks : List KA} (h : (takesK is ts ks).2 = 0) : takesI ks ts = 0 ∧ (takesK is ts ks).1 = ⟨is, false⟩ := by
  unfold takesK at h ⊢
  split at h
  · rename_i h1
    rw [if_pos h1]
    exact ⟨h1, rfl⟩
  · exact absurd h ‹_›
theorem fit_num (n : Int) : FitK ⟨1, false⟩ (numV n) := Or.inl ⟨good_num n, rfl⟩
theorem fit_tru (b : Bool) : FitK ⟨2, false⟩ (truV b) := Or.inl ⟨good_tru b, rfl⟩
theorem fit_byt {s : Txt} (h : s.length ≤ 20) : FitK ⟨3, false⟩ (bytV s) := Or.inl ⟨good_byt h, rfl⟩
/-- An operation on values of the kinds that it takes gives one of its own. -/
theorem op_fit (S : List FieldA) (o : Nat) (s : Txt) (h7 : 7 ≤ o) (h25 : o ≤ 25) {ks : List KA} {vs : List ValA} (hf : FitL ks vs) (hl : (ks.length : Int) = kidsB o) (hr : (ruleP S o s ks).2 = 0) : FitK (ruleP S o s ks).1 (opV o vs) := by
  have two : ∀ {a b : KA} {x y : ValA}, FitL [a, b] [x, y] → FitK a x ∧ FitK b y := fun h => by cases h with | cons h1 h2 => cases h2 with | cons h3 _ => exact ⟨h1, h3⟩
  rcases (show o = 7 ∨ o = 8 ∨ o = 9 ∨ o = 10 ∨ o = 11 ∨ o = 12 ∨ o = 13 ∨ o = 14 ∨ o = 15 ∨ o = 16 ∨ o = 17 ∨ o = 18 ∨ o = 19 ∨ o = 20 ∨ o = 21 ∨ o = 22 ∨ o = 23 ∨ o = 24 ∨ o = 25 by omega) with rfl | rfl | rfl | rfl | rfl | rfl | rfl | rfl | rfl | rfl | rfl | rfl | rfl | rfl | rfl | rfl | rfl | rfl | rfl
  · have e := (takesK_zero (show (takesK 2 [2] ks).2 = 0 from hr)).2
    show FitK (takesK 2 [2] ks).1 _
    rw [e]; exact fit_tru _
  · have e := (takesK_zero (show (takesK 1 [1] ks).2 = 0 from hr)).2
    show FitK (takesK 1 [1] ks).1 _
    rw [e]; exact fit_num _
  iterate 3
    · have e := (takesK_zero (show (takesK 1 [1, 1] ks).2 = 0 from hr)).2
      show FitK (takesK 1 [1, 1] ks).1 _
      rw [e]; exact fit_num _
  iterate 4 exact fit_tru _
  iterate 2 exact fit_tru _
  iterate 2
    · have e := (takesK_zero (show (takesK 2 [2, 2] ks).2 = 0 from hr)).2
      show FitK (takesK 2 [2, 2] ks).1 _
      rw [e]; exact fit_tru _
  · have hk2 : ks.length = 2 := by have : kidsB ((20 : Nat) : Int) = 2 := by decide
                                   omega
    obtain ⟨a, b, rfl⟩ := list2x hk2
    cases hf with | cons h1 h2 => cases h2 with | cons h3 h4 => cases h4 with | nil =>
      rename_i x y
      obtain ⟨q1, q2⟩ := orI_zero (show orI (optI a) (plainI b [a.t]) = 0 from hr)
      obtain ⟨q3, q4⟩ := plain_zero q2
      have hb := h3.plain q4
      have hbt : b.t = a.t := by simpa using q3
      show FitK ⟨a.t, false⟩ (if x.kind = 0 then y else x)
      split
      · exact Or.inl ⟨hb.1, by rw [hb.2, hbt]⟩
      · rename_i hx
        rcases h1 with ⟨g1, g2⟩ | ⟨_, rfl⟩
        · exact Or.inl ⟨g1, g2⟩
        · exact absurd rfl hx
  iterate 2
    · have e := (takesK_zero (show (takesK 1 [1, 1] ks).2 = 0 from hr)).2
      show FitK (takesK 1 [1, 1] ks).1 _
      rw [e]; exact fit_num _
  · have e := (takesK_zero (show (takesK 1 [3] ks).2 = 0 from hr)).2
    show FitK (takesK 1 [3] ks).1 _
    rw [e]; exact fit_num _
  · have e := (takesK_zero (show (takesK 3 [3, 3] ks).2 = 0 from hr)).2
    show FitK (takesK 3 [3, 3] ks).1 _
    rw [e]; exact fit_byt (cat_len _ _)
  · have hk3 : ks.length = 3 := by have : kidsB ((25 : Nat) : Int) = 3 := by decide
                                   omega
    obtain ⟨c, a, b, rfl⟩ := list3x hk3
    cases hf with | cons h1 h2 => cases h2 with | cons h3 h4 => cases h4 with | cons h5 h6 => cases h6 with | nil =>
      rename_i z x y
      obtain ⟨q1, q2⟩ := orI_zero (show orI (plainI c [2]) (orI (plainI a [a.t]) (plainI b [a.t])) = 0 from hr)
      obtain ⟨q3, q4⟩ := orI_zero q2
      obtain ⟨_, qa⟩ := plain_zero q3
      obtain ⟨qb, qc⟩ := plain_zero q4
      have hbt : b.t = a.t := by simpa using qb
      have ha := h3.plain qa
      have hb := h5.plain qc
      show FitK ⟨a.t, false⟩ (if z.n = 1 then x else y)
      split
      · exact Or.inl ha
      · exact Or.inl ⟨hb.1, by rw [hb.2, hbt]⟩
theorem leaf_fit {S : List FieldA} (hS : schemaB S = true) {h : Bool} {vals : List ValA} (hr : RowFit S h vals) {o : Nat} {n : Int} {s : Txt} (h1 : 1 ≤ o) (h6 : o ≤ 6) (hs : o = 3 → s.length ≤ 20) (hk : (ruleP S o s []).2 = 0) : FitK (ruleP S o s []).1 (leafV S h vals o n s) := by
  rcases (show o = 1 ∨ o = 2 ∨ o = 3 ∨ o = 4 ∨ o = 5 ∨ o = 6 by omega) with rfl | rfl | rfl | rfl | rfl | rfl
  · exact fit_num _
  · exact fit_tru _
  · exact fit_byt (hs rfl)
  · have hk' : (namedK S s).2 = 0 := hk
    show FitK (namedK S s).1 (fieldV S h vals s)
    unfold namedK at hk' ⊢
    cases hf : fieldOf S s with
    | none => rw [hf] at hk'; simp at hk'
    | some f => exact field_fit hS hr hf
  · exact fit_tru _
  · exact fit_tru _
theorem vals_fit {S : List FieldA} (hS : schemaB S = true) {h : Bool} {vals : List ValA} (hr : RowFit S h vals) : ∀ l : EL, wellE l = true → (kindsP S l).2 = 0 → FitL (kindsP S l).1 (valsP S h vals l)
  | .nil, _, _ => FitL.nil
  | .cons op n s kids rest, hw, hk => by
    simp only [wellE, Bool.and_eq_true] at hw
    rw [kindsP_cons] at hk ⊢
    by_cases h1 : (kindP S op s kids).2 = 0
    · by_cases h2 : (kindsP S rest).2 = 0
      · simp only [h1, h2, ne_eq, not_true_eq_false, if_false]
        rw [valsP_cons]
        refine FitL.cons ?_ (vals_fit hS hr rest hw.2.2 h2)
        have hroot := hw.1
        unfold rootB at hroot
        simp only [Bool.and_eq_true, decide_eq_true_eq] at hroot
        obtain ⟨o, rfl, ho1, ho25, _⟩ := kidsB_range op hroot.1
        unfold kindP at h1 ⊢
        by_cases h3 : (kindsP S kids).2 = 0
        · simp only [h3, ne_eq, not_true_eq_false, if_false] at h1 ⊢
          have ih := vals_fit hS hr kids hw.2.1 h3
          have hlen := kindsP_len S kids h3
          unfold nodeV
          by_cases h6 : (o : Int) ≤ 6
          · rw [if_pos h6]
            have hk0 : kids = .nil := EL.len0 (by
              have : kidsB (o : Int) = 0 := by unfold kidsB; rw [if_pos (by omega)]
              omega)
            subst hk0
            exact leaf_fit hS hr ho1 (by omega) (fun e => root_text hw.1 (by omega)) h1
          · rw [if_neg h6]
            exact op_fit S o s (by omega) ho25 ih (by rw [hlen]; exact hroot.2.1) h1
        · simp [h3] at h1
      · simp [h1, h2] at hk
    · simp [h1] at hk
theorem node_fit {S : List FieldA} (hS : schemaB S = true) {h : Bool} {vals : List ValA} (hr : RowFit S h vals) {op n : Int} {s : Txt} {kids : EL} (hb : rootB op n s kids.len = true) (hw : wellE kids = true) (hk : (kindP S op s kids).2 = 0) : FitK (kindP S op s kids).1 (nodeV S op n s kids h vals) := by
  have h1 := vals_fit hS hr (.cons op n s kids .nil) (by simp [wellE, hb, hw]) (by rw [kindsP_cons]; simp [hk, kindsP])
  rw [kindsP_cons, valsP_cons] at h1
  simp only [hk, ne_eq, not_true_eq_false, if_false, kindsP, valsP] at h1
  cases h1 with
  | cons h2 _ => exact h2
end Go.Proofs.YtiinohibmcefkaaGreatDoor
