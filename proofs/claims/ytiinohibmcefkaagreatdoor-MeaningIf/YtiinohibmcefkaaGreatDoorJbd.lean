import Derived.Test.YtiinohibmcefkaaGreatDoorJbc
namespace Go.Proofs.YtiinohibmcefkaaGreatDoor
open Go.RowKit Go.Maps

/-- Every statement, at every depth, fits. -/
def okS (S : List FieldA) : SL → Prop
  | .nil => True
  | .cons op f x t e r => ownP S op f x = 0 ∧ okS S t ∧ okS S e ∧ okS S r
theorem first_app {S : List FieldA} {l m : SL} {k : Nat} (h : (firstBad S (l.app m) k).1 = 0) : (firstBad S l k).1 = 0 ∧ (firstBad S m (k + l.len)).1 = 0 := by
  rw [firstBad_app] at h
  split at h
  · exact absurd h ‹_›
  · rename_i h1
    exact ⟨Decidable.byContradiction h1, h⟩
theorem flat_ok {S : List FieldA} : ∀ (l : SL) (k : Nat), (firstBad S (flatS l) k).1 = 0 → okS S l
  | .nil, _, _ => trivial
  | .cons op f x t e r, k, h => by
    simp only [flatS, firstBad] at h
    by_cases h0 : ownP S op f x = 0
    · simp only [h0, ne_eq, not_true_eq_false, if_false] at h
      obtain ⟨h1, h2⟩ := first_app h
      obtain ⟨h3, h4⟩ := first_app h2
      exact ⟨h0, flat_ok t _ h1, flat_ok e _ h3, flat_ok r _ h4⟩
    · simp [h0] at h
theorem check_ok {S : List FieldA} {l : SL} (h : (checkP S l).1 = 0) : schemaB S = true ∧ wellS l = true ∧ okS S l := by
  obtain ⟨h1, h2⟩ := checkP_zero h
  refine ⟨h1, (check_small h2).1, flat_ok l 0 ?_⟩
  unfold checkP at h
  rw [errS_good h1, if_neg (by simp), if_neg (by simpa using h2)] at h
  exact h
theorem orL_zero : ∀ {l : List Int}, orL l = 0 → ∀ a ∈ l, a = 0
  | [], _, a, ha => by simp at ha
  | x :: r, h, a, ha => by
    simp only [orL] at h
    split at h
    · rename_i hx
      rcases List.mem_cons.1 ha with rfl | ha
      · exact hx
      · exact orL_zero h a ha
    · exact absurd h ‹_›
theorem named_some {S : List FieldA} {f : Txt} (h : (namedK S f).2 = 0) : ∃ fd, fieldOf S f = some fd ∧ namedK S f = (⟨fd.type, fd.opt⟩, 0) := by
  unfold namedK at h ⊢
  cases hf : fieldOf S f with
  | none => rw [hf] at h; simp at h
  | some fd => exact ⟨fd, rfl, rfl⟩
theorem set_fit {S : List FieldA} {r : Bool × List ValA} (hr : RowFit S r.1 r.2) {f : Txt} {fd : FieldA} (hf : fieldOf S f = some fd) {v : ValA} (hv : fitsB fd v = true) : RowFit S (setV r (placeP S f) v).1 (setV r (placeP S f) v).2 := by
  obtain ⟨h, vals⟩ := r
  unfold setV
  cases h with
  | false => exact hr
  | true =>
    obtain ⟨hl, hfit⟩ := hr
    have hp := find_idx hf
    show RowFit S true (vals.set (placeP S f) v)
    have hl' : vals.length = S.length := hl
    refine ⟨by simpa using hl', fun i g x hg hx => ?_⟩
    by_cases hi : placeP S f = i
    · subst hi
      rw [List.getElem?_set_self (by have := get_lt hp; omega)] at hx
      rw [hp] at hg
      simp at hx hg
      subst hx hg
      exact hv
    · rw [List.getElem?_set_ne hi] at hx
      exact hfit i g x hg hx
theorem zeros_fit {S : List FieldA} (hS : schemaB S = true) : RowFit S true (zeros S) := by
  refine ⟨zeros_length S, fun i f v hf hv => ?_⟩
  unfold zeros at hv
  rw [List.getElem?_map, hf] at hv
  simp at hv
  subst hv
  exact kind_fits (zero_fit (schema_types hS hf))
theorem of_zero {k : KA} {t : Int} (h : ofI k [t] = 0) : k.t = t := by
  unfold ofI at h
  split at h
  · rename_i hc; simpa using hc
  · cases h
theorem run_fit {S : List FieldA} (hS : schemaB S = true) : ∀ (l : SL) (r : Bool × List ValA), wellS l = true → okS S l → RowFit S r.1 r.2 → RowFit S (runS S l r).1 (runS S l r).2
  | .nil, _, _, _, hr => hr
  | .cons op f x t e rest, r, hw, ⟨h0, ht, he, hrest⟩, hr => by
    simp only [wellS, Bool.and_eq_true] at hw
    rw [runS_cons]
    refine run_fit hS rest _ hw.2.2.2.2 hrest ?_
    rcases head_open hw.1 with ⟨h1, _, hl⟩ | ⟨rfl, _, rfl⟩ | ⟨h1, rfl⟩ | ⟨rfl, hl⟩
    · obtain ⟨o, n, s, kids, rfl⟩ := EL.one_of hl
      have hwx := hw.2.1
      simp only [wellE, Bool.and_eq_true] at hwx
      rcases h1 with rfl | h1
      · have hall := orL_zero (show orL [(namedK S f).2, (kindP S o s kids).2, ofI (kindP S o s kids).1 [(namedK S f).1.t], if (kindP S o s kids).1.o = true ∧ (namedK S f).1.o = false then 92 else 0] = 0 from h0)
        obtain ⟨fd, hfd, hn⟩ := named_some (hall (namedK S f).2 (by simp))
        have hk := hall (kindP S o s kids).2 (by simp)
        have hof := of_zero (hall (ofI (kindP S o s kids).1 [(namedK S f).1.t]) (by simp))
        have hop := hall (if (kindP S o s kids).1.o = true ∧ (namedK S f).1.o = false then 92 else 0) (by simp)
        rw [hn] at hof hop
        have hfit := node_fit hS hr (n := n) hwx.1 hwx.2.1 hk
        have hv : fitsB fd (nodeV S o n s kids r.1 r.2) = true := kind_fits (by
          rcases hfit with ⟨g1, g2⟩ | ⟨g1, g2⟩
          · exact Or.inl ⟨g1, by rw [g2, hof]⟩
          · refine Or.inr ⟨?_, g2⟩
            cases ho : fd.opt with
            | true => rfl
            | false => simp [g1, ho] at hop)
        show RowFit S (setV r (placeP S f) (headV S r (.cons o n s kids .nil))).1 (setV r (placeP S f) (headV S r (.cons o n s kids .nil))).2
        rw [headV_one]
        exact set_fit hr hfd hv
      · have hop : ownP S op f (.cons o n s kids .nil) = orL [(namedK S f).2, (kindP S o s kids).2, ofI (namedK S f).1 [1], plainI (kindP S o s kids).1 [1]] := by
          unfold ownP
          rw [if_neg (by omega), if_pos h1]
          rfl
        rw [hop] at h0
        have hall := orL_zero h0
        obtain ⟨fd, hfd, hn⟩ := named_some (hall (namedK S f).2 (by simp))
        have hk := hall (kindP S o s kids).2 (by simp)
        have hof := of_zero (hall (ofI (namedK S f).1 [1]) (by simp))
        obtain ⟨hpt, hpo⟩ := plain_zero (hall (plainI (kindP S o s kids).1 [1]) (by simp))
        rw [hn] at hof
        have hfit := (node_fit hS hr (n := n) hwx.1 hwx.2.1 hk).plain hpo
        have hpt' : (kindP S o s kids).1.t = 1 := by simpa using hpt
        have hst : stmtS S op f (.cons o n s kids .nil) t e r = setV r (placeP S f) (joinV op (fieldV S r.1 r.2 f) (nodeV S o n s kids r.1 r.2)) := by
          unfold stmtS
          rw [if_neg (by omega), if_neg (by omega), if_neg (by omega), if_neg (by omega), if_pos h1, headV_one]
        rw [hst]
        refine set_fit hr hfd (kind_fits (Or.inl ?_))
        have hof' : fd.type = 1 := hof
        unfold joinV
        repeat' split
        all_goals first
          | exact ⟨hfit.1, by rw [hfit.2, hpt', hof']⟩
          | exact ⟨good_num _, by rw [hof']; rfl⟩
    · have hall := orL_zero (show orL [(namedK S f).2, optI (namedK S f).1] = 0 from h0)
      obtain ⟨fd, hfd, hn⟩ := named_some (hall (namedK S f).2 (by simp))
      have ho := hall (optI (namedK S f).1) (by simp)
      rw [hn] at ho
      have hopt : fd.opt = true := by
        cases h : fd.opt with
        | true => rfl
        | false => simp [optI, h] at ho
      exact set_fit hr hfd (kind_fits (Or.inr ⟨hopt, rfl⟩))
    · rcases h1 with rfl | rfl
      · show RowFit S (if r.1 then r else (true, zeros S)).1 (if r.1 then r else (true, zeros S)).2
        split
        · exact hr
        · exact zeros_fit hS
      · exact (show RowFit S false [] from rfl)
    · show RowFit S (if (headV S r x).n = 1 then runS S t r else runS S e r).1 (if (headV S r x).n = 1 then runS S t r else runS S e r).2
      split
      · exact run_fit hS t r hw.2.2.1 ht hr
      · exact run_fit hS e r hw.2.2.2.1 he hr
end Go.Proofs.YtiinohibmcefkaaGreatDoor
namespace Go.Proofs.YtiinohibmcefkaaGreatDoor
open Go.RowKit Go.Maps

/-- The program that works runs. -/
def worksL : SL := .cons 6 [] .nil .nil .nil (.cons 2 [110] (.cons 1 5 [] .nil .nil) .nil .nil .nil)
def worksS : List FieldA := [⟨[110], 1, false⟩]
theorem works_one : runP worksS worksL false [] = ((true, [⟨1, 5, []⟩]), 0) := by decide +kernel
theorem works_two : runP worksS worksL true [⟨1, 5, []⟩] = ((true, [⟨1, 10, []⟩]), 0) := by decide +kernel
end Go.Proofs.YtiinohibmcefkaaGreatDoor
namespace Go.Proofs.YtiinohibmcefkaaGreatDoor
open Go.RowKit Go.Maps

theorem nil_vals (w : World) : ValsAt w (.slice none 0 0) [] := rowAt_own (World.ownsRow_nil w 0 41 3)
theorem nilE (Z : Zone) (w : World) (up : Nat) : SlE Z w up (.slice none 0 0) .nil := ⟨none, 0, rfl, Nat.le_refl _, fun h => absurd rfl h⟩
theorem worksY (w : World) : ∃ Y, ((((w.alloc (.cells #[.string ⟨#[110]⟩, .int .i64 1, .bool false] 47)).alloc (.cells #[.slice (some ⟨w.heap.size, 0, none⟩) 1 1] 24)).alloc (.cells #[.int .i64 1, .int .i64 5, .string ⟨#[]⟩, .slice none 0 0] 27)).alloc (.cells #[.int .i64 1, .int .i64 5, .string ⟨#[]⟩, .slice none 0 0] 27)).alloc (.cells #[.int .i64 6, .string ⟨#[]⟩, .slice none 0 0, .slice none 0 0, .slice none 0 0, .int .i64 2, .string ⟨#[110]⟩, .slice (some ⟨w.heap.size + 1 + 1 + 1, 0, none⟩) 1 1, .slice none 0 0, .slice none 0 0] 39) = Y ∧ Keeps (fun _ => False) w Y ∧ Y.cell? ⟨w.heap.size + 1, 0, none⟩ = some (.slice (some ⟨w.heap.size, 0, none⟩) 1 1) ∧ FldsAt Y (.slice (some ⟨w.heap.size, 0, none⟩) 1 1) worksS ∧ SlS anyZ Y 0 (.slice (some ⟨w.heap.size + 1 + 1 + 1 + 1, 0, none⟩) 2 2) worksL ∧ w.heap.size + 1 < Y.heap.size := by
  have f1 : FldsAt (w.alloc (.cells #[.string ⟨#[110]⟩, .int .i64 1, .bool false] 47)) (.slice (some ⟨w.heap.size, 0, none⟩) 1 1) worksS := rowAt_own (World.ownsRow_lit (base := 0) (e := 47) (size := 3) w #[.string ⟨#[110]⟩, .int .i64 1, .bool false] 1 (Nat.zero_le _) (by unfold maxLen; omega) rfl)
  have kY : Keeps (fun _ => False) (w.alloc (.cells #[.string ⟨#[110]⟩, .int .i64 1, .bool false] 47)) (((((w.alloc (.cells #[.string ⟨#[110]⟩, .int .i64 1, .bool false] 47)).alloc (.cells #[.slice (some ⟨w.heap.size, 0, none⟩) 1 1] 24)).alloc (.cells #[.int .i64 1, .int .i64 5, .string ⟨#[]⟩, .slice none 0 0] 27)).alloc (.cells #[.int .i64 1, .int .i64 5, .string ⟨#[]⟩, .slice none 0 0] 27)).alloc (.cells #[.int .i64 6, .string ⟨#[]⟩, .slice none 0 0, .slice none 0 0, .slice none 0 0, .int .i64 2, .string ⟨#[110]⟩, .slice (some ⟨w.heap.size + 1 + 1 + 1, 0, none⟩) 1 1, .slice none 0 0, .slice none 0 0] 39)) := ((((Keeps.refl _ _).alloc _).alloc _).alloc _).alloc _
  have bS : (((((w.alloc (.cells #[.string ⟨#[110]⟩, .int .i64 1, .bool false] 47)).alloc (.cells #[.slice (some ⟨w.heap.size, 0, none⟩) 1 1] 24)).alloc (.cells #[.int .i64 1, .int .i64 5, .string ⟨#[]⟩, .slice none 0 0] 27)).alloc (.cells #[.int .i64 1, .int .i64 5, .string ⟨#[]⟩, .slice none 0 0] 27)).alloc (.cells #[.int .i64 6, .string ⟨#[]⟩, .slice none 0 0, .slice none 0 0, .slice none 0 0, .int .i64 2, .string ⟨#[110]⟩, .slice (some ⟨w.heap.size + 1 + 1 + 1, 0, none⟩) 1 1, .slice none 0 0, .slice none 0 0] 39)).heap[w.heap.size + 1]? = some (.cells #[.slice (some ⟨w.heap.size, 0, none⟩) 1 1] 24) := (((((Keeps.refl (fun _ => False) _).alloc _).alloc _).alloc _).block _ (by simp) id).trans (alloc_at _ _ _ (by simp))
  have bX : (((((w.alloc (.cells #[.string ⟨#[110]⟩, .int .i64 1, .bool false] 47)).alloc (.cells #[.slice (some ⟨w.heap.size, 0, none⟩) 1 1] 24)).alloc (.cells #[.int .i64 1, .int .i64 5, .string ⟨#[]⟩, .slice none 0 0] 27)).alloc (.cells #[.int .i64 1, .int .i64 5, .string ⟨#[]⟩, .slice none 0 0] 27)).alloc (.cells #[.int .i64 6, .string ⟨#[]⟩, .slice none 0 0, .slice none 0 0, .slice none 0 0, .int .i64 2, .string ⟨#[110]⟩, .slice (some ⟨w.heap.size + 1 + 1 + 1, 0, none⟩) 1 1, .slice none 0 0, .slice none 0 0] 39)).heap[w.heap.size + 1 + 1 + 1]? = some (.cells #[.int .i64 1, .int .i64 5, .string ⟨#[]⟩, .slice none 0 0] 27) := (((Keeps.refl (fun _ => False) _).alloc _).block _ (by simp) id).trans (alloc_at _ _ _ (by simp))
  have bP : (((((w.alloc (.cells #[.string ⟨#[110]⟩, .int .i64 1, .bool false] 47)).alloc (.cells #[.slice (some ⟨w.heap.size, 0, none⟩) 1 1] 24)).alloc (.cells #[.int .i64 1, .int .i64 5, .string ⟨#[]⟩, .slice none 0 0] 27)).alloc (.cells #[.int .i64 1, .int .i64 5, .string ⟨#[]⟩, .slice none 0 0] 27)).alloc (.cells #[.int .i64 6, .string ⟨#[]⟩, .slice none 0 0, .slice none 0 0, .slice none 0 0, .int .i64 2, .string ⟨#[110]⟩, .slice (some ⟨w.heap.size + 1 + 1 + 1, 0, none⟩) 1 1, .slice none 0 0, .slice none 0 0] 39)).heap[w.heap.size + 1 + 1 + 1 + 1]? = some (.cells #[.int .i64 6, .string ⟨#[]⟩, .slice none 0 0, .slice none 0 0, .slice none 0 0, .int .i64 2, .string ⟨#[110]⟩, .slice (some ⟨w.heap.size + 1 + 1 + 1, 0, none⟩) 1 1, .slice none 0 0, .slice none 0 0] 39) := alloc_at _ _ _ (by simp)
  have f2 := f1.keepF kY
  have kw : Keeps (fun _ => False) w (((((w.alloc (.cells #[.string ⟨#[110]⟩, .int .i64 1, .bool false] 47)).alloc (.cells #[.slice (some ⟨w.heap.size, 0, none⟩) 1 1] 24)).alloc (.cells #[.int .i64 1, .int .i64 5, .string ⟨#[]⟩, .slice none 0 0] 27)).alloc (.cells #[.int .i64 1, .int .i64 5, .string ⟨#[]⟩, .slice none 0 0] 27)).alloc (.cells #[.int .i64 6, .string ⟨#[]⟩, .slice none 0 0, .slice none 0 0, .slice none 0 0, .int .i64 2, .string ⟨#[110]⟩, .slice (some ⟨w.heap.size + 1 + 1 + 1, 0, none⟩) 1 1, .slice none 0 0, .slice none 0 0] 39)) := ((Keeps.refl _ _).alloc _).trans kY
  generalize ((((w.alloc (.cells #[.string ⟨#[110]⟩, .int .i64 1, .bool false] 47)).alloc (.cells #[.slice (some ⟨w.heap.size, 0, none⟩) 1 1] 24)).alloc (.cells #[.int .i64 1, .int .i64 5, .string ⟨#[]⟩, .slice none 0 0] 27)).alloc (.cells #[.int .i64 1, .int .i64 5, .string ⟨#[]⟩, .slice none 0 0] 27)).alloc (.cells #[.int .i64 6, .string ⟨#[]⟩, .slice none 0 0, .slice none 0 0, .slice none 0 0, .int .i64 2, .string ⟨#[110]⟩, .slice (some ⟨w.heap.size + 1 + 1 + 1, 0, none⟩) 1 1, .slice none 0 0, .slice none 0 0] 39) = Y at *
  refine ⟨Y, rfl, kw, (cell_of_blk bS 0).trans rfl, f2, ?_, lt_of_block bS⟩
  have cx := fun j => cell_of_blk bX j
  have cp := fun j => cell_of_blk bP j
  have hx : SlE anyZ Y (w.heap.size + 1 + 1 + 1 + 1) (.slice (some ⟨w.heap.size + 1 + 1 + 1, 0, none⟩) 1 1) (.cons 1 5 [] .nil .nil) :=
    ⟨_, 1, rfl, Nat.le_refl _, fun _ => ⟨_, 0, rfl, trivial, lt_of_block bX, trivial, (cx 0).trans rfl, (cx 1).trans rfl, (cx 2).trans rfl, ⟨none, 0, (cx 3).trans rfl, Nat.le_refl _, fun h => absurd rfl h⟩, trivial⟩⟩
  exact ⟨_, 2, rfl, Nat.le_refl _, fun _ => ⟨_, 0, rfl, trivial, lt_of_block bP, trivial, (cp 0).trans rfl, (cp 1).trans rfl, ⟨_, (cp 2).trans rfl, nilE _ _ _⟩, ⟨none, 0, (cp 3).trans rfl, Nat.le_refl _, fun h => absurd rfl h⟩, ⟨none, 0, (cp 4).trans rfl, Nat.le_refl _, fun h => absurd rfl h⟩,
    lt_of_block bP, trivial, (cp 5).trans rfl, (cp 6).trans rfl, ⟨_, (cp 7).trans rfl, hx⟩, ⟨none, 0, (cp 8).trans rfl, Nat.le_refl _, fun h => absurd rfl h⟩, ⟨none, 0, (cp 9).trans rfl, Nat.le_refl _, fun h => absurd rfl h⟩, trivial⟩⟩
set_option maxRecDepth 100000 in
set_option maxHeartbeats 2000000 in
theorem works_v (w : World) (hT : Types w) (hF : Forms w) : Calls Tryz.prog 11 #[] w fun e w' => e = .returned (.bool true) ∧ Keeps (fun _ => False) w w' := by
  obtain ⟨Y, hY, kY, cS, fS, pS, lS⟩ := worksY w
  have h1 := mrun_v anyZ worksS worksL (by decide) false [] (.slice (some ⟨w.heap.size, 0, none⟩) 1 1) (.slice none 0 0) (.slice (some ⟨w.heap.size + 1 + 1 + 1 + 1, 0, none⟩) 2 2) Y 0 (hT.keepF kY) (hF.keepF kY) fS (nil_vals Y) pS
  rw [works_one] at h1
  have HC1 := hide h1
  have HC2 : ∀ W' u, Keeps (fun _ => False) Y W' → ValsAt W' u [⟨1, 5, []⟩] → Hid (Calls Tryz.prog 12 #[.agg #[.slice (some ⟨w.heap.size, 0, none⟩) 1 1], .slice (some ⟨w.heap.size + 1 + 1 + 1 + 1, 0, none⟩) 2 2, .agg #[.bool true, u]] W' (RowPost W' ((true, [⟨1, 10, []⟩]), 0))) := fun W' u hk hu => by
    have := mrun_v anyZ worksS worksL (by decide) true [⟨1, 5, []⟩] (.slice (some ⟨w.heap.size, 0, none⟩) 1 1) u (.slice (some ⟨w.heap.size + 1 + 1 + 1 + 1, 0, none⟩) 2 2) W' 0 (hT.keepF (kY.trans hk)) (hF.keepF (kY.trans hk)) (fS.keepF hk) hu (pS.keepF hk)
    rw [works_two] at this
    exact this
  have HKY := hide kY
  clear hT hF h1 fS pS kY
  go_enter Tryz.func11, Tryz.ntmps11
  go_wp2_with fail
  refine (unhide HC1).mono ?_
  rintro e w1 ⟨ao, ac, rfl, hown, hk1⟩
  have hv : ValsAt w1 (.slice ao 1 ac) [⟨1, 5, []⟩] := rowAt_own hown
  obtain ⟨b, off, cp, e1, hb, hc⟩ := hv.cells (by simp)
  simp at e1
  obtain ⟨rfl, rfl⟩ := e1
  have q5 := (hc 0 ⟨1, 5, []⟩ rfl).2.1
  obtain ⟨HB, hxb, hxc⟩ := boxed w1 #[.bool true, .slice (some ⟨b, off, none⟩) 1 ac] 31
  have x0 := hxc 0 (.bool true) rfl
  have x1 := hxc 1 (.slice (some ⟨b, off, none⟩) 1 ac) rfl
  have cS1 := ((hk1.trans (unhide HB)).cell (o := 0) lS id).trans cS
  have HC3 := hide (unhide (HC2 _ _ (hk1.trans (unhide HB)) (hv.keepF (unhide HB))))
  have q5' := ((unhide HB).cell hb id).trans q5
  have HK1 := hide (hk1.trans (unhide HB))
  have hb' := Nat.lt_of_lt_of_le hb (unhide HB).size
  clear hc hxc hown hv hk1 HC1 HC2
  simp only [List.length_singleton]
  go_wp2_with fail
  generalize hW2 : w1.alloc (.cells #[.bool true, .slice (some ⟨b, off, none⟩) 1 ac] 31) = W2 at *
  refine (unhide HC3).mono ?_
  rintro e w3 ⟨ao3, ac3, rfl, hown3, hk3⟩
  have hv3 : ValsAt w3 (.slice ao3 1 ac3) [⟨1, 10, []⟩] := rowAt_own hown3
  obtain ⟨b3, off3, cp3, e3, hb3, hc3⟩ := hv3.cells (by simp)
  simp at e3
  obtain ⟨rfl, rfl⟩ := e3
  have p10 := (hc3 0 ⟨1, 10, []⟩ rfl).2.1
  obtain ⟨HB3, hyb, hyc⟩ := boxed w3 #[.bool true, .slice (some ⟨b3, off3, none⟩) 1 ac3] 31
  have y0 := hyc 0 (.bool true) rfl
  have y1 := hyc 1 (.slice (some ⟨b3, off3, none⟩) 1 ac3) rfl
  have hk4 := hk3.trans (unhide HB3)
  have z0 := (hk4.cell (o := 0) hxb id).trans x0
  have z1 := (hk4.cell (o := 1) hxb id).trans x1
  have z5 := (hk4.cell hb' id).trans q5'
  have z10 := ((unhide HB3).cell hb3 id).trans p10
  have HK4 := hide ((unhide HKY).trans ((unhide HK1).trans hk4))
  clear hc3 hyc hown3 hv3 hk3 hk4 q5 q5' p10 x0 x1 HC3 HK1 cS1
  simp only [List.length_singleton, Nat.zero_mul, Nat.add_zero] at z5 z10 ⊢
  generalize hW4 : w3.alloc (.cells #[.bool true, .slice (some ⟨b3, off3, none⟩) 1 ac3] 31) = W4 at *
  go_wp2_with fail
  go_ret
  exact ⟨by rfl, unhide HK4⟩
end Go.Proofs.YtiinohibmcefkaaGreatDoor
