import Derived.Test.YtbgapbaeegloaaaDoorTk
namespace Go.Proofs.YtbgapbaeegloaaaDoor
open Go.RowKit Go.Maps

/-- What stands between two tokens, by a number. -/
def gapB (k : Int) : Txt := if k.tmod 6 = 0 then [32] else if k.tmod 6 = 1 then [9] else if k.tmod 6 = 2 then [10] else if k.tmod 6 = 3 then [13, 10] else if k.tmod 6 = 4 then [35, 32, 105, 102, 32, 34, 32, 63, 10] else [35, 10]
def gaps6 : List Txt := [[32], [9], [10], [13, 10], [35, 32, 105, 102, 32, 34, 32, 63, 10], [35, 10]]
theorem gapB_mem (k : Int) : gapB k ∈ gaps6 := by
  unfold gapB
  repeat' split
  all_goals decide
theorem gaps_facts : ∀ g ∈ gaps6, (∀ y ∈ g, y.toNat < 128) ∧ (∃ y, g[0]? = some y ∧ sepB y = true) ∧ g.length ≤ 9 := by
  intro g hg
  simp only [gaps6, List.mem_cons, List.mem_nil_iff, or_false] at hg
  rcases hg with rfl | rfl | rfl | rfl | rfl | rfl
  all_goals exact ⟨by decide, ⟨_, rfl, by decide⟩, by decide⟩
theorem at_pre {t A B : Txt} {a i : Nat} (h : t.drop a = A ++ B) (hi : i < A.length) : t[a + i]? = A[i]? := by
  rw [← List.getElem?_drop, h, List.getElem?_append_left hi]
theorem line_pre {t B : Txt} {a : Nat} (A : Txt) (h : t.drop a = A ++ 10 :: B) (hA : ∀ y ∈ A, y ≠ 10) : lineB t a = a + A.length := by
  unfold lineB scan
  rw [h]
  have : (A ++ 10 :: B).takeWhile (fun c => c != 10) = A := by
    clear h
    induction A with
    | nil => rfl
    | cons y r ih =>
      have hy : (y != 10) = true := by simpa using hA y (List.mem_cons_self ..)
      rw [List.cons_append, List.takeWhile_cons, hy]
      simp only [if_true]
      rw [ih (fun z hz => hA z (List.mem_cons_of_mem _ hz))]
  rw [this]
/-- A gap is gone over. -/
theorem cut_gap {g : Txt} (hg : g ∈ gaps6) {t B : Txt} {a : Nat} (ha : a ≤ t.length) (h : t.drop a = g ++ B) (f : Nat) (acc : List TokA) (hf : t.length + 1 ≤ a + f) : ∃ f', t.length + 1 ≤ a + g.length + f' ∧ cutL t f acc a = cutL t f' acc (a + g.length) := by
  have hlen : t.length - a = g.length + B.length := by rw [← List.length_drop, h, List.length_append]
  have hg1 : 1 ≤ g.length := by obtain ⟨y, hy, _⟩ := (gaps_facts g hg).2.1; exact get_lt hy
  obtain ⟨f, rfl⟩ : ∃ m, f = m + 1 := ⟨f - 1, by omega⟩
  have h0 := at_pre h (show 0 < g.length by omega)
  rw [Nat.add_zero] at h0
  have one : ∀ c, g = [c] → blankB c = true → ∃ f', t.length + 1 ≤ a + g.length + f' ∧ cutL t (f + 1) acc a = cutL t f' acc (a + g.length) := fun c hc hb => by
    subst hc
    exact ⟨f, by simp at *; omega, by rw [cut_blank h0 hb]; rfl⟩
  have com : ∀ A, g = 35 :: A ++ [10] → (∀ y ∈ (35 :: A), y ≠ 10) → ∃ f', t.length + 1 ≤ a + g.length + f' ∧ cutL t (f + 1) acc a = cutL t f' acc (a + g.length) := fun A hA hn => by
    subst hA
    have hl : lineB t a = a + (35 :: A).length := line_pre (B := B) (35 :: A) (by rw [h]; simp) hn
    have h10 := at_pre (i := (35 :: A).length) h (by simp)
    rw [List.getElem?_append_right (Nat.le_refl _), Nat.sub_self] at h10
    simp only [List.length_append, List.length_cons, List.length_nil] at hlen hl h10 hf ⊢
    obtain ⟨f, rfl⟩ : ∃ m, f = m + 1 := ⟨f - 1, by omega⟩
    refine ⟨f, by omega, ?_⟩
    rw [cut_hash h0, hl, if_pos (by omega), cut_blank h10 (by decide)]
    rfl
  simp only [gaps6, List.mem_cons, List.mem_nil_iff, or_false] at hg
  rcases hg with hg | hg | hg | hg | hg | hg
  · exact one 32 hg (by decide)
  · exact one 9 hg (by decide)
  · exact one 10 hg (by decide)
  · subst hg
    have h1 := at_pre (i := 1) h (by decide)
    simp only [List.length_cons, List.length_nil] at hlen hf ⊢
    obtain ⟨f, rfl⟩ : ∃ m, f = m + 1 := ⟨f - 1, by omega⟩
    exact ⟨f, by omega, by rw [cut_blank h0 (by decide), cut_blank h1 (by decide)]⟩
  · exact com [32, 105, 102, 32, 34, 32, 63] hg (by decide)
  · exact com [] hg (by decide)
/-- Whatever stands behind a text, its own tokens are these. -/
structure Reach (s : Txt) (l : List TokA) : Prop where
  ascii : ∀ y ∈ s, y.toNat < 128
  len : l.length ≤ s.length
  go : ∀ (S : Txt) (f : Nat), (s ++ S).length + 1 ≤ f → ∃ f', (s ++ S).length + 1 ≤ s.length + f' ∧ cutL (s ++ S) f [] 0 = cutL (s ++ S) f' l s.length
theorem reach_nil : Reach [] [] := ⟨(fun y hy => by cases hy), Nat.le_refl _, fun S f hf => ⟨f, (by simpa using hf), rfl⟩⟩
theorem Reach.gap {s : Txt} {l : List TokA} (h : Reach s l) {g : Txt} (hg : g ∈ gaps6) : Reach (s ++ g) l := by
  refine ⟨fun y hy => ?_, by rw [List.length_append]; have := h.len; omega, fun S f hf => ?_⟩
  · rcases List.mem_append.1 hy with hy | hy
    · exact h.ascii y hy
    · exact (gaps_facts g hg).1 y hy
  · rw [List.append_assoc] at hf ⊢
    obtain ⟨f1, h1, e1⟩ := h.go (g ++ S) f hf
    obtain ⟨f2, h2, e2⟩ := cut_gap hg (t := s ++ (g ++ S)) (a := s.length) (B := S) (by rw [List.length_append]; omega) (by rw [List.drop_left]) f1 l h1
    rw [show (s ++ g).length = s.length + g.length by simp]
    exact ⟨f2, h2, e1.trans e2⟩
theorem Reach.tok {s : Txt} {l : List TokA} (h : Reach s l) {x : TokA} {w : Txt} (hx : Reads x w) {g : Txt} (hg : g ∈ gaps6) : Reach (s ++ w ++ g) (l ++ [{ x with pos := (s.length : Int) }]) := by
  obtain ⟨hasc, c, hc, hb, h35, hf⟩ := hx
  have hw := get_lt hc
  obtain ⟨ga, ⟨y0, hy0, hsep⟩, _⟩ := gaps_facts g hg
  refine ⟨fun y hy => ?_, by simp only [List.length_append, List.length_cons, List.length_nil]; have := h.len; omega, fun S f hlf => ?_⟩
  · rcases List.mem_append.1 hy with hy | hy
    · rcases List.mem_append.1 hy with hy | hy
      · exact h.ascii y hy
      · exact hasc y hy
    · exact ga y hy
  · have eS : s ++ w ++ g ++ S = s ++ (w ++ (g ++ S)) := by simp
    rw [eS] at hlf ⊢
    obtain ⟨f1, h1, e1⟩ := h.go (w ++ (g ++ S)) f hlf
    obtain ⟨f1, rfl⟩ : ∃ m, f1 = m + 1 := ⟨f1 - 1, by simp only [List.length_append] at h1; omega⟩
    have hd : (s ++ (w ++ (g ++ S))).drop s.length = w ++ (g ++ S) := by rw [List.drop_left]
    have hc' : (s ++ (w ++ (g ++ S)))[s.length]? = some c := by rw [List.getElem?_append_right (Nat.le_refl _), Nat.sub_self, List.getElem?_append_left hw]; exact hc
    have hfa : firstP c (w ++ (g ++ S)) = ({ x with pos := 0 }, w.length, 0) := first_app hf hc (.inr (fun y hy => by
      rw [List.getElem?_append_left (get_lt hy0), hy0] at hy
      cases hy
      exact hsep))
    rw [cut_tok hc' hb h35, hd, hfa] at e1
    simp only [if_true] at e1
    have hl0 : (s ++ (w ++ (g ++ S))).length = s.length + (w.length + (g.length + S.length)) := by simp only [List.length_append]
    obtain ⟨f2, h2, e2⟩ := cut_gap hg (t := s ++ (w ++ (g ++ S))) (a := s.length + w.length) (B := S) (by omega) (by rw [← List.drop_drop, hd, List.drop_left]) f1 (l ++ [{ x with pos := (s.length : Int) }]) (by omega)
    rw [show (s ++ w ++ g).length = s.length + w.length + g.length by simp only [List.length_append]]
    exact ⟨f2, h2, e1.trans e2⟩
theorem reach_lex {s : Txt} {l : List TokA} (h : Reach s l) : lexP s = if 256 < s.length then ([], 70, 0) else (l, 0, 0) := by
  by_cases h256 : 256 < s.length
  · rw [if_pos h256]; unfold lexP; rw [if_pos h256]
  · rw [if_neg h256, lex_val (val_ascii s h.ascii) (by omega)]
    obtain ⟨f', h1, e⟩ := h.go [] (s.length + 1) (by simp)
    rw [List.append_nil] at h1 e
    rw [e]
    obtain ⟨f', rfl⟩ : ∃ m, f' = m + 1 := ⟨f' - 1, by omega⟩
    exact cut_none (List.getElem?_eq_none (Nat.le_refl _))

set_option maxRecDepth 100000 in
theorem gap_v (k : Int) (w : World) : Calls Tryd.prog 14 #[.int .i64 k] w fun e w' => e = .returned (str (gapB k)) ∧ w' = w := by
  obtain ⟨D, HD⟩ : ∃ D, Hid (gapB k = D) := ⟨_, rfl⟩
  rw [unhide HD]
  unfold gapB at HD
  obtain ⟨m, hm⟩ : ∃ m, k.tmod 6 = m := ⟨_, rfl⟩
  rw [hm] at HD
  have cs : m = 0 ∨ m = 1 ∨ m = 2 ∨ m = 3 ∨ m = 4 ∨ (m ≠ 0 ∧ m ≠ 1 ∧ m ≠ 2 ∧ m ≠ 3 ∧ m ≠ 4) := by omega
  rcases cs with rfl | rfl | rfl | rfl | rfl | ⟨n0, n1, n2, n3, n4⟩
  · go_enter Tryd.func14, Tryd.ntmps14
    go_wp2_with fail
    go_ret
    exact ⟨by rw [← unhide HD]; rfl, rfl⟩
  · go_enter Tryd.func14, Tryd.ntmps14
    go_wp2_with fail
    go_ret
    exact ⟨by rw [← unhide HD]; rfl, rfl⟩
  · go_enter Tryd.func14, Tryd.ntmps14
    go_wp2_with fail
    go_ret
    exact ⟨by rw [← unhide HD]; rfl, rfl⟩
  · go_enter Tryd.func14, Tryd.ntmps14
    go_wp2_with fail
    go_ret
    exact ⟨by rw [← unhide HD]; rfl, rfl⟩
  · go_enter Tryd.func14, Tryd.ntmps14
    go_wp2_with fail
    go_ret
    exact ⟨by rw [← unhide HD]; rfl, rfl⟩
  · have HF : Hid (D = [35, 10]) := by show _ = _; rw [← unhide HD, if_neg n0, if_neg n1, if_neg n2, if_neg n3, if_neg n4]
    have d0 : (m == 0) = false := by simpa using n0
    have d1 : (m == 1) = false := by simpa using n1
    have d2 : (m == 2) = false := by simpa using n2
    have d3 : (m == 3) = false := by simpa using n3
    have d4 : (m == 4) = false := by simpa using n4
    clear n0 n1 n2 n3 n4 HD
    go_enter Tryd.func14, Tryd.ntmps14
    go_wp2_with fail
    go_ret
    exact ⟨by rw [unhide HF]; rfl, rfl⟩
end Go.Proofs.YtbgapbaeegloaaaDoor
