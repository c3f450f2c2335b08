import Derived.Test.YtbgapbaeegloaaaDoorTi
import Derived.Test.YtbgapbaeegloaaaDoorLj
namespace Go.Proofs.YtbgapbaeegloaaaDoor
open Go.RowKit Go.Maps

theorem digR_le (b : Int) : ∀ (s : Txt) (last : Bool) (n v : Nat), n ≤ 9223372036854775808 → digR b s last n = some v → v ≤ 9223372036854775808
  | [], last, n, v, hn, h => by
    cases last <;> simp [digR] at h
    omega
  | c :: r, last, n, v, hn, h => by
    rw [digR] at h
    split at h
    · split at h
      · exact digR_le b r false n v hn h
      · cases h
    · split at h
      · cases h
      · split at h
        · cases h
        · exact digR_le b r true _ v (by omega) h
theorem numB_le {w : Txt} {v : Nat} (h : numB w = some v) : v ≤ 9223372036854775808 := by
  unfold numB at h
  split at h
  · exact digR_le _ _ _ _ _ (by omega) h
  · split at h
    · split at h
      · simp at h; omega
      · cases h
    · exact digR_le _ _ _ _ _ (by omega) h
theorem unq_short : ∀ (f : Nat) {t b : Txt} {a : Nat} {r : Txt × Nat}, unqLoop f t b a = some r → r.1.length ≤ 20 := by
  intro f
  induction f with
  | zero => intro t b a r h; simp [unqLoop] at h
  | succ f ih =>
    intro t b a r h
    rw [unqLoop] at h
    split at h
    · rename_i hb
      cases hx : t[a]? with
      | none => rw [hx] at h; simp at h
      | some c =>
        rw [hx] at h
        simp only at h
        split at h
        · simp at h; rw [← h]; exact hb
        · split at h
          · simp at h
          · exact ih h
    · simp at h
/-- What Lex finds has a text of its own. -/
theorem first_text {c : UInt8} {T : Txt} {x : TokA} {n : Nat} (h : firstP c T = (x, n, 0)) (p : Int) : (textB { x with pos := p }).2 = true ∧ x.n ≤ 9223372036854775807 := by
  unfold firstP at h
  split at h
  · split at h
    · unfold numP at h
      cases hv : numB (T.take (runB T)) with
      | none => rw [hv] at h; simp at h
      | some v =>
        rw [hv] at h
        simp only [Prod.mk.injEq] at h
        obtain ⟨rfl, _⟩ := h
        have hle := numB_le hv
        have hw : (0 ≤ IntKind.i64.wrap (v : Int) ∨ IntKind.i64.wrap (v : Int) = -9223372036854775808) ∧ IntKind.i64.wrap (v : Int) ≤ 9223372036854775807 := by
          rw [IntKind.wrap_i64]
          omega
        refine ⟨?_, hw.2⟩
        unfold textB
        simp only [if_true, decide_true, Bool.true_and, Bool.or_eq_true, decide_eq_true_eq]
        exact hw.1
    · unfold wordP at h
      split at h
      · rename_i hk
        simp only [Prod.mk.injEq] at h
        obtain ⟨rfl, _⟩ := h
        refine ⟨?_, show (0 : Int) ≤ 9223372036854775807 by decide⟩
        unfold textB
        simp [hk]
      · split at h
        · rename_i hn
          simp only [Prod.mk.injEq] at h
          obtain ⟨rfl, _⟩ := h
          refine ⟨?_, show (0 : Int) ≤ 9223372036854775807 by decide⟩
          unfold textB
          simp [hn]
        · simp at h
  · split at h
    · unfold litP at h
      split at h
      · rename_i h0
        simp only [Prod.mk.injEq] at h
        obtain ⟨rfl, _⟩ := h
        have hs : (unquoteB T).1.length ≤ 20 := by
          unfold unquoteB at h0 ⊢
          split
          · rename_i g
            rw [if_pos g] at h0
            cases hu : unqLoop T.length T [] 1 with
            | none => rw [hu] at h0; simp at h0
            | some r => exact unq_short _ hu
          · simp
        refine ⟨?_, show (0 : Int) ≤ 9223372036854775807 by decide⟩
        unfold textB
        have : ¬ 20 < (unquoteB T).1.length := by omega
        simp [this]
      · simp at h
    · unfold markP at h
      split at h
      · rename_i hm
        simp only [Prod.mk.injEq] at h
        obtain ⟨rfl, _⟩ := h
        refine ⟨?_, show (0 : Int) ≤ 9223372036854775807 by decide⟩
        unfold textB
        simp [hm.2]
      · split at h
        · rename_i hm
          simp only [Prod.mk.injEq] at h
          obtain ⟨rfl, _⟩ := h
          refine ⟨?_, show (0 : Int) ≤ 9223372036854775807 by decide⟩
          unfold textB
          simp [hm]
        · simp at h
theorem seg_text {t : Txt} {a : Nat} {l : List TokA} (h : Seg t a l) : okAll l = true ∧ ∀ x ∈ l, x.n ≤ 9223372036854775807 := by
  induction h with
  | done g => exact ⟨rfl, fun x hx => by cases hx⟩
  | tok g hc hb h35 hf k ih =>
    rename_i a p n c x l
    have ht := first_text hf (p : Int)
    refine ⟨?_, fun y hy => ?_⟩
    · unfold okAll at ih ⊢
      rw [List.all_cons, ht.1, ih.1]
      rfl
    · rcases List.mem_cons.1 hy with rfl | hy
      · exact ht.2
      · exact ih.2 y hy
theorem lex_text (t : Txt) (h : (lexP t).2.1 = 0) : okAll (lexP t).1 = true ∧ (∀ x ∈ (lexP t).1, x.n ≤ 9223372036854775807) ∧ (lexP t).1.length ≤ 256 ∧ ((joinP (lexP t).1).2 = 0 ∨ (joinP (lexP t).1).2 = 70) := by
  rcases lex_cases t with ⟨_, e⟩ | ⟨_, _, e⟩ | ⟨hl, _, e⟩
  · rw [e] at h; simp at h
  · rw [e] at h; simp at h
  · rw [e] at h ⊢
    obtain ⟨l, e1, s⟩ := cut_seg t _ [] 0 (by omega) (by omega) h
    have hlen := cut_len t (t.length + 1) [] 0 (by simp) (by omega)
    rw [e1, List.nil_append] at hlen ⊢
    obtain ⟨s1, s2⟩ := seg_text s
    refine ⟨s1, s2, by omega, ?_⟩
    unfold joinP
    rw [if_neg (by omega), s1]
    simp only [if_true]
    split
    · right; rfl
    · left; rfl
theorem known_lex : lexP [110, 43, 61, 49] = ([⟨1, [110], 0, 0⟩, ⟨5, [43, 61], 0, 1⟩, ⟨2, [], 1, 3⟩], 0, 0) := by decide +kernel
theorem known_join : joinP [⟨1, [110], 0, 0⟩, ⟨5, [43, 61], 0, 1⟩, ⟨2, [], 1, 3⟩] = ([110, 32, 43, 61, 32, 49], 0) := by
  have h1 : textB ⟨1, [110], 0, 0⟩ = ([110], true) := by decide +kernel
  have h2 : textB ⟨5, [43, 61], 0, 1⟩ = ([43, 61], true) := by decide +kernel
  have h3 : textB ⟨2, [], 1, 3⟩ = ([49], true) := by
    unfold textB
    rw [if_pos rfl, show unat 1 = 1 by decide +kernel, decU_one (by omega)]
    rfl
  unfold joinP okAll texts
  simp only [List.all_cons, List.all_nil, List.map_cons, List.map_nil, h1, h2, h3]
  decide +kernel
theorem Alike.symm {a b : List TokA} (h : Alike a b) : Alike b a := ⟨h.1.symm, fun i x y hx hy => by obtain ⟨p, q, r⟩ := h.2 i y x hy hx; exact ⟨p.symm, q.symm, r.symm⟩⟩
end Go.Proofs.YtbgapbaeegloaaaDoor
