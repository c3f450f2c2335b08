import Derived.Test.YtbgapbaeegloaabGreatDoorJd
namespace Go.Proofs.YtbgapbaeegloaabGreatDoor
open Go.RowKit Go.Maps

def tcs (l : List TokA) : List Value := l.flatMap TokA.cs
theorem tcs_get : ∀ (l : List TokA) (i : Nat) (x : TokA) (j : Nat), l[i]? = some x → j < 4 → (tcs l)[i * 4 + j]? = x.cs[j]?
  | [], i, x, j, h, _ => by simp at h
  | y :: r, 0, x, j, h, hj => by
    simp at h; subst h
    unfold tcs
    simp only [List.flatMap_cons, Nat.zero_mul, Nat.zero_add]
    rw [List.getElem?_append_left (by simp [TokA.cs]; exact hj)]
  | y :: r, i + 1, x, j, h, hj => by
    unfold tcs
    simp only [List.flatMap_cons]
    rw [List.getElem?_append_right (by simp [TokA.cs]; omega), show (y.cs).length = 4 from rfl, show (i + 1) * 4 + j - 4 = i * 4 + j by omega]
    exact tcs_get r i x j (by simpa using h) hj
theorem tcs_length (l : List TokA) : (tcs l).length = l.length * 4 := by
  unfold tcs
  induction l with
  | nil => rfl
  | cons x r ih => simp only [List.flatMap_cons, List.length_append, List.length_cons, ih]; simp [TokA.cs]; omega
/-- Tokens in a slice. -/
def ToksAt (w : World) (v : Value) (l : List TokA) : Prop := RowAt w v l.length (tcs l)
theorem ToksAt.keepF {w w' : World} {v : Value} {l : List TokA} (h : ToksAt w v l) (hk : Keeps (fun _ => False) w w') : ToksAt w' v l := RowAt.keepF h hk
theorem ToksAt.cells {w : World} {v : Value} {l : List TokA} (h : ToksAt w v l) (h0 : 0 < l.length) :
    ∃ b off cap, v = .slice (some ⟨b, off, none⟩) l.length cap ∧ b < w.heap.size ∧ ∀ i f, l[i]? = some f → w.cell? ⟨b, off + i * 4, none⟩ = some (.int .i64 f.kind) ∧ w.cell? ⟨b, off + i * 4 + 1, none⟩ = some (str f.text) ∧ w.cell? ⟨b, off + i * 4 + 2, none⟩ = some (.int .i64 f.n) ∧ w.cell? ⟨b, off + i * 4 + 3, none⟩ = some (.int .i64 f.pos) := by
  obtain ⟨b, off, cap, e, hb, hc⟩ := RowAt.cells h h0
  refine ⟨b, off, cap, e, hb, fun i f hf => ?_⟩
  have k := fun j hj => tcs_get l i f j hf hj
  have k0 := hc (i * 4 + 0) (.int .i64 f.kind) (k 0 (by omega))
  have k1 := hc (i * 4 + 1) (str f.text) (k 1 (by omega))
  have k2 := hc (i * 4 + 2) (.int .i64 f.n) (k 2 (by omega))
  have k3 := hc (i * 4 + 3) (.int .i64 f.pos) (k 3 (by omega))
  exact ⟨k0, k1, k2, k3⟩

/-- Texts with a blank between. -/
def jt : List Txt → Txt
  | [] => []
  | x :: r => x ++ r.flatMap (fun y => 32 :: y)
theorem jt_snoc (l : List Txt) (x : Txt) (h : l ≠ []) : jt (l ++ [x]) = jt l ++ [32] ++ x := by
  cases l with
  | nil => exact absurd rfl h
  | cons y r => simp [jt]
def texts (l : List TokA) : List Txt := l.map fun t => (textB t).1
def okAll (l : List TokA) : Bool := l.all fun t => (textB t).2
/-- What Join answers. -/
def joinP (l : List TokA) : Txt × Int :=
  if 256 < l.length then ([], 70) else if okAll l then (if 256 < (jt (texts l)).length then ([], 70) else (jt (texts l), 0)) else ([], 72)
theorem kws_le : ∀ x ∈ kws, x.length ≤ 8 := by decide +kernel
theorem marks_le : ∀ x ∈ marks, x.length ≤ 8 := by decide +kernel
theorem text_le {t : TokA} (h : (textB t).2 = true) : (textB t).1.length ≤ 100 := by
  unfold textB at h ⊢
  split
  · have := decU_len (unat t.n) (unat_lt t.n)
    simp only; omega
  · rename_i h2
    rw [if_neg h2] at h
    split
    · simp
    · rename_i hn
      rw [if_neg hn] at h
      split
      · rename_i h1
        rw [if_pos h1] at h
        unfold nameB at h
        simp only [Bool.and_eq_true, decide_eq_true_eq] at h
        have := h.1.1.1.2
        simp only; omega
      · rename_i h1
        rw [if_neg h1] at h
        split
        · split
          · simp
          · rename_i hl
            have := flat_le4 t.text
            simp only [quoteB, List.length_cons, List.length_append, List.length_nil]
            omega
        · rename_i h3
          rw [if_neg h3] at h
          split
          · rename_i h4
            rw [if_pos h4] at h
            have := kws_le _ (of_decide_eq_true h)
            simp only; omega
          · rename_i h4
            rw [if_neg h4] at h
            split
            · rename_i h5
              rw [if_pos h5] at h
              have := marks_le _ (of_decide_eq_true h)
              simp only; omega
            · simp
theorem texts_take {l : List TokA} {k : Nat} {t : TokA} (h : l[k]? = some t) : texts (l.take (k + 1)) = texts (l.take k) ++ [(textB t).1] := by
  unfold texts
  rw [take_snoc _ _ _ h, List.map_append]
  rfl
theorem okAll_take {l : List TokA} {k : Nat} {t : TokA} (h : l[k]? = some t) : okAll (l.take (k + 1)) = (okAll (l.take k) && (textB t).2) := by
  unfold okAll
  rw [take_snoc _ _ _ h, List.all_append]
  simp
theorem not_ok {l : List TokA} {k : Nat} {t : TokA} (h : l[k]? = some t) (hb : (textB t).2 = false) : okAll l = false := by
  unfold okAll
  rw [List.all_eq_false]
  exact ⟨t, List.mem_of_getElem? h, by simp [hb]⟩
theorem ret_vi' {a b : Txt} {i j : Int} (h : a = b) (h2 : i = j) : Ending.returned (.tuple #[str a, .int .i64 i]) = .returned (.tuple #[str b, .int .i64 j]) := by rw [h, h2]

end Go.Proofs.YtbgapbaeegloaabGreatDoor
