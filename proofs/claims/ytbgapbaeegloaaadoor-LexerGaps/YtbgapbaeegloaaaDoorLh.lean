import Derived.Test.YtbgapbaeegloaaaDoorLg
namespace Go.Proofs.YtbgapbaeegloaaaDoor
open Go.RowKit Go.Maps

def tcs (l : List TokA) : List Value := l.flatMap TokA.cs
theorem tcs_get : ∀ (l : List TokA) (i : Nat) (x : TokA) (j : Nat), l[i]? = some x → j < 4 → (tcs l)[i * 4 + j]? = x.cs[j]?
  | [], i, x, j, h, _ => by simp at h
  | y :: r, 0, x, j, h, hj => by
    simp at h; subst h
    unfold tcs
    simp only [List.flatMap_cons, Nat.zero_mul, Nat.zero_add]
    rw [List.getElem?_append_left (by simp [TokA.cs]; exact hj)]
  | y :: r, i + 1, x, j, h, hj => by
    unfold tcs
    simp only [List.flatMap_cons]
    rw [List.getElem?_append_right (by simp [TokA.cs]; omega), show (y.cs).length = 4 from rfl, show (i + 1) * 4 + j - 4 = i * 4 + j by omega]
    exact tcs_get r i x j (by simpa using h) hj
theorem tcs_length (l : List TokA) : (tcs l).length = l.length * 4 := by
  unfold tcs
  induction l with
  | nil => rfl
  | cons x r ih => simp only [List.flatMap_cons, List.length_append, List.length_cons, ih]; simp [TokA.cs]; omega
/-- Tokens in a slice. -/
def ToksAt (w : World) (v : Value) (l : List TokA) : Prop := RowAt w v l.length (tcs l)
theorem ToksAt.keepF {w w' : World} {v : Value} {l : List TokA} (h : ToksAt w v l) (hk : Keeps (fun _ => False) w w') : ToksAt w' v l := RowAt.keepF h hk
theorem ToksAt.cells {w : World} {v : Value} {l : List TokA} (h : ToksAt w v l) (h0 : 0 < l.length) :
    ∃ b off cap, v = .slice (some ⟨b, off, none⟩) l.length cap ∧ b < w.heap.size ∧ ∀ i f, l[i]? = some f → w.cell? ⟨b, off + i * 4, none⟩ = some (.int .i64 f.kind) ∧ w.cell? ⟨b, off + i * 4 + 1, none⟩ = some (str f.text) ∧ w.cell? ⟨b, off + i * 4 + 2, none⟩ = some (.int .i64 f.n) ∧ w.cell? ⟨b, off + i * 4 + 3, none⟩ = some (.int .i64 f.pos) := by
  obtain ⟨b, off, cap, e, hb, hc⟩ := RowAt.cells h h0
  refine ⟨b, off, cap, e, hb, fun i f hf => ?_⟩
  have k := fun j hj => tcs_get l i f j hf hj
  have k0 := hc (i * 4 + 0) (.int .i64 f.kind) (k 0 (by omega))
  have k1 := hc (i * 4 + 1) (str f.text) (k 1 (by omega))
  have k2 := hc (i * 4 + 2) (.int .i64 f.n) (k 2 (by omega))
  have k3 := hc (i * 4 + 3) (.int .i64 f.pos) (k 3 (by omega))
  exact ⟨k0, k1, k2, k3⟩

/-- Texts with a blank between. -/
def jt : List Txt → Txt
  | [] => []
  | x :: r => x ++ r.flatMap (fun y => 32 :: y)
theorem jt_snoc (l : List Txt) (x : Txt) (h : l ≠ []) : jt (l ++ [x]) = jt l ++ [32] ++ x := by
  cases l with
  | nil => exact absurd rfl h
  | cons y r => simp [jt]
def texts (l : List TokA) : List Txt := l.map fun t => (textB t).1
def okAll (l : List TokA) : Bool := l.all fun t => (textB t).2
/-- What Join answers. -/
def joinP (l : List TokA) : Txt × Int :=
  if 256 < l.length then ([], 70) else if okAll l then (if 256 < (jt (texts l)).length then ([], 70) else (jt (texts l), 0)) else ([], 72)
theorem kws_le : ∀ x ∈ kws, x.length ≤ 8 := by decide +kernel
theorem marks_le : ∀ x ∈ marks, x.length ≤ 8 := by decide +kernel
theorem text_le {t : TokA} (h : (textB t).2 = true) : (textB t).1.length ≤ 100 := by
  unfold textB at h ⊢
  split
  · have := decU_len (unat t.n) (unat_lt t.n)
    simp only; omega
  · rename_i h2
    rw [if_neg h2] at h
    split
    · simp
    · rename_i hn
      rw [if_neg hn] at h
      split
      · rename_i h1
        rw [if_pos h1] at h
        unfold nameB at h
        simp only [Bool.and_eq_true, decide_eq_true_eq] at h
        have := h.1.1.1.2
        simp only; omega
      · rename_i h1
        rw [if_neg h1] at h
        split
        · split
          · simp
          · rename_i hl
            have := flat_le4 t.text
            simp only [quoteB, List.length_cons, List.length_append, List.length_nil]
            omega
        · rename_i h3
          rw [if_neg h3] at h
          split
          · rename_i h4
            rw [if_pos h4] at h
            have := kws_le _ (of_decide_eq_true h)
            simp only; omega
          · rename_i h4
            rw [if_neg h4] at h
            split
            · rename_i h5
              rw [if_pos h5] at h
              have := marks_le _ (of_decide_eq_true h)
              simp only; omega
            · simp
theorem texts_take {l : List TokA} {k : Nat} {t : TokA} (h : l[k]? = some t) : texts (l.take (k + 1)) = texts (l.take k) ++ [(textB t).1] := by
  unfold texts
  rw [take_snoc _ _ _ h, List.map_append]
  rfl
theorem okAll_take {l : List TokA} {k : Nat} {t : TokA} (h : l[k]? = some t) : okAll (l.take (k + 1)) = (okAll (l.take k) && (textB t).2) := by
  unfold okAll
  rw [take_snoc _ _ _ h, List.all_append]
  simp
theorem not_ok {l : List TokA} {k : Nat} {t : TokA} (h : l[k]? = some t) (hb : (textB t).2 = false) : okAll l = false := by
  unfold okAll
  rw [List.all_eq_false]
  exact ⟨t, List.mem_of_getElem? h, by simp [hb]⟩
theorem ret_vi' {a b : Txt} {i j : Int} (h : a = b) (h2 : i = j) : Ending.returned (.tuple #[str a, .int .i64 i]) = .returned (.tuple #[str b, .int .i64 j]) := by rw [h, h2]

set_option maxRecDepth 100000 in
set_option maxHeartbeats 2000000 in
theorem rjoin_v (l : List TokA) (v : Value) (w : World) (hT : ToksAt w v l) (hl : l.length ≤ 140737488355328) (ht : ∀ t ∈ l, t.text.length ≤ 140737488355328) :
    Calls Tryd.prog 10 #[v] w fun e w' => e = .returned (.tuple #[str (joinP l).1, .int .i64 (joinP l).2]) ∧ Keeps (fun _ => False) w w' := by
  obtain ⟨ao, cap, rfl⟩ := RowAt.form hT
  obtain ⟨J, HJP⟩ : ∃ J, Hid (joinP l = J) := ⟨_, rfl⟩
  rw [unhide HJP]
  by_cases h256 : 256 < l.length
  · have HE : Hid (J = ([], 70)) := by show _ = _; rw [← unhide HJP]; unfold joinP; rw [if_pos h256]
    have h' : (256 : Int) < (l.length : Int) := by omega
    clear hT ht HJP
    go_enter Tryd.func10, Tryd.ntmps10
    go_wp2_with fail
    go_ret2
    exact ⟨by rw [unhide HE]; rfl, Keeps.refl _ _⟩
  · have HJQ : Hid (J = if okAll l then (if 256 < (jt (texts l)).length then ([], 70) else (jt (texts l), 0)) else ([], 72)) := by show _ = _; rw [← unhide HJP]; unfold joinP; rw [if_neg h256]
    clear HJP
    have h' : ¬ (256 : Int) < (l.length : Int) := by omega
    have HT := hide hT
    have HL := hide ht
    have hl8 : l.length ≤ 256 := by omega
    clear hT ht hl h256
    go_enter Tryd.func10, Tryd.ntmps10
    go_wp2_with fail
    go_loopw [4, 5] (fun s i wr => ∃ (k : Nat) (A : Txt), k ≤ l.length ∧ i = .int .i64 k ∧ s = str A ∧ A.length ≤ 101 * k ∧ Hid (A = jt (texts (l.take k))) ∧ Hid (okAll (l.take k) = true) ∧ Keeps (fun _ => False) w wr) (fun _ i _ => l.length - (intOf i).toNat)
    case atStart => exact ⟨0, [], Nat.zero_le _, rfl, rfl, Nat.zero_le _, by simp [Hid, texts, jt], by simp [Hid, okAll], Keeps.refl _ _⟩
    case round =>
      obtain ⟨k, A, hk, rfl, rfl, hAl, HA, HO, hkp⟩ := hrel
      have HK := hide hkp
      clear hkp
      cases hx : l[k]? with
      | none =>
        have h1 := get_ge hx
        obtain rfl : k = l.length := by omega
        clear hx h1
        rw [List.take_length] at HA HO
        have HJ2 := hide (unhide HJQ)
        rw [unhide HO, if_pos rfl, ← unhide HA] at HJ2
        by_cases hA : 256 < A.length
        · rw [if_pos hA] at HJ2
          have hA' : (256 : Int) < (A.length : Int) := by omega
          go_wp2_with fail
          go_ret2
          exact ⟨by rw [unhide HJ2]; rfl, unhide HK⟩
        · rw [if_neg hA] at HJ2
          have hA' : ¬ (256 : Int) < (A.length : Int) := by omega
          go_wp2_with fail
          go_ret2
          exact ⟨by rw [unhide HJ2]; rfl, unhide HK⟩
      | some t =>
        have h1 := get_lt hx
        have hk1 : (k : Int) < (l.length : Int) := by omega
        obtain ⟨b, off, cp, e, hb, hc⟩ := ToksAt.cells ((unhide HT).keepF (unhide HK)) (by omega)
        simp at e
        obtain ⟨rfl, rfl⟩ := e
        obtain ⟨c0, c1, c2, c3⟩ := hc k t hx
        have HX := hide hx
        have HQ := hide (rtext_v t wr ((unhide HL) t (List.mem_of_getElem? hx)))
        have HLE := hide (fun h => text_le (t := t) h)
        have HTT := hide (texts_take hx)
        have HOT := hide (okAll_take hx)
        have HNO := hide (fun h => not_ok hx h)
        clear hx hc
        unfold TokA.v at HQ
        generalize textB t = R at *
        obtain ⟨X, ok⟩ := R
        simp only at HQ HLE HTT HOT HNO
        go_wp2_with fail
        refine (unhide HQ).mono ?_
        rintro e w7 ⟨rfl, hk7⟩
        have HK7 := hide ((unhide HK).trans hk7)
        clear hk7
        cases ok with
        | false =>
          have HN : Hid (J = ([], 72)) := by show _ = _; rw [unhide HJQ, (unhide HNO) rfl]; rfl
          go_wp2_with fail
          go_ret2
          exact ⟨by rw [unhide HN]; rfl, unhide HK7⟩
        | true =>
          have hXl : X.length ≤ 100 := (unhide HLE) rfl
          have HO7 : Hid (okAll (l.take (k + 1)) = true) := by show _ = _; rw [unhide HOT, unhide HO]; rfl
          by_cases h0 : k = 0
          · subst h0
            have e0 : A = [] := by have := unhide HA; simpa [texts, jt] using this
            subst e0
            have t1 : ∀ w' : World, (Op.stringOp .add (ByteArray.mk #[]) (ByteArray.mk X.toArray)).run Tryd.prog w' = .ok (str X) w' := fun w' => add_str w' [] X (by simp; omega)
            go_wp2_with fail
            go_roundw
            case rel => exact ⟨1, X, by omega, by go_num, rfl, by omega, by show _ = _; rw [unhide HTT]; simp [texts, jt], unhide HO7, unhide HK7⟩
            case measure => simp [intOf]; omega
          · have hk0 : (0 : Int) < (k : Int) := by omega
            have t1 : ∀ w' : World, (Op.stringOp .add (ByteArray.mk A.toArray) (ByteArray.mk #[32])).run Tryd.prog w' = .ok (str (A ++ [32])) w' := fun w' => add_str w' A [32] (by simp; omega)
            have t2 : ∀ w' : World, (Op.stringOp .add (ByteArray.mk (A ++ [32]).toArray) (ByteArray.mk X.toArray)).run Tryd.prog w' = .ok (str (A ++ [32] ++ X)) w' := fun w' => add_str w' (A ++ [32]) X (by simp; omega)
            have HJ : Hid (A ++ 32 :: X = jt (texts (l.take (k + 1)))) := by
              show _ = _
              have h2 : (texts (l.take k)).length = k := by simp [texts]; omega
              rw [unhide HTT, jt_snoc _ _ (by intro e; rw [e] at h2; simp at h2; omega), unhide HA]
              simp
            go_wp2_with fail
            go_roundw
            case rel => exact ⟨k + 1, _, by omega, by go_num, rfl, by simp; omega, unhide HJ, unhide HO7, unhide HK7⟩
            case measure => simp [intOf]; omega
end Go.Proofs.YtbgapbaeegloaaaDoor
