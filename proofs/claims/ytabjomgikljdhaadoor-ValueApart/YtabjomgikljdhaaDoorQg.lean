import Derived.Test.YtabjomgikljdhaaDoorQf
namespace Go.Proofs.YtabjomgikljdhaaDoor
open Go.RowKit Go.Maps

theorem fits_none {f : FieldA} {x : ValA} (h : fitsB f x = true) (h0 : x.kind = 0) : x = ⟨0, 0, []⟩ := by
  unfold fitsB at h
  rw [if_pos h0] at h
  simp only [Bool.and_eq_true, decide_eq_true_eq] at h
  obtain ⟨k, n, s⟩ := x
  simp_all
theorem fits_some {f : FieldA} {x : ValA} (h : fitsB f x = true) (h0 : x.kind ≠ 0) : x.kind = f.type ∧ (x = ⟨1, x.n, []⟩ ∨ (x = ⟨2, x.n, []⟩ ∧ (x.n = 0 ∨ x.n = 1)) ∨ x = ⟨3, 0, x.s⟩) := by
  unfold fitsB at h
  rw [if_neg h0] at h
  obtain ⟨k, n, s⟩ := x
  simp only at h h0 ⊢
  split at h
  · cases h
  · rename_i hk
    refine ⟨by simpa using hk, ?_⟩
    split at h
    · left; simp_all
    · split at h
      · right; left; simp_all
      · split at h
        · right; right; simp_all
        · cases h
theorem boolT_chars (b : Bool) : ∀ x ∈ (if b then [116, 114, 117, 101] else [102, 97, 108, 115, 101] : Txt), x ≠ 44 ∧ x ≠ 125 := by cases b <;> simp
theorem shown_cut {f : FieldA} {x y : ValA} {A B : Txt} (hx : fitsB f x = true) (hy : fitsB f y = true) (x0 : x.kind ≠ 0) (y0 : y.kind ≠ 0) (xI : -9223372036854775808 ≤ x.n ∧ x.n ≤ 9223372036854775807) (yI : -9223372036854775808 ≤ y.n ∧ y.n ≤ 9223372036854775807) (hA : StopT A) (hB : StopT B) (h : shownB x ++ A = shownB y ++ B) : x = y ∧ A = B := by
  obtain ⟨kx, cx⟩ := fits_some hx x0
  obtain ⟨ky, cy⟩ := fits_some hy y0
  have hk : x.kind = y.kind := kx.trans ky.symm
  rcases cx with cx | ⟨cx, nx⟩ | cx <;> rcases cy with cy | ⟨cy, ny⟩ | cy
  · rw [cx, cy] at h
    simp only [shownB, if_true] at h
    obtain ⟨h1, h2⟩ := cut_tail (decimal_chars _) (decimal_chars _) hA hB h
    have h3 : x.n = y.n := by rw [← readN_decimal x.n xI.1 xI.2, h1, readN_decimal y.n yI.1 yI.2]
    exact ⟨by rw [cx, cy, h3], h2⟩
  · rw [cx, cy] at hk; simp at hk
  · rw [cx, cy] at hk; simp at hk
  · rw [cx, cy] at hk; simp at hk
  · rw [cx, cy] at h ⊢
    rcases nx with nx | nx <;> rcases ny with ny | ny <;> rw [nx, ny] at h ⊢
    · exact ⟨rfl, by simpa [shownB] using h⟩
    · exfalso; simp [shownB] at h
    · exfalso; simp [shownB] at h
    · exact ⟨rfl, by simpa [shownB] using h⟩
  · rw [cx, cy] at hk; simp at hk
  · rw [cx, cy] at hk; simp at hk
  · rw [cx, cy] at hk; simp at hk
  · rw [cx, cy] at h
    have e3 : ∀ s : Txt, shownB ⟨3, 0, s⟩ = quoteB s := fun s => by simp [shownB]
    rw [e3, e3] at h
    obtain ⟨h1, h2⟩ := quoteB_cut h
    exact ⟨by rw [cx, cy, h1], h2⟩

theorem part_char : ∀ x : UInt8, partB (num x) = true → x ≠ 61 ∧ x ≠ 44 ∧ x ≠ 125 := by
  intro x h
  refine ⟨?_, ?_, ?_⟩ <;> (rintro rfl; revert h; decide +kernel)
theorem name_chars {f : FieldA} (h : fieldOK f = true) : f.name ≠ [] ∧ ∀ x ∈ f.name, x ≠ 61 ∧ x ≠ 44 ∧ x ≠ 125 := by
  unfold fieldOK nameB at h
  simp only [Bool.and_eq_true, decide_eq_true_eq] at h
  exact ⟨h.1.1.1.1.1, fun x hx => part_char x (List.all_eq_true.1 h.1.1.2 x hx)⟩
def sepT (first : Bool) : Txt := if first then [] else [44]
theorem items_cons (p : FieldA × ValA) (z : List (FieldA × ValA)) : items (p :: z) = (if p.2.kind = 0 then [] else [p.1.name ++ [61] ++ shownB p.2]) ++ items z := by simp [items]
theorem joinT_start : ∀ (l : List FieldA) (p : List ValA) (first : Bool), joinT first (items (l.zip p)) = [125] ∨ ∃ f ∈ l, ∃ R, joinT first (items (l.zip p)) = sepT first ++ (f.name ++ 61 :: R)
  | [], p, first => .inl (by simp [items, joinT])
  | f :: l, [], first => .inl (by simp [items, joinT])
  | f :: l, x :: p, first => by
    rw [List.zip_cons_cons, items_cons]
    by_cases h : x.kind = 0
    · rw [if_pos h, List.nil_append]
      rcases joinT_start l p first with h1 | ⟨g, hg, R, h1⟩
      · exact .inl h1
      · exact .inr ⟨g, List.mem_cons_of_mem _ hg, R, h1⟩
    · rw [if_neg h]
      refine .inr ⟨f, by simp, shownB x ++ joinT false (items (l.zip p)), ?_⟩
      simp [joinT, sepT]
theorem not_start {l : List FieldA} {p : List ValA} {first : Bool} {f : FieldA} {S : Txt} (hok : fieldOK f = true) (hall : l.all fieldOK = true) (hnew : ∀ g ∈ l, g.name ≠ f.name) (h : joinT first (items (l.zip p)) = sepT first ++ (f.name ++ 61 :: S)) : False := by
  obtain ⟨hne, hch⟩ := name_chars hok
  rcases joinT_start l p first with h1 | ⟨g, hg, R, h1⟩
  · rw [h1] at h
    cases first with
    | false => simp [sepT] at h
    | true =>
      obtain ⟨c, r, hcr⟩ : ∃ c r, f.name = c :: r := by
        cases hf : f.name with
        | nil => exact absurd hf hne
        | cons c r => exact ⟨c, r, rfl⟩
      rw [hcr] at h hch
      simp only [sepT, if_true, List.nil_append, List.cons_append, List.cons.injEq] at h
      exact (hch c (by simp)).2.2 h.1.symm
  · rw [h1] at h
    have h2 := List.append_cancel_left h
    obtain ⟨_, hcg⟩ := name_chars (List.all_eq_true.1 hall g hg)
    exact hnew g hg (cut_at (fun x hx => (hcg x hx).1) (fun x hx => (hch x hx).1) h2).1

theorem print_inj : ∀ (l : List FieldA) (p q : List ValA) (first : Bool), l.all fieldOK = true → (l.map FieldA.name).Nodup → p.length = l.length → q.length = l.length → fitAll l p = true → fitAll l q = true → InR p → InR q → joinT first (items (l.zip p)) = joinT first (items (l.zip q)) → p = q
  | [], p, q, _, _, _, hp, hq, _, _, _, _, _ => by rw [List.eq_nil_of_length_eq_zero hp, List.eq_nil_of_length_eq_zero hq]
  | f :: l, [], _, _, _, _, hp, _, _, _, _, _, _ => by simp at hp
  | f :: l, x :: p, [], _, _, _, _, hq, _, _, _, _, _ => by simp at hq
  | f :: l, x :: p, y :: q, first, hok, hnd, hp, hq, fp, fq, ip, iq, h => by
    simp only [List.all_cons, Bool.and_eq_true] at hok
    simp only [List.map_cons, List.nodup_cons] at hnd
    simp only [fitAll, List.zip_cons_cons, List.all_cons, Bool.and_eq_true] at fp fq
    have hnew : ∀ g ∈ l, g.name ≠ f.name := fun g hg e => hnd.1 (List.mem_map.2 ⟨g, hg, e⟩)
    have ih := fun fst => print_inj l p q fst hok.2 hnd.2 (by simpa using hp) (by simpa using hq) fp.2 fq.2 (fun z hz => ip z (List.mem_cons_of_mem _ hz)) (fun z hz => iq z (List.mem_cons_of_mem _ hz))
    rw [List.zip_cons_cons, List.zip_cons_cons, items_cons, items_cons] at h
    have form : ∀ (v : ValA) (L : List Txt), joinT first ([f.name ++ [61] ++ shownB v] ++ L) = sepT first ++ (f.name ++ 61 :: (shownB v ++ joinT false L)) := fun v L => by simp [joinT, sepT]
    by_cases hx : x.kind = 0 <;> by_cases hy : y.kind = 0
    · rw [if_pos hx, if_pos hy] at h
      rw [fits_none fp.1 hx, fits_none fq.1 hy, ih first (by simpa using h)]
    · rw [if_pos hx, if_neg hy, form] at h
      exact (not_start hok.1 hok.2 hnew (by simpa using h)).elim
    · rw [if_neg hx, if_pos hy, form] at h
      exact (not_start hok.1 hok.2 hnew (by simpa using h.symm)).elim
    · rw [if_neg hx, if_neg hy, form, form] at h
      have h1 := List.append_cancel_left (List.append_cancel_left h)
      simp only [List.cons.injEq, true_and] at h1
      obtain ⟨h2, h3⟩ := shown_cut fp.1 fq.1 hx hy (ip x (by simp)) (iq y (by simp)) (joinT_stop _) (joinT_stop _) h1
      rw [h2, ih false h3]

theorem printP_inj {l : List FieldA} {p q : List ValA} (ep : errR l p = 0) (eq : errR l q = 0) (ip : InR p) (iq : InR q) (h : printP l p = printP l q) : p = q := by
  obtain ⟨hs, lp, fp⟩ := errR_zero ep
  obtain ⟨_, lq, fq⟩ := errR_zero eq
  unfold printP at h
  rw [if_pos ep, if_pos eq, List.append_assoc, List.append_assoc, ← joinT_true, ← joinT_true] at h
  have hnd : (l.map FieldA.name).Nodup := by
    unfold schemaB at hs
    simp only [Bool.and_eq_true, decide_eq_true_eq] at hs
    exact hs.1.2
  exact print_inj l p q true (schemaB_ok hs) hnd lp lq fp fq ip iq (List.append_cancel_left h)
/-- Neither record's bytes begin the other's. -/
theorem enc_apart {l : List FieldA} {p q : List ValA} (ep : errR l p = 0) (eq : errR l q = 0) (ip : InR p) (iq : InR q) {n : Nat} (hn : n = min (encB l p).length (encB l q).length) (h : (encB l p).take n = (encB l q).take n) : p = q := by
  obtain ⟨hs, _, _⟩ := errR_zero ep
  have dp := decodeP_enc hs ep ip
  have dq := decodeP_enc hs eq iq
  rcases Nat.lt_trichotomy (encB l p).length (encB l q).length with h1 | h1 | h1
  · rw [show n = (encB l p).length by omega, List.take_length] at h
    have := decodeP_less hs eq iq h1
    rw [← h, dp] at this
    cases this
  · rw [show n = (encB l p).length by omega, List.take_length, h1, List.take_length] at h
    rw [h, dq] at dp
    exact (Option.some.inj dp).symm
  · rw [show n = (encB l q).length by omega, List.take_length] at h
    have := decodeP_less hs ep ip h1
    rw [h, dq] at this
    cases this
end Go.Proofs.YtabjomgikljdhaaDoor
