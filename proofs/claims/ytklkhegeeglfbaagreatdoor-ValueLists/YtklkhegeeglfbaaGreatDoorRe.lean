import Derived.Test.YtklkhegeeglfbaaGreatDoorJn
import Derived.Test.YtklkhegeeglfbaaGreatDoorJb
import Derived.Test.YtklkhegeeglfbaaGreatDoorJzae
import Derived.Lib.IndexMore
namespace Go.Proofs.YtklkhegeeglfbaaGreatDoor
open Go.RowKit Go.Maps

/-- The field that a piece of a schema's text tells, as the program reads it. -/
def sfieldP (p : Txt) : Option FieldA :=
  if runB p = 0 ∨ p[runB p]? ≠ some 58 then none
  else match typeW (if isOpt (p.drop (runB p + 1)) then (p.drop (runB p + 1)).dropLast else p.drop (runB p + 1)) with
    | none => none
    | some ty => some ⟨p.take (runB p), ty, isOpt (p.drop (runB p + 1))⟩
theorem scan_all (t : Txt) (p : UInt8 → Bool) : (t.take (scan t p 0)).all p = true := by
  unfold scan
  simp only [List.drop_zero, Nat.zero_add]
  rw [show t.take (t.takeWhile p).length = t.takeWhile p from by
    conv => lhs; arg 2; rw [← List.takeWhile_append_dropWhile (p := p) (l := t)]
    rw [List.take_left]]
  exact List.all_takeWhile
theorem scan_at (t : Txt) (p : UInt8 → Bool) (c : UInt8) (h : t[scan t p 0]? = some c) : p c = false := by
  unfold scan at h
  simp only [List.drop_zero, Nat.zero_add] at h
  have e : t = t.takeWhile p ++ t.dropWhile p := (List.takeWhile_append_dropWhile).symm
  have h2 : (t.dropWhile p)[0]? = some c := by
    have : t[(t.takeWhile p).length]? = (t.takeWhile p ++ t.dropWhile p)[(t.takeWhile p).length]? := by rw [← e]
    rw [this, List.getElem?_append_right (Nat.le_refl _), Nat.sub_self] at h
    exact h
  cases hd : t.dropWhile p with
  | nil => rw [hd] at h2; simp at h2
  | cons x r =>
    rw [hd] at h2
    simp at h2
    subst h2
    have := List.head_dropWhile_not (p := p) (l := t) (by rw [hd]; simp)
    simpa [hd] using this
/-- The first place where p fails is told by what stands there and ahead of it. -/
theorem scan_eq {t : Txt} {p : UInt8 → Bool} {k : Nat} {c : UInt8} (ha : (t.take k).all p = true) (hc : t[k]? = some c) (hp : p c = false) : scan t p 0 = k := by
  have hk := get_lt hc
  unfold scan
  simp only [List.drop_zero, Nat.zero_add]
  have e : t = t.take k ++ c :: t.drop (k + 1) := by
    conv => lhs; rw [← List.take_append_drop k t]
    rw [drop_at hc]
  rw [e, List.takeWhile_append_of_pos (fun x hx => List.all_eq_true.1 ha x hx)]
  simp [hp]; omega
theorem part58 (c : UInt8) (h : partB (num c) = true) : (c != 58) = true := by
  simp only [bne_iff_ne]
  rintro rfl
  simp [partB, num] at h
theorem sfield_eq (p : Txt) : sfieldP p = sfieldB p := by
  obtain ⟨k, hk⟩ : ∃ k, runB p = k := ⟨_, rfl⟩
  have hall : (p.take k).all (fun c => partB (num c)) = true := by rw [← hk]; exact scan_all p _
  unfold sfieldP sfieldB
  rw [hk]
  by_cases h58 : p[k]? = some 58
  · have hc : colon p = k := scan_eq (by
      rw [List.all_eq_true] at hall ⊢
      exact fun x hx => part58 x (hall x hx)) h58 (by decide)
    have := get_lt h58
    rw [hc]
    by_cases hk0 : k = 0
    · rw [if_pos (.inl hk0), if_pos (.inl hk0)]
    · rw [if_neg (show ¬ (k = 0 ∨ p[k]? ≠ some 58) by simp [hk0, h58]), if_neg (show ¬ (k = 0 ∨ k = p.length) by omega), if_neg (show ¬ (p.take k).all (fun c => partB (num c)) = false by simp [hall])]
      rfl
  · rw [if_pos (.inr h58)]
    by_cases hc0 : colon p = 0 ∨ colon p = p.length
    · rw [if_pos hc0]
    · rw [if_neg hc0, if_pos]
      have hle : colon p ≤ p.length := scan_le _ _ _ (by omega)
      obtain ⟨c, hc⟩ : ∃ c, p[colon p]? = some c := ⟨_, List.getElem?_eq_getElem (by omega)⟩
      have hc58 : c = 58 := by have := scan_at p _ c hc; simpa using this
      subst hc58
      cases ha : (p.take (colon p)).all (fun c => partB (num c)) with
      | false => rfl
      | true =>
        have : runB p = colon p := scan_eq ha hc (by decide)
        rw [hk] at this
        rw [this] at h58
        exact absurd hc h58
theorem take9 (l : List FieldA) (h : 9 ≤ l.length) : schemaB l = false := by
  unfold schemaB
  rw [show decide (l.length ≤ 8) = false from decide_eq_false (by omega)]
  simp
theorem index44 : ∀ l : Txt, Lib.index l [44] = if 44 ∈ l then ((l.takeWhile (fun x => x != 44)).length : Int) else -1
  | [] => by simp [Lib.index]
  | b :: l => by
    rw [Lib.index, index44 l]
    by_cases h : b = 44
    · subst h; simp
    · have h2 : (44 : UInt8) ≠ b := fun e => h e.symm
      have h3 : (b != 44) = true := by simpa using h
      have h4 : ([44] : Txt).isPrefixOf (b :: l) = false := by simp [List.isPrefixOf, h2]
      rw [h4]
      simp only [List.mem_cons, h2, false_or, List.takeWhile_cons, h3, if_true, List.length_cons, Bool.false_eq_true, if_false]
      by_cases hm : 44 ∈ l
      · rw [if_pos hm, if_pos hm, if_neg]
        · omega
        · simp only [beq_iff_eq]; omega
      · rw [if_neg hm, if_neg hm]; rfl
theorem tw_full {p : UInt8 → Bool} : ∀ {l : Txt}, (∀ x ∈ l, p x = true) → l.takeWhile p = l
  | [], _ => rfl
  | c :: r, h => by rw [List.takeWhile_cons, if_pos (h c (by simp)), tw_full (fun x hx => h x (List.mem_cons_of_mem _ hx))]
theorem tw_short : ∀ {l : Txt}, 44 ∈ l → (l.takeWhile (fun x => x != 44)).length < l.length
  | [], h => by simp at h
  | c :: r, h => by
    by_cases hc : c = 44
    · subst hc; simp
    · have : 44 ∈ r := by rcases List.mem_cons.1 h with h | h; exact absurd h.symm hc; exact h
      have := tw_short this
      rw [List.takeWhile_cons, if_pos (by simpa using hc), List.length_cons, List.length_cons]
      omega
theorem cut44 (t : Txt) (a : Nat) (ha : a ≤ t.length) : Lib.cut (t.drop a) [44] = ((t.drop a).take (comma t a - a), t.drop (comma t a + 1), decide (comma t a < t.length)) := by
  have e : comma t a = a + ((t.drop a).takeWhile (fun x => x != 44)).length := rfl
  unfold Lib.cut
  rw [index44]
  by_cases hm : 44 ∈ t.drop a
  · have h1 := tw_short hm
    rw [List.length_drop] at h1
    rw [if_pos hm, if_pos (by omega)]
    have h2 : (((t.drop a).takeWhile (fun x => x != 44)).length : Int).toNat = comma t a - a := by omega
    rw [h2, List.drop_drop, decide_eq_true (by omega)]
    congr 2
    congr 1
    simp only [List.length_singleton]
    omega
  · have hf : (t.drop a).takeWhile (fun x => x != 44) = t.drop a := tw_full (fun x hx => by
      simp only [bne_iff_ne]; rintro rfl; exact hm hx)
    rw [hf, List.length_drop] at e
    rw [if_neg hm, if_neg (by omega), decide_eq_false (by omega), List.take_of_length_le (by rw [List.length_drop]; omega), List.drop_eq_nil_of_le (show t.length ≤ comma t a + 1 by omega)]

theorem schema_take9 (l : List FieldA) : schemaB l = schemaB (l.take 9) ∧ (schemaB l = true → l.take 9 = l) := by
  by_cases h : l.length ≤ 9
  · rw [List.take_of_length_le h]; exact ⟨rfl, fun _ => rfl⟩
  · have h1 : schemaB l = false := take9 l (by omega)
    have h2 : schemaB (l.take 9) = false := take9 _ (by rw [List.length_take]; omega)
    rw [h1, h2]
    exact ⟨rfl, fun e => by cases e⟩
theorem pre58 (p : Txt) (k : Nat) : Lib.hasPrefix (p.drop k) [58] = decide (p[k]? = some 58) ∧ (p[k]? = some 58 → Lib.trimPrefix (p.drop k) [58] = p.drop (k + 1)) := by
  have e : Lib.hasPrefix (p.drop k) [58] = decide (p[k]? = some 58) := by
    unfold Lib.hasPrefix
    cases h : p[k]? with
    | none => rw [List.drop_eq_nil_of_le (get_ge h)]; rfl
    | some c =>
      rw [drop_at h]
      by_cases hc : c = 58
      · subst hc; simp
      · have : (58 == c) = false := by simpa using fun e => hc e.symm
        simp [List.isPrefixOf, this, hc]
  refine ⟨e, fun h => ?_⟩
  unfold Lib.trimPrefix
  rw [e, if_pos (by simp [h]), List.drop_drop]
  rfl
theorem suf63 (t : Txt) : Lib.hasSuffix t [63] = isOpt t ∧ Lib.trimSuffix t [63] = if isOpt t then t.dropLast else t := by
  have e : Lib.hasSuffix t [63] = isOpt t := by
    unfold Lib.hasSuffix isOpt
    apply Bool.eq_iff_iff.2
    rw [List.isSuffixOf_iff_suffix, decide_eq_true_eq]
    constructor
    · rintro ⟨s, rfl⟩; simp
    · intro h
      obtain ⟨ys, rfl⟩ := List.getLast?_eq_some_iff.1 h
      exact ⟨ys, rfl⟩
  refine ⟨e, ?_⟩
  unfold Lib.trimSuffix
  rw [e]
  cases isOpt t
  · rfl
  · simp [List.dropLast_eq_take]
theorem wordB_type (W : Txt) : typeW W = if wordB 1 = W then some 1 else if wordB 2 = W then some 2 else if wordB 3 = W then some 3 else none := by
  unfold typeW
  have h1 : (wordB 1 = W) = (W = [105, 110, 116]) := by show ([105, 110, 116] = W) = _; exact propext eq_comm
  have h2 : (wordB 2 = W) = (W = [98, 111, 111, 108]) := by show ([98, 111, 111, 108] = W) = _; exact propext eq_comm
  have h3 : (wordB 3 = W) = (W = [98, 121, 116, 101, 115]) := by show ([98, 121, 116, 101, 115] = W) = _; exact propext eq_comm
  simp only [h1, h2, h3]

set_option maxRecDepth 100000 in
set_option maxHeartbeats 1000000 in
theorem typeCalled_v (W : Txt) (w : World) (hT : Types w) :
    Calls Tryz.prog 71 #[str W] w fun e w' => e = .returned (.tuple #[.int .i64 ((typeW W).getD 0), .bool (typeW W).isSome]) ∧ w' = w := by
  have c1 := hT.cell 2 _ rfl
  have c2 := hT.cell 4 _ rfl
  have c3 := hT.cell 6 _ rfl
  obtain ⟨D, HD⟩ : ∃ D, Hid (typeW W = D) := ⟨_, rfl⟩
  rw [unhide HD]
  have HW := hide (wordB_type W)
  rw [unhide HD] at HW
  go_enter Tryz.func71, Tryz.ntmps71
  go_wp2_with fail
  go_loopw [4] (fun i wr => ∃ k : Nat, 1 ≤ k ∧ k ≤ 4 ∧ i = .int .i64 k ∧ Hid (∀ j, 1 ≤ j → j < k → wordB (j : Int) ≠ W) ∧ wr = w) (fun i _ => 4 - (intOf i).toNat)
  case atStart => exact ⟨1, by omega, by omega, rfl, fun j h1 h2 => by omega, rfl⟩
  case round =>
    obtain ⟨k, hk1, hk4, rfl, HN, rfl⟩ := hrel
    by_cases hk : k = 4
    · subst hk
      have HE : Hid (D = none) := by
        show _ = _
        have n1 : ¬ wordB 1 = W := (unhide HN) 1 (by omega) (by omega)
        have n2 : ¬ wordB 2 = W := (unhide HN) 2 (by omega) (by omega)
        have n3 : ¬ wordB 3 = W := (unhide HN) 3 (by omega) (by omega)
        rw [unhide HW, if_neg n1, if_neg n2, if_neg n3]
      go_wp2_with fail
      go_ret2
      exact ⟨by rw [unhide HE]; rfl, rfl⟩
    · have hc : wr.cell? ⟨0, k * 2, none⟩ = some (str (wordB (k : Int))) := by
        rcases (by omega : k = 1 ∨ k = 2 ∨ k = 3) with rfl | rfl | rfl
        · exact c1
        · exact c2
        · exact c3
      have i1 : (k : Int) ≤ 3 := by omega
      have i2 : (k : Int) < 4 := by omega
      obtain ⟨V, HV⟩ : ∃ V : Txt, Hid (wordB (k : Int) = V) := ⟨_, hide rfl⟩
      rw [unhide HV] at hc
      by_cases hv : V = W
      · have HE : Hid (D = some (k : Int)) := by
          show _ = _
          rw [unhide HW]
          rcases (by omega : k = 1 ∨ k = 2 ∨ k = 3) with rfl | rfl | rfl
          · have n1 : wordB 1 = W := (unhide HV).trans hv
            rw [if_pos n1]; rfl
          · have n1 : ¬ wordB 1 = W := (unhide HN) 1 (by omega) (by omega)
            have n2 : wordB 2 = W := (unhide HV).trans hv
            rw [if_neg n1, if_pos n2]; rfl
          · have n1 : ¬ wordB 1 = W := (unhide HN) 1 (by omega) (by omega)
            have n2 : ¬ wordB 2 = W := (unhide HN) 2 (by omega) (by omega)
            have n3 : wordB 3 = W := (unhide HV).trans hv
            rw [if_neg n1, if_neg n2, if_pos n3]; rfl
        have e1 : (V == W) = true := by simpa using hv
        clear hv c1 c2 c3
        go_wp2_with fail
        go_ret2
        exact ⟨by rw [unhide HE]; rfl, rfl⟩
      · have e1 : (V == W) = false := by simpa using hv
        have HNV : Hid (wordB (k : Int) ≠ W) := fun e => hv ((unhide HV).symm.trans e)
        clear hv c1 c2 c3
        go_wp2_with fail
        go_roundw
        case rel =>
          refine ⟨k + 1, by omega, by omega, by go_num, fun j h1 h2 => ?_, trivial⟩
          by_cases hjk : j = k
          · rw [hjk]; exact unhide HNV
          · exact (unhide HN) j h1 (by omega)
        case measure => simp [intOf]; omega

set_option maxRecDepth 100000 in
theorem clone_v (s : Txt) (hs : s.length ≤ 281474976710656) (w : World) : Calls Tryz.prog 72 #[str s] w fun e w' => e = .returned (str s) ∧ Keeps (fun _ => False) w w' := by
  have HQ := hide (Tryz.stringslite_Clone ⟨s.toArray⟩ w hs)
  go_enter Tryz.func72, Tryz.ntmps72
  go_wp2_with fail
  refine (unhide HQ).mono ?_
  rintro e w' ⟨rfl, hb⟩
  have HK := hide (keeps_below hb)
  clear hb
  go_wp2_with fail
  go_ret
  exact ⟨rfl, unhide HK⟩
end Go.Proofs.YtklkhegeeglfbaaGreatDoor
