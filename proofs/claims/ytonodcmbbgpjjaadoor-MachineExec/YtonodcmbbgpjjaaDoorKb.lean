import Derived.Test.YtonodcmbbgpjjaaDoorJw
import Derived.Test.YtonodcmbbgpjjaaDoorJv
import Derived.Test.YtonodcmbbgpjjaaDoorKa
namespace Go.Proofs.YtonodcmbbgpjjaaDoor
open Go.RowKit Go.Maps
theorem leadsB_shift (c k p : Nat) (x : ValA) : leadsB (c + k) x (c + p) = leadsB k x p := by
  unfold leadsB
  rw [show decide (c + k + 1 + x.n.toNat = c + p) = decide (k + 1 + x.n.toNat = p) by apply decide_eq_decide.2; omega, show decide (c + k + 1 = c + p) = decide (k + 1 = p) by apply decide_eq_decide.2; omega]
theorem brings_congr {S : List FieldA} {l l2 : List ValA} {hv hv2 : List (Bool × List Int)} {i t : Nat} (h : hv[i]? = hv2[i]?) (hl : l[i]? = l2[i]?) : bringsB S l hv i t = bringsB S l2 hv2 i t := by
  unfold bringsB
  rw [h, hl]
theorem brings_shift {S : List FieldA} {l l2 : List ValA} {hv hv2 : List (Bool × List Int)} {c i t : Nat} (h : hv[c + i]? = hv2[i]?) (hl : l[c + i]? = l2[i]?) : bringsB S l hv (c + i) (c + t) = bringsB S l2 hv2 i t := by
  unfold bringsB
  rw [h, hl]
  split
  · rw [leadsB_shift]
  · rfl
theorem pull_congr {S : List FieldA} {l l2 : List ValA} {hv hv2 : List (Bool × List Int)} {t : Nat} : ∀ {k : Nat}, (∀ i, i < k → bringsB S l hv i t = bringsB S l2 hv2 i t) → pullB S l hv t k = pullB S l2 hv2 t k
  | 0, _ => rfl
  | k + 1, h => by rw [pullB, pullB, h k (by omega), pull_congr (k := k) (fun i hi => h i (by omega))]
theorem pull_nones {S : List FieldA} {l : List ValA} {hv : List (Bool × List Int)} {t : Nat} : ∀ {k : Nat}, (∀ i, i < k → bringsB S l hv i t = none) → pullB S l hv t k = some (decide (t = 0), [])
  | 0, _ => rfl
  | k + 1, h => by rw [pullB, pull_nones (k := k) (fun i hi => h i (by omega)), h k (by omega)]
/-- Places that are right are the ones that are pulled. -/
theorem pullA_unique {S : List FieldA} {l : List ValA} {H : List (Bool × List Int)} (h : HvOK S l H) : ∀ (rest : List ValA) (k : Nat), rest = l.drop k → k ≤ l.length → pullA S l k rest (H.take k) = (some H, 0, 0)
  | [], k, hr, hkl => by
    have hk : k = l.length := by
      have := congrArg List.length hr
      rw [List.length_drop] at this
      simp at this
      omega
    have hlt : k < H.length := by rw [h.len]; omega
    have hz := List.getElem?_eq_getElem hlt
    have hp := h.pull k _ hz
    rw [pullA_nil, pull_congr (l2 := l) (hv2 := H) (fun i hi => brings_congr (by rw [List.getElem?_take, if_pos hi]) rfl), hp]
    simp only
    have hfin : H.take k ++ [H[k]] = H := by
      rw [← take_snoc H k _ hz]
      exact List.take_of_length_le (by rw [h.len]; omega)
    rw [hfin, if_neg]
    rintro ⟨h1, h2⟩
    apply h2
    refine h.last _ ?_
    rw [← hk, hz, ← h1]
  | x :: rest, k, hr, hkl => by
    have hkl' : k < l.length := by
      have := congrArg List.length hr
      rw [List.length_drop] at this
      simp at this
      omega
    have hx : l[k]? = some x ∧ rest = l.drop (k + 1) := by
      rw [List.drop_eq_getElem_cons hkl'] at hr
      simp only [List.cons.injEq] at hr
      exact ⟨by rw [List.getElem?_eq_getElem hkl', hr.1], hr.2⟩
    obtain ⟨hxk, hrest⟩ := hx
    have hlt : k < H.length := by rw [h.len]; omega
    have hz := List.getElem?_eq_getElem hlt
    have hp := h.pull k _ hz
    rw [pullA_cons, pull_congr (l2 := l) (hv2 := H) (fun i hi => brings_congr (by rw [List.getElem?_take, if_pos hi]) rfl), hp]
    simp only
    rw [if_neg, ← take_snoc H k _ hz]
    · exact pullA_unique h rest (k + 1) hrest hkl'
    · rintro ⟨h1, h2⟩
      obtain ⟨x', st', hx', hb⟩ := h.beh k H[k].2 hkl' (by rw [hz, ← h1])
      rw [hxk] at hx'
      cases hx'
      rw [h2] at hb
      cases hb
/-- The end is reached. -/
theorem reach_end {S : List FieldA} {l : List ValA} {hv : List (Bool × List Int)} (h : HvOK S l hv) (hF : ∀ i ∈ l, formB i = 0 ∧ rightF S i = true) (hT : ∀ k i, l[k]? = some i → (opA i.kind).opd = 6 → k + 1 + i.n.toNat ≤ l.length) : hv[l.length]? = some (true, []) := by
  have key : ∀ (n k : Nat) (st : List Int), l.length - k ≤ n → k ≤ l.length → hv[k]? = some (true, st) → ∃ st', hv[l.length]? = some (true, st') := by
    intro n
    induction n with
    | zero => intro k st hn hk hv0; exact ⟨st, by rw [show l.length = k by omega]; exact hv0⟩
    | succ n ih =>
      intro k st hn hk hv0
      by_cases hkl : k < l.length
      · obtain ⟨x, st', hx, hb⟩ := h.beh k st hkl hv0
        by_cases h25 : x.kind = 25
        · have ht := hT k x hx ((opd_kind _ (op_cases (formB_zero (hF x (List.mem_of_getElem? hx)).1).1)).2.2.1.2 (Or.inl h25))
          exact ih _ st' (by omega) ht (h.next hv0 hx hb (by unfold leadsB; simp [h25]) ht)
        · exact ih (k + 1) st' (by omega) hkl (h.next hv0 hx hb (by unfold leadsB; simp [h25]) hkl)
      · exact ⟨st, by rw [show l.length = k by omega]; exact hv0⟩
  obtain ⟨st', h'⟩ := key l.length 0 [] (by omega) (Nat.zero_le _) (pullA_first h)
  rw [h', h.last st' h']
/-- Two codes one behind the other. -/
theorem both_ok {S : List FieldA} {a b : List ValA} {ha hb : List (Bool × List Int)} (h1 : HvOK S a ha) (h2 : HvOK S b hb) (hF : ∀ i ∈ a, formB i = 0 ∧ rightF S i = true) (hT : ∀ k i, a[k]? = some i → (opA i.kind).opd = 6 → k + 1 + i.n.toNat ≤ a.length) : HvOK S (a ++ b) (ha.take a.length ++ hb) := by
  have hal : (ha.take a.length).length = a.length := by rw [List.length_take, h1.len]; omega
  have g1 : ∀ i, i < a.length → (ha.take a.length ++ hb)[i]? = ha[i]? := fun i hi => by rw [List.getElem?_append_left (by omega), List.getElem?_take, if_pos hi]
  have g2 : ∀ i, (ha.take a.length ++ hb)[a.length + i]? = hb[i]? := fun i => by rw [List.getElem?_append_right (by omega), hal, Nat.add_sub_cancel_left]
  have l1 : ∀ i, i < a.length → (a ++ b)[i]? = a[i]? := fun i hi => List.getElem?_append_left hi
  have l2 : ∀ i, (a ++ b)[a.length + i]? = b[i]? := fun i => by rw [List.getElem?_append_right (by omega), Nat.add_sub_cancel_left]
  have hend := reach_end h1 hF hT
  refine ⟨by rw [List.length_append, List.length_append, hal, h2.len]; omega, ?_, ?_, ?_, ?_⟩
  · intro k z hz
    by_cases hk : k < a.length
    · rw [g1 k hk] at hz; exact h1.small k z hz
    · rw [show k = a.length + (k - a.length) by omega, g2] at hz; exact h2.small _ z hz
  · intro k st hkl hz
    by_cases hk : k < a.length
    · rw [g1 k hk] at hz; rw [l1 k hk]; exact h1.beh k st hk hz
    · rw [List.length_append] at hkl
      rw [show k = a.length + (k - a.length) by omega, g2] at hz
      rw [show k = a.length + (k - a.length) by omega, l2]
      exact h2.beh _ st (by omega) hz
  · intro j z hz
    by_cases hj : j < a.length
    · rw [g1 j hj] at hz
      rw [pull_congr (l2 := a) (hv2 := ha) (fun i hi => brings_congr (g1 i (by omega)) (l1 i (by omega)))]
      exact h1.pull j z hz
    · obtain ⟨m, rfl⟩ : ∃ m, j = a.length + m := ⟨j - a.length, by omega⟩
      rw [g2] at hz
      have base : pullB S (a ++ b) (ha.take a.length ++ hb) (a.length + m) a.length = some (decide (m = 0), []) := by
        by_cases hm : m = 0
        · subst hm
          rw [Nat.add_zero, pull_congr (l2 := a) (hv2 := ha) (fun i hi => brings_congr (g1 i hi) (l1 i hi))]
          exact h1.pull a.length _ hend
        · rw [pull_nones, show decide (a.length + m = 0) = decide (m = 0) by apply decide_eq_decide.2; omega]
          intro i hi
          unfold bringsB
          rw [g1 i hi, l1 i hi]
          split
          · rename_i st x hx1 hx2
            have hno : leadsB i x (a.length + m) = false := by
              have hq := (opd_kind _ (op_cases (formB_zero (hF x (List.mem_of_getElem? hx2)).1).1)).2.2.1
              have ht := hT i x hx2
              unfold leadsB
              by_cases hk : x.kind = 25 ∨ x.kind = 26
              · have := ht (hq.2 hk)
                rw [decide_eq_false (show ¬ i + 1 + x.n.toNat = a.length + m by omega), decide_eq_false (show ¬ i + 1 = a.length + m by omega)]
                simp
              · rw [decide_eq_false hk, decide_eq_false (show ¬ i + 1 = a.length + m by omega)]
                simp
            rw [hno]
            rfl
          · rfl
      have step : ∀ i, pullB S (a ++ b) (ha.take a.length ++ hb) (a.length + m) (a.length + i) = pullB S b hb m i := by
        intro i
        induction i with
        | zero => rw [Nat.add_zero, base]; rfl
        | succ i ih =>
          rw [show a.length + (i + 1) = (a.length + i) + 1 by omega, pullB, pullB, ih, brings_shift (g2 i) (l2 i)]
      rw [step]
      exact h2.pull m z hz
  · intro st hst
    rw [List.length_append, g2] at hst
    exact h2.last st hst

end Go.Proofs.YtonodcmbbgpjjaaDoor
namespace Go.Proofs.YtonodcmbbgpjjaaDoor
open Go.RowKit Go.Maps
theorem look_parts {S : List FieldA} {l : List ValA} {ps : List PlA} {k : Nat} {e : Int} (h : lookA S l = (some ps, k, e)) : errS S = 0 ∧ (checkI S l).2 = 0 ∧ (checkT l).2 = 0 := by
  unfold lookA at h
  by_cases h1 : errS S = 0
  · rw [if_neg (show ¬ errS S ≠ 0 from fun q => q h1)] at h
    by_cases h2 : (checkI S l).2 = 0
    · rw [if_neg (show ¬ (checkI S l).2 ≠ 0 from fun q => q h2)] at h
      by_cases h3 : (checkT l).2 = 0
      · exact ⟨h1, h2, h3⟩
      · rw [if_pos h3] at h; cases h
    · rw [if_pos h2] at h; cases h
  · rw [if_pos h1] at h; cases h
theorem scanI_all {S : List FieldA} : ∀ {l : List ValA} {k : Nat}, (∀ i ∈ l, formB i = 0 ∧ rightF S i = true) → scanI S k l = none
  | [], _, _ => rfl
  | x :: r, k, h => by
    obtain ⟨h1, h2⟩ := h x List.mem_cons_self
    rw [scanI, if_neg (show ¬ formB x ≠ 0 from fun q => q h1), if_neg (by rw [h2]; decide)]
    exact scanI_all (fun i hi => h i (List.mem_cons_of_mem _ hi))
theorem scanT_all {N : Nat} : ∀ {l : List ValA} {k : Nat}, (∀ j i, l[j]? = some i → (opA i.kind).opd = 6 → k + j + 1 + i.n.toNat ≤ N) → scanT N k l = none
  | [], _, _ => rfl
  | x :: r, k, h => by
    rw [scanT, if_neg (fun q => by have := h 0 x rfl q.1; omega)]
    exact scanT_all (fun j i hi h6 => by have := h (j + 1) i (by simpa using hi) h6; omega)
theorem len_bytes : ∀ l : List ValA, l.length ≤ (bytesC l).length
  | [] => Nat.le_refl _
  | x :: r => by
    have e : bytesC (x :: r) = oneB x ++ bytesC r := rfl
    have h1 : 1 ≤ (oneB x).length := by unfold oneB; simp
    have := len_bytes r
    rw [e, List.length_append, List.length_cons]
    omega
theorem firstE_all : ∀ {l : List ValA}, (∀ i ∈ l, formB i = 0) → firstE l = 0
  | [], _ => rfl
  | x :: r, h => by rw [firstE, if_pos (h x List.mem_cons_self)]; exact firstE_all (fun i hi => h i (List.mem_cons_of_mem _ hi))
theorem both_forms {S : List FieldA} {a b : List ValA} (h1 : ∀ i ∈ a, formB i = 0 ∧ rightF S i = true) (h2 : ∀ i ∈ b, formB i = 0 ∧ rightF S i = true) : ∀ i ∈ a ++ b, formB i = 0 ∧ rightF S i = true := fun i hi => (List.mem_append.1 hi).elim (h1 i) (h2 i)
theorem look_big {S : List FieldA} {l : List ValA} (h0 : errS S = 0) (hF : ∀ i ∈ l, formB i = 0 ∧ rightF S i = true) (hb : 96 < (bytesC l).length) : lookA S l = (none, l.length, 110) := by
  have hc : checkI S l = (l.length, 110) := by
    by_cases h : 96 < l.length
    · exact checkI_long h
    · exact checkI_big (by omega) (scanI_all hF) hb
  unfold lookA
  rw [if_neg (show ¬ errS S ≠ 0 from fun q => q h0), hc, if_pos (show (110 : Int) ≠ 0 by decide)]
theorem look_ok {S : List FieldA} {l : List ValA} {H : List (Bool × List Int)} (h0 : errS S = 0) (hF : ∀ i ∈ l, formB i = 0 ∧ rightF S i = true) (hb : (bytesC l).length ≤ 96) (hT : ∀ k i, l[k]? = some i → (opA i.kind).opd = 6 → k + 1 + i.n.toNat ≤ l.length) (hH : HvOK S l H) : ∃ ps, lookA S l = (some ps, 0, 0) ∧ ps.map pairP = H := by
  have hc := checkI_ok (S := S) (Nat.le_trans (len_bytes l) hb) (scanI_all hF) hb
  have ht : checkT l = (0, 0) := by
    unfold checkT
    rw [scanT_all (fun j i hi h6 => by have := hT j i hi h6; omega)]
    rfl
  have hpa := pullA_unique hH l 0 rfl (Nat.zero_le _)
  rw [List.take_zero] at hpa
  unfold lookA
  rw [if_neg (show ¬ errS S ≠ 0 from fun q => q h0), hc, if_neg (by decide), ht, if_neg (by decide)]
  obtain ⟨ha, hb'⟩ := run_pull S l (fun i hi => (opd_kind _ (op_cases (formB_zero (hF i hi).1).1)).2.2.1) l 0 [] (startA l) rfl (Nat.zero_le _) rfl (by unfold startA; rw [bringAt_length, List.length_replicate]) (fun t ht => startA_get S l t ht) (fun j hj => absurd hj (Nat.not_lt_zero _))
  rw [hpa] at ha hb'
  rcases runA_len (S := S) (rest := l) (k := 0) (ps := startA l) with ⟨k', h⟩ | ⟨ps, h, hps⟩
  · rw [h] at hb'; cases hb'
  · rw [h] at hb'
    exact ⟨ps, h, Option.some.inj hb'⟩
theorem deepH_from : ∀ (l : List (Bool × List Int)) (d : Nat), l.foldl (fun d z => max d z.2.length) d = max d (deepH l)
  | [], d => by simp [deepH]
  | x :: r, d => by
    unfold deepH
    rw [List.foldl_cons, List.foldl_cons, deepH_from r, deepH_from r]
    omega
theorem deepH_append (x y : List (Bool × List Int)) : deepH (x ++ y) = max (deepH x) (deepH y) := by
  unfold deepH
  rw [List.foldl_append, deepH_from y]
  rfl
theorem nextM_gt (x : ValA) (k : Nat) (m : MS) : k < nextM x k m := by unfold nextM; split <;> omega
theorem nextM_add (x : ValA) (a k : Nat) (m : MS) : nextM x (a + k) m = a + nextM x k m := by unfold nextM; split <;> omega
theorem play_fuel {S : List FieldA} {l : List ValA} : ∀ (f f' k : Nat) (m : MS), l.length ≤ k + f → l.length ≤ k + f' → playM S l f k m = playM S l f' k m
  | 0, f', k, m, h, _ => by rw [playM_end (by omega), playM_end (by omega)]
  | f + 1, f', k, m, h, h' => by
    by_cases hk : l.length ≤ k
    · rw [playM_end hk, playM_end hk]
    · obtain ⟨g, rfl⟩ : ∃ g, f' = g + 1 := ⟨f' - 1, by omega⟩
      have hx : l[k]? = some l[k] := List.getElem?_eq_getElem (by omega)
      have := nextM_gt l[k] k m
      rw [playM_step hx, playM_step hx, play_fuel f g _ _ (by omega) (by omega)]
theorem play_unseen {S : List FieldA} {l l' : List ValA} : ∀ (f k : Nat) (m : MS), (∀ z ∈ (playM S l f k m).1, l'[z.1]? = l[z.1]?) → l'.length = l.length → playM S l' f k m = playM S l f k m
  | 0, k, m, _, _ => rfl
  | f + 1, k, m, h, hl => by
    by_cases hk : l.length ≤ k
    · rw [playM_end hk, playM_end (by omega)]
    · have hx : l[k]? = some l[k] := List.getElem?_eq_getElem (by omega)
      rw [playM_step hx] at h ⊢
      have hx' : l'[k]? = some l[k] := (h (k, m.st) (List.mem_cons_self ..)).trans hx
      rw [playM_step hx', play_unseen f _ _ (fun z hz => h z (List.mem_cons_of_mem _ hz)) hl]
def shiftD (n : Nat) (D : List (Nat × List ValA)) : List (Nat × List ValA) := D.map fun z => (n + z.1, z.2)
theorem play_shift {S : List FieldA} {a b : List ValA} : ∀ (f k : Nat) (m : MS), playM S (a ++ b) f (a.length + k) m = (shiftD a.length (playM S b f k m).1, (playM S b f k m).2)
  | 0, k, m => rfl
  | f + 1, k, m => by
    by_cases hk : b.length ≤ k
    · rw [playM_end hk, playM_end (by simp; omega)]
      rfl
    · have hx : b[k]? = some b[k] := List.getElem?_eq_getElem (by omega)
      have hx' : (a ++ b)[a.length + k]? = some b[k] := by rw [List.getElem?_append_right (by omega), show a.length + k - a.length = k by omega]; exact hx
      rw [playM_step hx, playM_step hx', nextM_add, play_shift f]
      rfl
theorem play_join {S : List FieldA} {a b : List ValA} (hJ : ∀ (k : Nat) i, a[k]? = some i → (i.kind = 25 ∨ i.kind = 26) → k + 1 + i.n.toNat ≤ a.length) : ∀ (f k : Nat) (m : MS), k ≤ a.length → a.length ≤ k + f →
    playM S (a ++ b) (f + b.length) k m = ((playM S a f k m).1 ++ shiftD a.length (playM S b b.length 0 (playM S a f k m).2).1, (playM S b b.length 0 (playM S a f k m).2).2)
  | f, k, m, hk, hf => by
    by_cases hka : k = a.length
    · subst hka
      rw [playM_end (l := a) (Nat.le_refl _)]
      have := play_shift (S := S) (a := a) (b := b) (f + b.length) 0 m
      rw [Nat.add_zero] at this
      rw [this, play_fuel (l := b) (f + b.length) b.length 0 m (by omega) (by omega)]
      rfl
    · obtain ⟨g, rfl⟩ : ∃ g, f = g + 1 := ⟨f - 1, by omega⟩
      have hx : a[k]? = some a[k] := List.getElem?_eq_getElem (by omega)
      have hx' : (a ++ b)[k]? = some a[k] := by rw [List.getElem?_append_left (by omega)]; exact hx
      have hn : nextM a[k] k m ≤ a.length := by
        unfold nextM
        split
        · rename_i hc
          exact hJ k _ hx (hc.imp id (fun q => q.1))
        · omega
      have hg := nextM_gt a[k] k m
      rw [show g + 1 + b.length = (g + b.length) + 1 by omega, playM_step hx', playM_step hx, play_join hJ g _ _ hn (by omega)]
      rfl
theorem deep_fold (D : List (Nat × List ValA)) : ∀ d : Nat, D.foldl (fun d z => max d z.2.length) d = max d (deepD D) := by
  induction D with
  | nil => intro d; simp [deepD]
  | cons z r ih =>
    intro d
    unfold deepD
    rw [List.foldl_cons, List.foldl_cons, ih, ih]
    omega
theorem deepD_append (A B : List (Nat × List ValA)) : deepD (A ++ B) = max (deepD A) (deepD B) := by
  unfold deepD
  rw [List.foldl_append, deep_fold]
  rfl
theorem deepD_shift (n : Nat) (D : List (Nat × List ValA)) : deepD (shiftD n D) = deepD D := by
  unfold deepD shiftD
  rw [List.foldl_map]
theorem shift_length (n : Nat) (D : List (Nat × List ValA)) : (shiftD n D).length = D.length := by simp [shiftD]
/-- What is told of two codes one behind the other. -/
theorem both_err {S : List FieldA} {a b : List ValA} (ha : (verifyA S a).2.2 = 0) (hb : (verifyA S b).2.2 = 0) : (verifyA S (a ++ b)).2.2 = 0 ∨ (verifyA S (a ++ b)).2.2 = 110 := by
  have ha' : (lookA S a).2.2 = 0 := ha
  have hb' : (lookA S b).2.2 = 0 := hb
  show (lookA S (a ++ b)).2.2 = 0 ∨ (lookA S (a ++ b)).2.2 = 110
  rcases look_tells S a with ⟨_, _, q, r⟩ | ⟨pa, qa, _, oka, lna, _, _, hFa, hTa⟩
  · rw [q] at ha'; exact absurd ha' r
  rcases look_tells S b with ⟨_, _, q, r⟩ | ⟨pb, qb, _, okb, lnb, _, _, hFb, hTb⟩
  · rw [q] at hb'; exact absurd hb' r
  have hok := both_ok oka okb hFa hTa
  have hT : ∀ k i, (a ++ b)[k]? = some i → (opA i.kind).opd = 6 → k + 1 + i.n.toNat ≤ (a ++ b).length := by
    intro k i hi h6
    rw [List.length_append]
    by_cases hk : k < a.length
    · rw [List.getElem?_append_left hk] at hi; have := hTa k i hi h6; omega
    · rw [List.getElem?_append_right (by omega)] at hi; have := hTb _ i hi h6; omega
  by_cases hy : (bytesC (a ++ b)).length ≤ 96
  · obtain ⟨ps, hps, _⟩ := look_ok (look_parts qa).1 (both_forms hFa hFb) hy hT hok
    rw [hps]; exact Or.inl rfl
  · rw [look_big (look_parts qa).1 (both_forms hFa hFb) (by omega)]; exact Or.inr rfl
theorem ver_schema {S : List FieldA} {l : List ValA} (h : (verifyA S l).2.2 = 0) : errS S = 0 := by
  have h' : (lookA S l).2.2 = 0 := h
  rcases look_tells S l with ⟨_, _, q, r⟩ | ⟨pa, qa, _⟩
  · rw [q] at h'; exact absurd h' r
  · exact (look_parts qa).1
theorem row_errR {S : List FieldA} {h : Bool} {vals : List ValA} (hs : errS S = 0) (hr : rowOK S h vals) : rowB S h vals = true := by
  unfold rowB
  unfold rowOK at hr
  cases h with
  | false => rw [if_neg (by decide)] at hr ⊢; rw [hr, hs]; rfl
  | true =>
    rw [if_pos rfl] at hr ⊢
    have hsb : schemaB S = true := by
      unfold errS at hs
      split at hs
      · assumption
      · cases hs
    unfold errR
    rw [if_pos hsb, if_pos]
    · rfl
    · unfold recB fitAll
      simp only [Bool.and_eq_true, decide_eq_true_eq]
      refine ⟨hr.1, List.all_eq_true.2 fun p hp => ?_⟩
      obtain ⟨k, hk⟩ := List.mem_iff_getElem?.1 hp
      rw [List.getElem?_zip_eq_some] at hk
      exact hr.2 k p.1 p.2 hk.1 hk.2
theorem rowB_err {S : List FieldA} {h : Bool} {vals : List ValA} (hs : errS S = 0) : (rowB S h vals = true ∧ rowE S h vals = 0) ∨ (rowB S h vals = false ∧ rowE S h vals = 61) := by
  have hsb : schemaB S = true := by
    unfold errS at hs
    split at hs
    · assumption
    · cases hs
  unfold rowB rowE
  cases h with
  | false =>
    rw [if_neg (by decide), if_neg (by decide)]
    by_cases hv : vals = []
    · rw [if_pos hv, hv, hs]; exact Or.inl ⟨rfl, rfl⟩
    · rw [if_neg hv]; exact Or.inr ⟨by simp [hv], rfl⟩
  | true =>
    rw [if_pos rfl, if_pos rfl]
    unfold errR
    rw [if_pos hsb]
    split
    · exact Or.inl ⟨rfl, rfl⟩
    · exact Or.inr ⟨rfl, rfl⟩
/-- Progress, preservation and the bounds of a run that begins. -/
theorem run_bounds {S : List FieldA} {l : List ValA} {hh : Bool} {vals : List ValA} (hV : (verifyA S l).2.2 = 0) (hR : rowE S hh vals = 0) :
    ∃ ps, lookA S l = (some ps, 0, 0) ∧ ps.length = l.length + 1 ∧ l.length ≤ 96 ∧ okSteps (ps.map pairP) (ps.length - 1) (-1) (playM S l l.length 0 ⟨[], hh, vals⟩).1 ∧ (∀ z r, (playM S l l.length 0 ⟨[], hh, vals⟩).1 = z :: r → z.1 = 0) ∧
      deepD (playM S l l.length 0 ⟨[], hh, vals⟩).1 ≤ (verifyA S l).1 ∧ (verifyA S l).1 ≤ 16 ∧ rowB S (playM S l l.length 0 ⟨[], hh, vals⟩).2.here (playM S l l.length 0 ⟨[], hh, vals⟩).2.vals = true ∧ (playM S l l.length 0 ⟨[], hh, vals⟩).2.st = [] ∧
      rowOK S (playM S l l.length 0 ⟨[], hh, vals⟩).2.here (playM S l l.length 0 ⟨[], hh, vals⟩).2.vals ∧ (∀ k i, l[k]? = some i → (opA i.kind).opd = 6 → k + 1 + i.n.toNat ≤ l.length) := by
  have h' : (lookA S l).2.2 = 0 := hV
  have hs := ver_schema hV
  rcases look_tells S l with ⟨_, _, q, r⟩ | ⟨ps, qa, _, ok, ln, l96, hSK, hF, hT⟩
  · rw [q] at h'; exact absurd h' r
  have hTy : TyM S ⟨[], hh, vals⟩ [] := ⟨rfl, fun v hv => by simp at hv, rowE_ok hR⟩
  obtain ⟨p1, p2, p3⟩ := play_ok ok hSK hF hT l.length 0 ⟨[], hh, vals⟩ [] (pullA_first ok) hTy (Nat.zero_le _) (by omega)
  refine ⟨ps, qa, ln, l96, ?_, ?_, ?_, ?_, row_errR hs p2.row, ?_, p2.row, hT⟩
  · rw [ln, Nat.add_sub_cancel]; exact p1
  · intro z r hz
    by_cases h0 : 0 < l.length
    · obtain ⟨r', hr'⟩ := p3 h0
      rw [hr'] at hz
      cases hz
      rfl
    · rw [playM_end (by omega)] at hz; cases hz
  · have : (verifyA S l).1 = deepA ps := by unfold verifyA; rw [qa]; rfl
    rw [this, ← deepH_map]
    exact p1.deep (Nat.zero_le _)
  · have : (verifyA S l).1 = deepA ps := by unfold verifyA; rw [qa]; rfl
    rw [this]
    refine deepA_le fun p hp => ?_
    obtain ⟨k, hk⟩ := List.mem_iff_getElem?.1 hp
    have := (ok.small k (pairP p) (by rw [List.getElem?_map, hk]; rfl)).1
    exact this
  · have := p2.ty
    simpa using this
theorem jump_opd {l : List ValA} (h : ∀ (k : Nat) i, l[k]? = some i → (opA i.kind).opd = 6 → k + 1 + i.n.toNat ≤ l.length) : ∀ (k : Nat) i, l[k]? = some i → (i.kind = 25 ∨ i.kind = 26) → k + 1 + i.n.toNat ≤ l.length := fun k i hi hc => h k i hi (by rcases hc with q | q <;> rw [q] <;> rfl)
end Go.Proofs.YtonodcmbbgpjjaaDoor
