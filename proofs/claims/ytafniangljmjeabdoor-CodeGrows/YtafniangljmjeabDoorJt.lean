import Derived.Test.YtafniangljmjeabDoorJp
import Derived.Test.YtafniangljmjeabDoorEb
import Derived.Test.YtafniangljmjeabDoorDi
namespace Go.Proofs.YtafniangljmjeabDoor
open Go.RowKit Go.Maps
theorem leadsB_shift (c k p : Nat) (x : ValA) : leadsB (c + k) x (c + p) = leadsB k x p := by
  unfold leadsB
  rw [show decide (c + k + 1 + x.n.toNat = c + p) = decide (k + 1 + x.n.toNat = p) by apply decide_eq_decide.2; omega, show decide (c + k + 1 = c + p) = decide (k + 1 = p) by apply decide_eq_decide.2; omega]
theorem brings_congr {S : List FieldA} {l l2 : List ValA} {hv hv2 : List (Bool × List Int)} {i t : Nat} (h : hv[i]? = hv2[i]?) (hl : l[i]? = l2[i]?) : bringsB S l hv i t = bringsB S l2 hv2 i t := by
  unfold bringsB
  rw [h, hl]
theorem brings_shift {S : List FieldA} {l l2 : List ValA} {hv hv2 : List (Bool × List Int)} {c i t : Nat} (h : hv[c + i]? = hv2[i]?) (hl : l[c + i]? = l2[i]?) : bringsB S l hv (c + i) (c + t) = bringsB S l2 hv2 i t := by
  unfold bringsB
  rw [h, hl]
  split
  · rw [leadsB_shift]
  · rfl
theorem pull_congr {S : List FieldA} {l l2 : List ValA} {hv hv2 : List (Bool × List Int)} {t : Nat} : ∀ {k : Nat}, (∀ i, i < k → bringsB S l hv i t = bringsB S l2 hv2 i t) → pullB S l hv t k = pullB S l2 hv2 t k
  | 0, _ => rfl
  | k + 1, h => by rw [pullB, pullB, h k (by omega), pull_congr (k := k) (fun i hi => h i (by omega))]
theorem pull_nones {S : List FieldA} {l : List ValA} {hv : List (Bool × List Int)} {t : Nat} : ∀ {k : Nat}, (∀ i, i < k → bringsB S l hv i t = none) → pullB S l hv t k = some (decide (t = 0), [])
  | 0, _ => rfl
  | k + 1, h => by rw [pullB, pull_nones (k := k) (fun i hi => h i (by omega)), h k (by omega)]
/-- Places that are right are the ones that are pulled. -/
theorem pullA_unique {S : List FieldA} {l : List ValA} {H : List (Bool × List Int)} (h : HvOK S l H) : ∀ (rest : List ValA) (k : Nat), rest = l.drop k → k ≤ l.length → pullA S l k rest (H.take k) = (some H, 0, 0)
  | [], k, hr, hkl => by
    have hk : k = l.length := by
      have := congrArg List.length hr
      rw [List.length_drop] at this
      simp at this
      omega
    have hlt : k < H.length := by rw [h.len]; omega
    have hz := List.getElem?_eq_getElem hlt
    have hp := h.pull k _ hz
    rw [pullA_nil, pull_congr (l2 := l) (hv2 := H) (fun i hi => brings_congr (by rw [List.getElem?_take, if_pos hi]) rfl), hp]
    simp only
    have hfin : H.take k ++ [H[k]] = H := by
      rw [← take_snoc H k _ hz]
      exact List.take_of_length_le (by rw [h.len]; omega)
    rw [hfin, if_neg]
    rintro ⟨h1, h2⟩
    apply h2
    refine h.last _ ?_
    rw [← hk, hz, ← h1]
  | x :: rest, k, hr, hkl => by
    have hkl' : k < l.length := by
      have := congrArg List.length hr
      rw [List.length_drop] at this
      simp at this
      omega
    have hx : l[k]? = some x ∧ rest = l.drop (k + 1) := by
      rw [List.drop_eq_getElem_cons hkl'] at hr
      simp only [List.cons.injEq] at hr
      exact ⟨by rw [List.getElem?_eq_getElem hkl', hr.1], hr.2⟩
    obtain ⟨hxk, hrest⟩ := hx
    have hlt : k < H.length := by rw [h.len]; omega
    have hz := List.getElem?_eq_getElem hlt
    have hp := h.pull k _ hz
    rw [pullA_cons, pull_congr (l2 := l) (hv2 := H) (fun i hi => brings_congr (by rw [List.getElem?_take, if_pos hi]) rfl), hp]
    simp only
    rw [if_neg, ← take_snoc H k _ hz]
    · exact pullA_unique h rest (k + 1) hrest hkl'
    · rintro ⟨h1, h2⟩
      obtain ⟨x', st', hx', hb⟩ := h.beh k H[k].2 hkl' (by rw [hz, ← h1])
      rw [hxk] at hx'
      cases hx'
      rw [h2] at hb
      cases hb
/-- The end is reached. -/
theorem reach_end {S : List FieldA} {l : List ValA} {hv : List (Bool × List Int)} (h : HvOK S l hv) (hF : ∀ i ∈ l, formB i = 0 ∧ rightF S i = true) (hT : ∀ k i, l[k]? = some i → (opA i.kind).opd = 6 → k + 1 + i.n.toNat ≤ l.length) : hv[l.length]? = some (true, []) := by
  have key : ∀ (n k : Nat) (st : List Int), l.length - k ≤ n → k ≤ l.length → hv[k]? = some (true, st) → ∃ st', hv[l.length]? = some (true, st') := by
    intro n
    induction n with
    | zero => intro k st hn hk hv0; exact ⟨st, by rw [show l.length = k by omega]; exact hv0⟩
    | succ n ih =>
      intro k st hn hk hv0
      by_cases hkl : k < l.length
      · obtain ⟨x, st', hx, hb⟩ := h.beh k st hkl hv0
        by_cases h25 : x.kind = 25
        · have ht := hT k x hx ((opd_kind _ (op_cases (formB_zero (hF x (List.mem_of_getElem? hx)).1).1)).2.2.1.2 (Or.inl h25))
          exact ih _ st' (by omega) ht (h.next hv0 hx hb (by unfold leadsB; simp [h25]) ht)
        · exact ih (k + 1) st' (by omega) hkl (h.next hv0 hx hb (by unfold leadsB; simp [h25]) hkl)
      · exact ⟨st, by rw [show l.length = k by omega]; exact hv0⟩
  obtain ⟨st', h'⟩ := key l.length 0 [] (by omega) (Nat.zero_le _) (pullA_first h)
  rw [h', h.last st' h']
/-- Two codes one behind the other. -/
theorem both_ok {S : List FieldA} {a b : List ValA} {ha hb : List (Bool × List Int)} (h1 : HvOK S a ha) (h2 : HvOK S b hb) (hF : ∀ i ∈ a, formB i = 0 ∧ rightF S i = true) (hT : ∀ k i, a[k]? = some i → (opA i.kind).opd = 6 → k + 1 + i.n.toNat ≤ a.length) : HvOK S (a ++ b) (ha.take a.length ++ hb) := by
  have hal : (ha.take a.length).length = a.length := by rw [List.length_take, h1.len]; omega
  have g1 : ∀ i, i < a.length → (ha.take a.length ++ hb)[i]? = ha[i]? := fun i hi => by rw [List.getElem?_append_left (by omega), List.getElem?_take, if_pos hi]
  have g2 : ∀ i, (ha.take a.length ++ hb)[a.length + i]? = hb[i]? := fun i => by rw [List.getElem?_append_right (by omega), hal, Nat.add_sub_cancel_left]
  have l1 : ∀ i, i < a.length → (a ++ b)[i]? = a[i]? := fun i hi => List.getElem?_append_left hi
  have l2 : ∀ i, (a ++ b)[a.length + i]? = b[i]? := fun i => by rw [List.getElem?_append_right (by omega), Nat.add_sub_cancel_left]
  have hend := reach_end h1 hF hT
  refine ⟨by rw [List.length_append, List.length_append, hal, h2.len]; omega, ?_, ?_, ?_, ?_⟩
  · intro k z hz
    by_cases hk : k < a.length
    · rw [g1 k hk] at hz; exact h1.small k z hz
    · rw [show k = a.length + (k - a.length) by omega, g2] at hz; exact h2.small _ z hz
  · intro k st hkl hz
    by_cases hk : k < a.length
    · rw [g1 k hk] at hz; rw [l1 k hk]; exact h1.beh k st hk hz
    · rw [List.length_append] at hkl
      rw [show k = a.length + (k - a.length) by omega, g2] at hz
      rw [show k = a.length + (k - a.length) by omega, l2]
      exact h2.beh _ st (by omega) hz
  · intro j z hz
    by_cases hj : j < a.length
    · rw [g1 j hj] at hz
      rw [pull_congr (l2 := a) (hv2 := ha) (fun i hi => brings_congr (g1 i (by omega)) (l1 i (by omega)))]
      exact h1.pull j z hz
    · obtain ⟨m, rfl⟩ : ∃ m, j = a.length + m := ⟨j - a.length, by omega⟩
      rw [g2] at hz
      have base : pullB S (a ++ b) (ha.take a.length ++ hb) (a.length + m) a.length = some (decide (m = 0), []) := by
        by_cases hm : m = 0
        · subst hm
          rw [Nat.add_zero, pull_congr (l2 := a) (hv2 := ha) (fun i hi => brings_congr (g1 i hi) (l1 i hi))]
          exact h1.pull a.length _ hend
        · rw [pull_nones, show decide (a.length + m = 0) = decide (m = 0) by apply decide_eq_decide.2; omega]
          intro i hi
          unfold bringsB
          rw [g1 i hi, l1 i hi]
          split
          · rename_i st x hx1 hx2
            have hno : leadsB i x (a.length + m) = false := by
              have hq := (opd_kind _ (op_cases (formB_zero (hF x (List.mem_of_getElem? hx2)).1).1)).2.2.1
              have ht := hT i x hx2
              unfold leadsB
              by_cases hk : x.kind = 25 ∨ x.kind = 26
              · have := ht (hq.2 hk)
                rw [decide_eq_false (show ¬ i + 1 + x.n.toNat = a.length + m by omega), decide_eq_false (show ¬ i + 1 = a.length + m by omega)]
                simp
              · rw [decide_eq_false hk, decide_eq_false (show ¬ i + 1 = a.length + m by omega)]
                simp
            rw [hno]
            rfl
          · rfl
      have step : ∀ i, pullB S (a ++ b) (ha.take a.length ++ hb) (a.length + m) (a.length + i) = pullB S b hb m i := by
        intro i
        induction i with
        | zero => rw [Nat.add_zero, base]; rfl
        | succ i ih =>
          rw [show a.length + (i + 1) = (a.length + i) + 1 by omega, pullB, pullB, ih, brings_shift (g2 i) (l2 i)]
      rw [step]
      exact h2.pull m z hz
  · intro st hst
    rw [List.length_append, g2] at hst
    exact h2.last st hst

end Go.Proofs.YtafniangljmjeabDoor
namespace Go.Proofs.YtafniangljmjeabDoor
open Go.RowKit Go.Maps
theorem look_parts {S : List FieldA} {l : List ValA} {ps : List PlA} {k : Nat} {e : Int} (h : lookA S l = (some ps, k, e)) : errS S = 0 ∧ (checkI S l).2 = 0 ∧ (checkT l).2 = 0 := by
  unfold lookA at h
  by_cases h1 : errS S = 0
  · rw [if_neg (show ¬ errS S ≠ 0 from fun q => q h1)] at h
    by_cases h2 : (checkI S l).2 = 0
    · rw [if_neg (show ¬ (checkI S l).2 ≠ 0 from fun q => q h2)] at h
      by_cases h3 : (checkT l).2 = 0
      · exact ⟨h1, h2, h3⟩
      · rw [if_pos h3] at h; cases h
    · rw [if_pos h2] at h; cases h
  · rw [if_pos h1] at h; cases h
theorem scanI_all {S : List FieldA} : ∀ {l : List ValA} {k : Nat}, (∀ i ∈ l, formB i = 0 ∧ rightF S i = true) → scanI S k l = none
  | [], _, _ => rfl
  | x :: r, k, h => by
    obtain ⟨h1, h2⟩ := h x List.mem_cons_self
    rw [scanI, if_neg (show ¬ formB x ≠ 0 from fun q => q h1), if_neg (by rw [h2]; decide)]
    exact scanI_all (fun i hi => h i (List.mem_cons_of_mem _ hi))
theorem scanT_all {N : Nat} : ∀ {l : List ValA} {k : Nat}, (∀ j i, l[j]? = some i → (opA i.kind).opd = 6 → k + j + 1 + i.n.toNat ≤ N) → scanT N k l = none
  | [], _, _ => rfl
  | x :: r, k, h => by
    rw [scanT, if_neg (fun q => by have := h 0 x rfl q.1; omega)]
    exact scanT_all (fun j i hi h6 => by have := h (j + 1) i (by simpa using hi) h6; omega)
theorem len_bytes : ∀ l : List ValA, l.length ≤ (bytesC l).length
  | [] => Nat.le_refl _
  | x :: r => by
    have e : bytesC (x :: r) = oneB x ++ bytesC r := rfl
    have h1 : 1 ≤ (oneB x).length := by unfold oneB; simp
    have := len_bytes r
    rw [e, List.length_append, List.length_cons]
    omega
theorem firstE_all : ∀ {l : List ValA}, (∀ i ∈ l, formB i = 0) → firstE l = 0
  | [], _ => rfl
  | x :: r, h => by rw [firstE, if_pos (h x List.mem_cons_self)]; exact firstE_all (fun i hi => h i (List.mem_cons_of_mem _ hi))
theorem both_forms {S : List FieldA} {a b : List ValA} (h1 : ∀ i ∈ a, formB i = 0 ∧ rightF S i = true) (h2 : ∀ i ∈ b, formB i = 0 ∧ rightF S i = true) : ∀ i ∈ a ++ b, formB i = 0 ∧ rightF S i = true := fun i hi => (List.mem_append.1 hi).elim (h1 i) (h2 i)
theorem look_big {S : List FieldA} {l : List ValA} (h0 : errS S = 0) (hF : ∀ i ∈ l, formB i = 0 ∧ rightF S i = true) (hb : 96 < (bytesC l).length) : lookA S l = (none, l.length, 110) := by
  have hc : checkI S l = (l.length, 110) := by
    by_cases h : 96 < l.length
    · exact checkI_long h
    · exact checkI_big (by omega) (scanI_all hF) hb
  unfold lookA
  rw [if_neg (show ¬ errS S ≠ 0 from fun q => q h0), hc, if_pos (show (110 : Int) ≠ 0 by decide)]
theorem look_ok {S : List FieldA} {l : List ValA} {H : List (Bool × List Int)} (h0 : errS S = 0) (hF : ∀ i ∈ l, formB i = 0 ∧ rightF S i = true) (hb : (bytesC l).length ≤ 96) (hT : ∀ k i, l[k]? = some i → (opA i.kind).opd = 6 → k + 1 + i.n.toNat ≤ l.length) (hH : HvOK S l H) : ∃ ps, lookA S l = (some ps, 0, 0) ∧ ps.map pairP = H := by
  have hc := checkI_ok (S := S) (Nat.le_trans (len_bytes l) hb) (scanI_all hF) hb
  have ht : checkT l = (0, 0) := by
    unfold checkT
    rw [scanT_all (fun j i hi h6 => by have := hT j i hi h6; omega)]
    rfl
  have hpa := pullA_unique hH l 0 rfl (Nat.zero_le _)
  rw [List.take_zero] at hpa
  unfold lookA
  rw [if_neg (show ¬ errS S ≠ 0 from fun q => q h0), hc, if_neg (by decide), ht, if_neg (by decide)]
  obtain ⟨ha, hb'⟩ := run_pull S l (fun i hi => (opd_kind _ (op_cases (formB_zero (hF i hi).1).1)).2.2.1) l 0 [] (startA l) rfl (Nat.zero_le _) rfl (by unfold startA; rw [bringAt_length, List.length_replicate]) (fun t ht => startA_get S l t ht) (fun j hj => absurd hj (Nat.not_lt_zero _))
  rw [hpa] at ha hb'
  rcases runA_len (S := S) (rest := l) (k := 0) (ps := startA l) with ⟨k', h⟩ | ⟨ps, h, hps⟩
  · rw [h] at hb'; cases hb'
  · rw [h] at hb'
    exact ⟨ps, h, Option.some.inj hb'⟩
theorem deepH_from : ∀ (l : List (Bool × List Int)) (d : Nat), l.foldl (fun d z => max d z.2.length) d = max d (deepH l)
  | [], d => by simp [deepH]
  | x :: r, d => by
    unfold deepH
    rw [List.foldl_cons, List.foldl_cons, deepH_from r, deepH_from r]
    omega
theorem deepH_append (x y : List (Bool × List Int)) : deepH (x ++ y) = max (deepH x) (deepH y) := by
  unfold deepH
  rw [List.foldl_append, deepH_from y]
  rfl
/-- What is told of two codes one behind the other. -/
theorem both_tells {S : List FieldA} {a b : List ValA} {pa pb : List PlA} (ha : lookA S a = (some pa, 0, 0)) (hb : lookA S b = (some pb, 0, 0)) (hy : (bytesC (a ++ b)).length ≤ 96) :
    ∃ ps, lookA S (a ++ b) = (some ps, 0, 0) ∧ deepA ps = max (deepA pa) (deepA pb) ∧ (txtsO (some ps)).take a.length = (txtsO (some pa)).take a.length ∧ (txtsO (some ps)).drop a.length = txtsO (some pb) ∧ ps.length = a.length + b.length + 1 := by
  rcases look_tells S a with ⟨_, _, q, _⟩ | ⟨pa', q, _, oka, lna, _, _, hFa, hTa⟩
  · rw [ha] at q; cases q
  rw [ha] at q
  cases q
  rcases look_tells S b with ⟨_, _, q, _⟩ | ⟨pb', q, _, okb, lnb, _, _, hFb, hTb⟩
  · rw [hb] at q; cases q
  rw [hb] at q
  cases q
  have hok := both_ok oka okb hFa hTa
  have hT : ∀ k i, (a ++ b)[k]? = some i → (opA i.kind).opd = 6 → k + 1 + i.n.toNat ≤ (a ++ b).length := by
    intro k i hi h6
    rw [List.length_append]
    by_cases hk : k < a.length
    · rw [List.getElem?_append_left hk] at hi; have := hTa k i hi h6; omega
    · rw [List.getElem?_append_right (by omega)] at hi; have := hTb _ i hi h6; omega
  obtain ⟨ps, hps, hmap⟩ := look_ok (look_parts ha).1 (both_forms hFa hFb) hy hT hok
  have htx : ∀ q : List PlA, txtsO (some q) = (q.map pairP).map (fun z => txtP z.1 z.2) := fun q => by unfold txtsO; rw [List.map_map]; rfl
  have hal : ((pa.map pairP).take a.length).length = a.length := by rw [List.length_take, oka.len]; omega
  refine ⟨ps, hps, ?_, ?_, ?_, ?_⟩
  · rw [← deepH_map, hmap, deepH_append, ← deepH_map pa, ← deepH_map pb]
    have hend := reach_end oka hFa hTa
    have e : pa.map pairP = (pa.map pairP).take a.length ++ [(true, [])] := by
      rw [← take_snoc _ _ _ hend]
      exact (List.take_of_length_le (by rw [oka.len]; omega)).symm
    conv => rhs; rw [e]
    rw [deepH_append]
    simp [deepH]
  · rw [htx, htx, hmap, List.map_append, List.take_append_of_le_length (by rw [List.length_map, hal]; omega), List.map_take, List.take_take, Nat.min_self]
  · rw [htx, htx, hmap, List.map_append, List.drop_append_of_le_length (by rw [List.length_map, hal]; omega), List.drop_of_length_le (by rw [List.length_map, hal]; omega), List.nil_append]
  · have := congrArg List.length hmap
    rw [List.length_map, List.length_append, hal, okb.len] at this
    omega

end Go.Proofs.YtafniangljmjeabDoor
namespace Go.Proofs.YtafniangljmjeabDoor
open Go.RowKit Go.Maps
theorem strs_to {w : World} {g N c K : Nat} {l : List Txt} (h : StrsAt w (.slice (some ⟨g, 0, none⟩) N c) l) (hN : l.length = N) (hK : K ≤ N) : StrsAt w (.slice (some ⟨g, 0, none⟩) K c) (l.take K) := by
  unfold StrsAt at *
  subst hN
  have hl : (l.take K).length = K := by rw [List.length_take]; omega
  rw [hl]
  have e : l.map str = (l.take K).map str ++ (l.drop K).map str := by rw [← List.map_append, List.take_append_drop]
  rw [e] at h
  exact RowAt.first h hK
theorem strs_from {w : World} {g N c K : Nat} {l : List Txt} (h : StrsAt w (.slice (some ⟨g, 0, none⟩) N c) l) (hN : l.length = N) (hK : K ≤ N) : StrsAt w (.slice (if c = K then some ⟨g, 0, none⟩ else some ⟨g, 0 + K, none⟩) (N - K) (c - K)) (l.drop K) := by
  unfold StrsAt at *
  subst hN
  have h3 := rest_row h hK (by rw [List.length_map])
  rw [List.length_drop, List.map_drop]
  exact h3
set_option maxRecDepth 100000 in
theorem run_to (g N c K : Nat) (h1 : K ≤ N) (h2 : N ≤ c) (W : World) : (Instr.sliceAt 27 (.slice (some ⟨g, 0, none⟩) N c) none (some (.int .i64 (K : Int))) none).run Tryd.prog W = .ok (.slice (some ⟨g, 0, none⟩) K c) W := by
  have j1 : (K : Int) ≤ (c : Int) := by omega
  have j0 : (0 : Int) ≤ (K : Int) := by omega
  simp [go_sem, j1, j0]
set_option maxRecDepth 100000 in
theorem run_from (g N c K : Nat) (h1 : K ≤ N) (W : World) : (Instr.sliceAt 27 (.slice (some ⟨g, 0, none⟩) N c) (some (.int .i64 (K : Int))) none none).run Tryd.prog W = .ok (.slice (if c = K then some ⟨g, 0, none⟩ else some ⟨g, 0 + K, none⟩) (N - K) (c - K)) W := by
  have j1 : (K : Int) ≤ (N : Int) := by omega
  have j0 : (0 : Int) ≤ (K : Int) := by omega
  simp [go_sem, j1, j0]
set_option maxRecDepth 100000 in
set_option maxHeartbeats 8000000 in
theorem grows_walk (S : List FieldA) (so : Option Addr) (sc : Nat) (hSl : S.length ≤ 4398046511104) (a b : List ValA) (hla : a.length ≤ 4398046511104) (hlb : b.length ≤ 4398046511104) (hIa : InR a) (hIb : InR b) (v u : Value) (w : World) (hE : Env w) (hS : FldsAt w (.slice so S.length sc) S) (h : ValsAt w v a) (hB : ValsAt w u b) :
    Calls Tryd.prog 4 #[.agg #[.slice so S.length sc], v, u] w fun e w' => e = .returned (.bool true) ∧ Keeps (fun _ => False) w w' := by
  obtain ⟨ao, ac, rfl⟩ := RowAt.form h
  obtain ⟨bo, bc, rfl⟩ := RowAt.form hB
  obtain ⟨HB, hbb, hbc⟩ := boxed w #[.slice so S.length sc] 24
  have s0 := hbc 0 (.slice so S.length sc) rfl
  have HS := hide (hS.keepF (unhide HB))
  have HVa := hide (h.keepF (unhide HB))
  have HVb := hide (hB.keepF (unhide HB))
  have HE := hide (hE.keepF (unhide HB))
  generalize hWb : w.alloc (.cells #[.slice so S.length sc] 24) = Wb at *
  have HKWb := hide (Keeps.refl (fun _ => False) Wb)
  have HIb : InR (a ++ b) := fun i hi => (List.mem_append.1 hi).elim (hIa i) (hIb i)
  obtain ⟨d1, t1, e1, hra⟩ : ∃ x y z, refA S a = (x, y, z) := ⟨_, _, _, rfl⟩
  obtain ⟨d2, t2, e2, hrb⟩ : ∃ x y z, refA S b = (x, y, z) := ⟨_, _, _, rfl⟩
  have HRa := hide hra
  have HRb := hide hrb
  clear h hE hS hbc hB hra hrb
  go_enter Tryd.func4, Tryd.ntmps4
  have HQ := hide (refVerify_v S so sc a (.slice ao a.length ac) Wb ((unhide HS).keepF (unhide HKWb)) ((unhide HVa).keepF (unhide HKWb)) hIa)
  rw [unhide HRa] at HQ
  simp only at HQ
  go_wp2_with fail
  refine (unhide HQ).mono ?_
  rintro e w1 ⟨rfl, hkw1⟩
  have HKw1 := hide ((unhide HKWb).trans hkw1)
  have sw1 := ((unhide HKw1).cell (o := 0) hbb id).trans s0
  clear hkw1 HQ
  clear hWb
  have HQ := hide (refVerify_v S so sc b (.slice bo b.length bc) w1 ((unhide HS).keepF (unhide HKw1)) ((unhide HVb).keepF (unhide HKw1)) hIb)
  rw [unhide HRb] at HQ
  simp only at HQ
  go_wp2_with fail
  refine (unhide HQ).mono ?_
  rintro e w2 ⟨rfl, hkw2⟩
  have HKw2 := hide ((unhide HKw1).trans hkw2)
  have sw2 := ((unhide HKw2).cell (o := 0) hbb id).trans s0
  clear hkw2 HQ
  have HQ := hide (twin_v w2 (.slice so S.length sc) S ((unhide HS).keepF (unhide HKw2)) hSl)
  go_wp2_with fail
  refine (unhide HQ).mono ?_
  rintro e w3 ⟨vw3, rfl, how3, hkw3⟩
  obtain ⟨tow3, tcw3, rfl⟩ := (rowAt_own how3).form
  have HKw3 := hide ((unhide HKw2).trans hkw3)
  have HTw3 := hide how3
  have sw3 := ((unhide HKw3).cell (o := 0) hbb id).trans s0
  clear hkw3 how3 HQ
  have HQ := hide (copied_v w3 (.slice ao a.length ac) a ((unhide HVa).keepF (unhide HKw3)) hla)
  go_wp2_with fail
  refine (unhide HQ).mono ?_
  rintro e w4 ⟨vw4, rfl, how4, hkw4⟩
  have HKw4 := hide ((unhide HKw3).trans hkw4)
  have HCw4 := hide how4
  have HTw4 := hide (ownsRow_kept (unhide HTw3) hkw4 (fun _ _ => id))
  have sw4 := ((unhide HKw4).cell (o := 0) hbb id).trans s0
  clear hkw4 how4 HQ
  have HQ := hide (verify_v S tow3 tcw3 a vw4 w4 ((unhide HE).keepF (unhide HKw4)).ops ((unhide HE).keepF (unhide HKw4)).types (rowAt_own (unhide HTw4)) (rowAt_own (unhide HCw4)) hIa)
  rw [verify_ref, unhide HRa] at HQ
  simp only at HQ
  go_wp2_with fail
  refine (unhide HQ).mono ?_
  rintro e w5 ⟨rfl, hkw5⟩
  have HKw5 := hide ((unhide HKw4).trans hkw5)
  have sw5 := ((unhide HKw5).cell (o := 0) hbb id).trans s0
  clear hkw5 HQ
  have HQ := hide (twin_v w5 (.slice so S.length sc) S ((unhide HS).keepF (unhide HKw5)) hSl)
  go_wp2_with fail
  refine (unhide HQ).mono ?_
  rintro e w6 ⟨vw6, rfl, how6, hkw6⟩
  obtain ⟨tow6, tcw6, rfl⟩ := (rowAt_own how6).form
  have HKw6 := hide ((unhide HKw5).trans hkw6)
  have HTw6 := hide how6
  have sw6 := ((unhide HKw6).cell (o := 0) hbb id).trans s0
  clear hkw6 how6 HQ
  have HQ := hide (copied_v w6 (.slice bo b.length bc) b ((unhide HVb).keepF (unhide HKw6)) hlb)
  go_wp2_with fail
  refine (unhide HQ).mono ?_
  rintro e w7 ⟨vw7, rfl, how7, hkw7⟩
  have HKw7 := hide ((unhide HKw6).trans hkw7)
  have HCw7 := hide how7
  have HTw7 := hide (ownsRow_kept (unhide HTw6) hkw7 (fun _ _ => id))
  have sw7 := ((unhide HKw7).cell (o := 0) hbb id).trans s0
  clear hkw7 how7 HQ
  have HQ := hide (verify_v S tow6 tcw6 b vw7 w7 ((unhide HE).keepF (unhide HKw7)).ops ((unhide HE).keepF (unhide HKw7)).types (rowAt_own (unhide HTw7)) (rowAt_own (unhide HCw7)) hIb)
  rw [verify_ref, unhide HRb] at HQ
  simp only at HQ
  go_wp2_with fail
  refine (unhide HQ).mono ?_
  rintro e w8 ⟨rfl, hkw8⟩
  have HKw8 := hide ((unhide HKw7).trans hkw8)
  have sw8 := ((unhide HKw8).cell (o := 0) hbb id).trans s0
  clear hkw8 HQ
  clear sw1 sw2 sw3 sw4 sw5 sw6 sw7 HKw1 HKw2 HKw3 HKw4 HKw5 HKw6 HKw7 HTw3 HTw4 HTw6 HTw7 HCw4 HCw7
  rcases look_tells S a with ⟨ka, ea, hka, hea⟩ | ⟨pa, hka, _, _, hpa, hla96, _, hFa, hTa⟩
  · have hq := (unhide HRa).symm.trans (refA_none hka)
    simp only [Prod.mk.injEq] at hq
    obtain ⟨rfl, rfl, rfl⟩ := hq
    have be : (e1 != 0) = true := by rw [bne_iff_ne]; exact hea
    clear hea hka HRa HRb
    go_wp2_with fail
    go_ret
    exact ⟨rfl, (unhide HB).trans (unhide HKw8)⟩
  · have hq := (unhide HRa).symm.trans (refA_some hka)
    simp only [Prod.mk.injEq] at hq
    obtain ⟨rfl, rfl, rfl⟩ := hq
    rcases look_tells S b with ⟨kb, eb, hkb, heb⟩ | ⟨pb, hkb, _, _, hpb, hlb96, _, hFb, hTb⟩
    · have hq := (unhide HRb).symm.trans (refA_none hkb)
      simp only [Prod.mk.injEq] at hq
      obtain ⟨rfl, rfl, rfl⟩ := hq
      have be : (e2 != 0) = true := by rw [bne_iff_ne]; exact heb
      clear heb hka hkb HRa HRb
      go_wp2_with fail
      go_ret
      exact ⟨rfl, (unhide HB).trans (unhide HKw8)⟩
    · have hq := (unhide HRb).symm.trans (refA_some hkb)
      simp only [Prod.mk.injEq] at hq
      obtain ⟨rfl, rfl, rfl⟩ := hq
      have HPA := hide hpa
      have HPB := hide hpb
      have HKA := hide hka
      have HKB := hide hkb
      have h0 := (look_parts hka).1
      have HFF := hide (both_forms hFa hFb)
      have hLl : (a ++ b).length ≤ 4398046511104 := by rw [List.length_append]; omega
      have HQ := hide (joined_v w8 _ _ a b ((unhide HVa).keepF (unhide HKw8)) ((unhide HVb).keepF (unhide HKw8)) hla96 hlb96)
      clear hpa hpb hka hkb HRa HRb hFa hFb hTa hTb
      rw [show ((0 : Nat) : Int) = 0 from rfl]
      go_wp2_with fail
      refine (unhide HQ).mono ?_
      rintro e w9 ⟨v9, rfl, ho9, hk9⟩
      have HKw9 := hide ((unhide HKw8).trans hk9)
      have sw9 := ((unhide HKw9).cell (o := 0) hbb id).trans s0
      have HJ9 := hide ho9
      obtain ⟨jo, jc, rfl⟩ := (rowAt_own ho9).form
      clear hk9 ho9 HQ
      have HLL : Hid ((a ++ b).length = a.length + b.length) := List.length_append
      have HBT := hide (fun hy => both_tells (unhide HKA) (unhide HKB) hy)
      have HBG := hide (fun hy => look_big h0 (unhide HFF) hy)
      have HVR := hide (verify_ref S (a ++ b))
      have HNN := hide (fun k e q => refA_none (S := S) (l := a ++ b) (k := k) (e := e) q)
      have HSM := hide (fun ps q => refA_some (S := S) (l := a ++ b) (ps := ps) q)
      have HVV := hide (fun (W : World) (to : Option Addr) (tc : Nat) (hW : Keeps (fun _ => False) Wb W) (q1 : FldsAt W (.slice to S.length tc) S) (q2 : ValsAt W (.slice jo (a ++ b).length jc) (a ++ b)) => verify_v S to tc (a ++ b) _ W ((unhide HE).keepF hW).ops ((unhide HE).keepF hW).types q1 q2 HIb)
      have HBY := hide (fun (W : World) (q2 : ValsAt W (.slice jo (a ++ b).length jc) (a ++ b)) => bytes_v (a ++ b) _ W q2 hLl (firstE_all (fun i hi => ((unhide HFF) i hi).1)) HIb)
      have HTY := hide (fun (W : World) (to : Option Addr) (tc : Nat) (hW : Keeps (fun _ => False) Wb W) (q1 : FldsAt W (.slice to S.length tc) S) (q2 : ValsAt W (.slice jo (a ++ b).length jc) (a ++ b)) => types_v S to tc (a ++ b) _ W ((unhide HE).keepF hW).ops ((unhide HE).keepF hW).types q1 q2 HIb)
      have HVJ : Hid (∀ W, Keeps (fun _ => False) w9 W → ValsAt W (.slice jo (a ++ b).length jc) (a ++ b)) := fun W hW => rowAt_own (ownsRow_kept (unhide HJ9) hW (fun _ _ => id))
      generalize a ++ b = L at *
      have HQ := hide (twin_v w9 (.slice so S.length sc) S ((unhide HS).keepF (unhide HKw9)) hSl)
      go_wp2_with fail
      refine (unhide HQ).mono ?_
      rintro e w10 ⟨vw10, rfl, how10, hkw10⟩
      obtain ⟨tow10, tcw10, rfl⟩ := (rowAt_own how10).form
      have HKw10 := hide ((unhide HKw9).trans hkw10)
      have HTw10 := hide how10
      have sw10 := ((unhide HKw10).cell (o := 0) hbb id).trans s0
      have HJ10 := hide ((unhide HVJ) w10 hkw10)
      have HJK := hide hkw10
      clear hkw10 how10 HQ
      have HQ := hide ((unhide HVV) w10 tow10 tcw10 (unhide HKw10) (rowAt_own (unhide HTw10)) (unhide HJ10))
      rw [unhide HVR] at HQ
      by_cases hy : (bytesC L).length ≤ 96
      · obtain ⟨ps, hps, hdp, htk, hdr, hpl⟩ := (unhide HBT) hy
        rw [(unhide HSM) ps hps] at HQ
        simp only at HQ
        have HPS := hide hps
        have HTK := hide htk
        have HDR := hide hdr
        have HPL := hide hpl
        generalize deepA pa = D1 at *
        generalize deepA pb = D2 at *
        generalize deepA ps = D at *
        have n1 : ¬ (D : Int) < (D1 : Int) := by omega
        have n2 : ¬ (D : Int) < (D2 : Int) := by omega
        obtain ⟨c1, c2, b1, b2, hcc⟩ : ∃ c1 c2 : Bool, ((D : Int) != (D1 : Int)) = c1 ∧ ((D : Int) != (D2 : Int)) = c2 ∧ (c1 && c2) = false := by
          refine ⟨_, _, rfl, rfl, ?_⟩
          by_cases hq : D1 ≤ D2
          · rw [Bool.and_eq_false_iff]; right; simp; omega
          · rw [Bool.and_eq_false_iff]; left; simp; omega
        clear hps hdp htk hdr hpl
        go_wp2_with fail
        refine (unhide HQ).mono ?_
        rintro e w11 ⟨rfl, hk11⟩
        have HKw11 := hide ((unhide HKw10).trans hk11)
        have HJK1 := hide ((unhide HJK).trans hk11)
        have sw11 := ((unhide HKw11).cell (o := 0) hbb id).trans s0
        have HQ := hide ((unhide HBY) w11 ((unhide HVJ) w11 (unhide HJK1)))
        clear hk11
        rw [show ((0 : Nat) : Int) = 0 from rfl]
        go_wp2_with fail
        refine (unhide HQ).mono ?_
        rintro e w12 ⟨v12, rfl, ho12, hk12⟩
        obtain ⟨yo, yc, rfl⟩ := (rowAt_own ho12).form
        have HKw12 := hide ((unhide HKw11).trans hk12)
        have HJK2 := hide ((unhide HJK1).trans hk12)
        have sw12 := ((unhide HKw12).cell (o := 0) hbb id).trans s0
        have iy : ¬ (96 : Int) < ((bytesC L).length : Int) := by omega
        generalize (bytesC L).length = BL at *
        have p1 : pa.length = a.length + 1 := unhide HPA
        have p2 : pb.length = b.length + 1 := unhide HPB
        have p3 : ps.length = a.length + b.length + 1 := unhide HPL
        have k1 : 0 < pa.length := by omega
        have k2 : 0 < pb.length := by omega
        have k3 : 0 < ps.length := by omega
        have l1 : ((pa.length : Int) != (a.length : Int) + 1) = false := by simp; omega
        have l2 : ((pb.length : Int) != (b.length : Int) + 1) = false := by simp; omega
        have l3 : ((ps.length : Int) != (L.length : Int) + 1) = false := by rw [unhide HLL]; simp; omega
        have l4 : a.length ≤ pa.length := by omega
        have l5 : a.length ≤ ps.length := by omega
        have L4 := hide l4
        have L5 := hide l5
        clear p1 p2 p3 hk12 ho12 HQ hy l4 l5
        cases c1
        case' true => (obtain rfl : c2 = false := by simpa using hcc)
        all_goals
          have HQ := hide (twin_v w12 (.slice so S.length sc) S ((unhide HS).keepF (unhide HKw12)) hSl)
          go_wp2_with fail
          refine (unhide HQ).mono ?_
          rintro e w13 ⟨vw13, rfl, how13, hkw13⟩
          obtain ⟨tow13, tcw13, rfl⟩ := (rowAt_own how13).form
          have HKw13 := hide ((unhide HKw12).trans hkw13)
          have HJKc := hide ((unhide HJK2).trans hkw13)
          have HTw13 := hide how13
          have sw13 := ((unhide HKw13).cell (o := 0) hbb id).trans s0
          clear hkw13 how13 HQ
          have HQ := hide (copied_v w13 (.slice ao a.length ac) a ((unhide HVa).keepF (unhide HKw13)) hla)
          go_wp2_with fail
          refine (unhide HQ).mono ?_
          rintro e w14 ⟨vw14, rfl, how14, hkw14⟩
          have HKw14 := hide ((unhide HKw13).trans hkw14)
          have HJKc := hide ((unhide HJKc).trans hkw14)
          have HCw14 := hide how14
          have HTw14 := hide (ownsRow_kept (unhide HTw13) hkw14 (fun _ _ => id))
          have sw14 := ((unhide HKw14).cell (o := 0) hbb id).trans s0
          clear hkw14 how14 HQ
          have HQ := hide (types_v S tow13 tcw13 a vw14 w14 ((unhide HE).keepF (unhide HKw14)).ops ((unhide HE).keepF (unhide HKw14)).types (rowAt_own (unhide HTw14)) (rowAt_own (unhide HCw14)) hIa)
          rw [unhide HKA] at HQ
          simp only at HQ
          go_wp2_with fail
          refine (unhide HQ).mono ?_
          rintro e w15 ⟨vtw15, rfl, htxw15, hkw15⟩
          have HKw15 := hide ((unhide HKw14).trans hkw15)
          have HJKc := hide ((unhide HJKc).trans hkw15)
          have sw15 := ((unhide HKw15).cell (o := 0) hbb id).trans s0
          have htow15 : w15.ownsRow 0 9 1 vtw15 pa.length (txts pa) := htxw15
          obtain ⟨gw15, gcw15, rfl, _, _⟩ := World.ownsRow.form htow15 (by omega)
          have HXw15 := hide htow15
          clear HQ htxw15 htow15 hkw15
          have HQ := hide (twin_v w15 (.slice so S.length sc) S ((unhide HS).keepF (unhide HKw15)) hSl)
          go_wp2_with fail
          refine (unhide HQ).mono ?_
          rintro e w16 ⟨vw16, rfl, how16, hkw16⟩
          obtain ⟨tow16, tcw16, rfl⟩ := (rowAt_own how16).form
          have HKw16 := hide ((unhide HKw15).trans hkw16)
          have HJKc := hide ((unhide HJKc).trans hkw16)
          have HTw16 := hide how16
          have sw16 := ((unhide HKw16).cell (o := 0) hbb id).trans s0
          have HX15 := hide (ownsRow_kept (unhide HXw15) hkw16 (fun _ _ => id))
          clear hkw16 how16 HQ
          have HQ := hide (copied_v w16 (.slice bo b.length bc) b ((unhide HVb).keepF (unhide HKw16)) hlb)
          go_wp2_with fail
          refine (unhide HQ).mono ?_
          rintro e w17 ⟨vw17, rfl, how17, hkw17⟩
          have HKw17 := hide ((unhide HKw16).trans hkw17)
          have HJKc := hide ((unhide HJKc).trans hkw17)
          have HCw17 := hide how17
          have HTw17 := hide (ownsRow_kept (unhide HTw16) hkw17 (fun _ _ => id))
          have sw17 := ((unhide HKw17).cell (o := 0) hbb id).trans s0
          have HX15 := hide (ownsRow_kept (unhide HX15) hkw17 (fun _ _ => id))
          clear hkw17 how17 HQ
          have HQ := hide (types_v S tow16 tcw16 b vw17 w17 ((unhide HE).keepF (unhide HKw17)).ops ((unhide HE).keepF (unhide HKw17)).types (rowAt_own (unhide HTw17)) (rowAt_own (unhide HCw17)) hIb)
          rw [unhide HKB] at HQ
          simp only at HQ
          go_wp2_with fail
          refine (unhide HQ).mono ?_
          rintro e w18 ⟨vtw18, rfl, htxw18, hkw18⟩
          have HKw18 := hide ((unhide HKw17).trans hkw18)
          have HJKc := hide ((unhide HJKc).trans hkw18)
          have sw18 := ((unhide HKw18).cell (o := 0) hbb id).trans s0
          have htow18 : w18.ownsRow 0 9 1 vtw18 pb.length (txts pb) := htxw18
          obtain ⟨gw18, gcw18, rfl, _, _⟩ := World.ownsRow.form htow18 (by omega)
          have HXw18 := hide htow18
          have HX15 := hide (ownsRow_kept (unhide HX15) hkw18 (fun _ _ => id))
          clear HQ htxw18 htow18 hkw18
          have HQ := hide (twin_v w18 (.slice so S.length sc) S ((unhide HS).keepF (unhide HKw18)) hSl)
          go_wp2_with fail
          refine (unhide HQ).mono ?_
          rintro e w19 ⟨vw19, rfl, how19, hkw19⟩
          obtain ⟨tow19, tcw19, rfl⟩ := (rowAt_own how19).form
          have HKw19 := hide ((unhide HKw18).trans hkw19)
          have HJKc := hide ((unhide HJKc).trans hkw19)
          have HTw19 := hide how19
          have sw19 := ((unhide HKw19).cell (o := 0) hbb id).trans s0
          have HX15 := hide (ownsRow_kept (unhide HX15) hkw19 (fun _ _ => id))
          have HX18 := hide (ownsRow_kept (unhide HXw18) hkw19 (fun _ _ => id))
          clear hkw19 how19 HQ
          have HQ := hide ((unhide HTY) w19 tow19 tcw19 (unhide HKw19) (rowAt_own (unhide HTw19)) ((unhide HVJ) w19 (unhide HJKc)))
          rw [unhide HPS] at HQ
          simp only at HQ
          go_wp2_with fail
          refine (unhide HQ).mono ?_
          rintro e w20 ⟨vt20, rfl, htx, hk20⟩
          have hto : w20.ownsRow 0 9 1 vt20 ps.length (txts ps) := htx
          obtain ⟨g, gc, rfl, _, _⟩ := World.ownsRow.form hto (by omega)
          have HK20 := hide ((unhide HKw19).trans hk20)
          have hA := strs_own (ownsRow_kept (unhide HX15) hk20 (fun _ _ => id))
          have hB := strs_own (ownsRow_kept (unhide HX18) hk20 (fun _ _ => id))
          have hC := strs_own hto
          have m1 := hA.room _ _ _ rfl
          have m3 := hC.room _ _ _ rfl
          have r1 := run_to gw15 pa.length gcw15 a.length (unhide L4) m1
          have r2 := run_to g ps.length gc a.length (unhide L5) m3
          have r3 := run_from g ps.length gc a.length (unhide L5)
          have hd20 := (Keeps.refl (fun _ => False) w20).drew
          have HQ1 := hide (eqStrings_v w20.drew _ _ _ _ ((strs_to hC (by simp) (unhide L5)).keepF hd20) ((strs_to hA (by simp) (unhide L4)).keepF hd20) (by unfold maxLen; rw [List.length_take, List.length_map]; have := unhide HPL; omega))
          have HQ2 := hide (fun (W : World) (hW : Keeps (fun _ => False) w20 W) => eqStrings_v W _ _ _ _ ((strs_from hC (by simp) (unhide L5)).keepF hW) (hB.keepF hW) (by unfold maxLen; rw [List.length_drop, List.length_map]; have := unhide HPL; omega))
          rw [decide_eq_true (show (ps.map fun p => txtP p.r p.st).take a.length = (pa.map fun p => txtP p.r p.st).take a.length from unhide HTK)] at HQ1
          rw [decide_eq_true (show (ps.map fun p => txtP p.r p.st).drop a.length = (pb.map fun p => txtP p.r p.st) from unhide HDR)] at HQ2
          generalize (if gc = a.length then some (⟨g, 0, none⟩ : Addr) else some ⟨g, 0 + a.length, none⟩) = GA at *
          generalize ps.length - a.length = NB at *
          generalize gc - a.length = GB at *
          clear hA hB hC hto htx hk20 HQ HVV HBY HTY HVJ HBT HBG HVR HNN HSM HE HS HVa HVb HFF
          go_wp2_with fail
          go_region_held3 (fun _ => True)
            (go_keep)
            (first
              | (go_at_call 10
                 refine (unhide HQ3).mono ?_
                 rintro e w22 ⟨rfl, hk22⟩)
              | (go_at_call 10
                 refine (unhide HQ1).mono ?_
                 rintro e w21 ⟨rfl, hk21⟩
                 have HQ3 := hide ((unhide HQ2) w21 (hd20.trans hk21))))
          go_wp2_with fail
          go_ret
          exact ⟨rfl, ((unhide HB).trans (unhide HK20)).trans ((hd20.trans hk21).trans hk22)⟩
      · have hbig := (unhide HBG) (by omega)
        rw [(unhide HNN) _ _ hbig] at HQ
        simp only at HQ
        go_wp2_with fail
        refine (unhide HQ).mono ?_
        rintro e w11 ⟨rfl, hk11⟩
        have HKw11 := hide ((unhide HKw10).trans hk11)
        have HJK1 := hide ((unhide HJK).trans hk11)
        have HQ := hide ((unhide HBY) w11 ((unhide HVJ) w11 (unhide HJK1)))
        clear hk11 hbig
        rw [show ((0 : Nat) : Int) = 0 from rfl]
        go_wp2_with fail
        refine (unhide HQ).mono ?_
        rintro e w12 ⟨v12, rfl, ho12, hk12⟩
        obtain ⟨yo, yc, rfl⟩ := (rowAt_own ho12).form
        have HKw12 := hide ((unhide HKw11).trans hk12)
        have iy : (96 : Int) < ((bytesC L).length : Int) := by omega
        clear hk12 ho12 HQ hy
        go_wp2_with fail
        go_ret
        exact ⟨rfl, (unhide HB).trans (unhide HKw12)⟩

end Go.Proofs.YtafniangljmjeabDoor
namespace Go.Proofs.YtafniangljmjeabDoor
open Go.RowKit Go.Maps
theorem grows_any (S : List FieldA) (hSl : S.length ≤ 4398046511104) (a : List ValA) (hla : a.length ≤ 4398046511104) (hIa : InR a) (b : List ValA) (hlb : b.length ≤ 4398046511104) (hIb : InR b) (sv v u : Value) (w : World) (hE : Env w) (hS : FldsAt w sv S) (h : ValsAt w v a) (hB : ValsAt w u b) :
    Calls Tryd.prog 4 #[.agg #[sv], v, u] w fun e w' => e = .returned (.bool true) ∧ Keeps (fun _ => False) w w' := by
  obtain ⟨so, sc, rfl⟩ := RowAt.form hS
  exact grows_walk S so sc hSl a b hla hlb hIa hIb v u w hE hS h hB

end Go.Proofs.YtafniangljmjeabDoor
