import Derived.Test.YtjmbcelkhiopeaaN
import Derived.Test.YtjmbcelkhiopeaaP
namespace Go.Proofs.Ytjmbcelkhiopeaa
open Go.RowKit Go.Maps

def keptG {α : Type} (ks : List Bool) (ws : List α) : Nat → List α
  | 0 => []
  | k + 1 => match ws[k]? with
    | some x => if ks[k]? = some true then keptG ks ws k ++ [x] else keptG ks ws k
    | none => keptG ks ws k

theorem keptTo_map {α : Type} (f : Wr → α) (ks : List Bool) (ws : List Wr) : ∀ k, (keptTo ks ws k).map f = keptG ks (ws.map f) k
  | 0 => rfl
  | k + 1 => by
    have ih := keptTo_map f ks ws k
    simp only [keptTo, keptG, List.getElem?_map]
    cases ws[k]? with
    | none => exact ih
    | some x =>
      simp only [Option.map_some]
      split <;> simp [ih]

theorem keptG_append {α : Type} (ks : List Bool) (ws : List α) (x : α) : ∀ k, k ≤ ws.length → keptG ks (ws ++ [x]) k = keptG ks ws k
  | 0, _ => rfl
  | k + 1, h => by
    simp only [keptG]
    rw [List.getElem?_append_left (by omega), keptG_append ks ws x k (by omega)]

theorem keptG_snoc {α : Type} (ks : List Bool) (ws : List α) (x : α) : keptG ks (ws ++ [x]) (ws ++ [x]).length = if ks[ws.length]? = some true then keptG ks ws ws.length ++ [x] else keptG ks ws ws.length := by
  rw [List.length_append, List.length_singleton]
  simp only [keptG]
  rw [List.getElem?_append_right (Nat.le_refl _), Nat.sub_self, keptG_append ks ws x _ (Nat.le_refl _)]
  rfl

theorem keptG_sub {α : Type} (ks : List Bool) (ws : List α) : ∀ k x, x ∈ keptG ks ws k → x ∈ ws
  | 0, x, h => by simp [keptG] at h
  | k + 1, x, h => by
    unfold keptG at h
    split at h
    · rename_i y hy
      split at h
      · rcases List.mem_append.1 h with h | h
        · exact keptG_sub ks ws k x h
        · simp at h; subst h; exact List.mem_of_getElem? hy
      · exact keptG_sub ks ws k x h
    · exact keptG_sub ks ws k x h

/-- The abstract disk is well made. -/
def Fine (n s : Nat) (A : AS) : Prop := A.dur.length = n * s ∧ ∀ x ∈ A.ws, x.2.length = s ∧ x.1 < n

theorem settleV_snoc (s : Nat) (dur : List Int) (ws : List (Nat × List Int)) (x : Nat × List Int) : settleV s dur (ws ++ [x]) = put (settleV s dur ws) (x.1 * s) x.2 := by simp [settleV]

theorem settleV_length (s n : Nat) (dur : List Int) (hd : dur.length = n * s) (ws : List (Nat × List Int)) (h : ∀ x ∈ ws, x.2.length = s ∧ x.1 < n) : (settleV s dur ws).length = n * s := by
  induction ws generalizing dur with
  | nil => simpa [settleV] using hd
  | cons x xs ih =>
    simp only [settleV, List.foldl_cons]
    refine ih _ ?_ (fun y hy => h y (by simp [hy]))
    have := h x (by simp)
    rw [put_length _ _ _ (by rw [this.1, hd]; exact sec_fits this.2), hd]

theorem Fine.step {n s : Nat} {A : AS} (h : Fine n s A) (p : Pt) : Fine n s (stepA n s A p) := by
  unfold stepA
  split
  · exact ⟨settleV_length s n _ h.1 _ h.2, fun x hx => by cases hx⟩
  · split
    · rename_i hs
      refine ⟨h.1, fun x hx => ?_⟩
      rcases List.mem_append.1 hx with hx | hx
      · exact h.2 x hx
      · simp at hx; subst hx
        exact ⟨textL_length _ _, by show p.sec.toNat < n; omega⟩
    · exact h

theorem Fine.run {n s : Nat} {A : AS} (h : Fine n s A) (acts : List Pt) : Fine n s (runA n s A acts) := by
  induction acts generalizing A with
  | nil => exact h
  | cons p ps ih => exact ih (h.step p)

/-- What a sector of the abstract disk holds. -/
def AS.holdsV (A : AS) (s a : Nat) : List Int := secOf s (settleV s A.dur A.ws) a

theorem holdsV_step {n s : Nat} {A : AS} (h : Fine n s A) (p : Pt) (a : Nat) (ha : a < n) : (stepA n s A p).holdsV s a = if p.flush = false ∧ p.sec = a then textL p.b s else A.holdsV s a := by
  unfold stepA
  cases hf : p.flush with
  | true => simp [AS.holdsV, settleV]
  | false =>
    simp only [Bool.false_eq_true, if_false, true_and]
    by_cases hin : 0 ≤ p.sec ∧ p.sec < (n : Int)
    · rw [if_pos hin]
      simp only [AS.holdsV]
      rw [settleV_snoc]
      have hlen := settleV_length s n _ h.1 _ h.2
      have hfit : p.sec.toNat * s + s ≤ (settleV s A.dur A.ws).length := by rw [hlen]; exact sec_fits (by omega)
      by_cases e : p.sec = a
      · rw [if_pos e]
        have e2 : p.sec.toNat = a := by omega
        rw [e2] at hfit ⊢
        exact secOf_put_same _ _ _ _ (textL_length _ _) hfit
      · rw [if_neg e]
        exact secOf_put_other _ _ _ _ _ (textL_length _ _) hfit (by omega)
    · rw [if_neg hin, if_neg (by omega)]

theorem holdsV_run {n s : Nat} {A0 : AS} (h : Fine n s A0) (acts : List Pt) (a : Nat) (ha : a < n) (h0 : A0.holdsV s a = List.replicate s 0) : ∀ k, k ≤ acts.length → (runA n s A0 (acts.take k)).holdsV s a = wantL acts s (lastI acts a k)
  | 0, _ => by simpa [runA, lastI, wantL] using h0
  | k + 1, hk => by
    obtain ⟨p, hp⟩ : ∃ p, acts[k]? = some p := ⟨_, List.getElem?_eq_getElem (by omega)⟩
    rw [runA_succ _ _ _ _ _ _ hp, holdsV_step (h.run _) p a ha, lastI_succ _ _ _ _ hp]
    by_cases e : p.flush = false ∧ p.sec = a
    · rw [if_pos e, if_pos e]
      simp only [wantL]
      rw [if_neg (by omega), Int.toNat_natCast, hp]
    · rw [if_neg e, if_neg e]
      exact holdsV_run h acts a ha h0 k (by omega)

/-- How many of the first n acts are ahead of the last flush among them, or are it. -/
def firmN (acts : List Pt) : Nat → Nat
  | 0 => 0
  | n + 1 => match acts[n]? with
    | some p => if p.flush = true then n + 1 else firmN acts n
    | none => firmN acts n

theorem firmN_le (acts : List Pt) : ∀ n, firmN acts n ≤ n
  | 0 => Nat.le_refl _
  | n + 1 => by
    have := firmN_le acts n
    unfold firmN
    split
    · split <;> omega
    · omega

theorem firmN_noflush (acts : List Pt) : ∀ n i p, firmN acts n ≤ i → i < n → acts[i]? = some p → p.flush = false
  | 0, i, p, _, h, _ => by omega
  | n + 1, i, p, h1, h2, hp => by
    unfold firmN at h1
    by_cases e : i = n
    · subst e
      rw [hp] at h1
      simp only at h1
      by_cases hf : p.flush = true
      · rw [if_pos hf] at h1; omega
      · simpa using hf
    · refine firmN_noflush acts n i p ?_ (by omega) hp
      split at h1
      · split at h1
        · omega
        · exact h1
      · exact h1

theorem firm_empty {n s : Nat} {A0 : AS} (acts : List Pt) (h0 : A0.ws = []) : ∀ k, k ≤ acts.length → (runA n s A0 (acts.take (firmN acts k))).ws = []
  | 0, _ => by simpa [firmN, runA] using h0
  | k + 1, hk => by
    obtain ⟨p, hp⟩ : ∃ p, acts[k]? = some p := ⟨_, List.getElem?_eq_getElem (by omega)⟩
    simp only [firmN, hp]
    by_cases hf : p.flush = true
    · rw [if_pos hf, runA_succ _ _ _ _ _ _ hp]
      simp [stepA, hf]
    · rw [if_neg hf]
      exact firm_empty acts h0 k (by omega)

/-- Of the acts behind f: the place of the last write of sector a that ks names, and how many writes there were. -/
def keptS (acts : List Pt) (n : Nat) (ks : List Bool) (a : Int) (f : Nat) : Nat → Int × Nat
  | 0 => (lastI acts a f, 0)
  | m + 1 => match acts[f + m]? with
    | some p => if p.sec < 0 ∨ (n : Int) ≤ p.sec then keptS acts n ks a f m
      else (if p.sec = a ∧ ks[(keptS acts n ks a f m).2]? = some true then ((f + m : Nat) : Int) else (keptS acts n ks a f m).1, (keptS acts n ks a f m).2 + 1)
    | none => keptS acts n ks a f m

theorem keptS_bounds (acts : List Pt) (n : Nat) (ks : List Bool) (a : Int) (f : Nat) : ∀ m, -1 ≤ (keptS acts n ks a f m).1 ∧ (keptS acts n ks a f m).1 < (f + m : Nat) ∧ (keptS acts n ks a f m).2 ≤ m
  | 0 => by have := lastI_lt acts a f; simp [keptS]; omega
  | m + 1 => by
    have ih := keptS_bounds acts n ks a f m
    unfold keptS
    split
    · split
      · omega
      · simp only
        split <;> omega
    · omega

theorem keptS_get (acts : List Pt) (n : Nat) (ks : List Bool) (a : Int) (f : Nat) : ∀ m, 0 ≤ (keptS acts n ks a f m).1 → ∃ p, acts[(keptS acts n ks a f m).1.toNat]? = some p
  | 0 => by simpa [keptS] using lastI_get acts a f
  | m + 1 => by
    have ih := keptS_get acts n ks a f m
    unfold keptS
    split
    · rename_i p hp
      split
      · exact ih
      · simp only
        split
        · intro _; exact ⟨p, by rw [Int.toNat_natCast]; exact hp⟩
        · exact ih
    · exact ih

/-- THE STAGE's THEOREM, of the abstract disk. -/
theorem kept_run {n s : Nat} {A0 : AS} (h : Fine n s A0) (acts : List Pt) (ks : List Bool) (a : Nat) (ha : a < n) (h0 : A0.holdsV s a = List.replicate s 0) (hw0 : A0.ws = []) (N : Nat) (hN : N ≤ acts.length) :
    ∀ m, firmN acts N + m ≤ N →
      (runA n s A0 (acts.take (firmN acts N + m))).ws.length = (keptS acts n ks a (firmN acts N) m).2 ∧
      secOf s (settleV s (runA n s A0 (acts.take (firmN acts N + m))).dur (keptG ks (runA n s A0 (acts.take (firmN acts N + m))).ws (runA n s A0 (acts.take (firmN acts N + m))).ws.length)) a = wantL acts s (keptS acts n ks a (firmN acts N) m).1
  | 0, _ => by
    have e := firm_empty (n := n) (s := s) acts hw0 N hN
    have hh := holdsV_run h acts a ha h0 (firmN acts N) (Nat.le_trans (firmN_le acts N) hN)
    rw [Nat.add_zero]
    refine ⟨by rw [e]; rfl, ?_⟩
    rw [e]
    simp only [AS.holdsV, e] at hh
    exact hh
  | m + 1, hm => by
    obtain ⟨i1, i2⟩ := kept_run h acts ks a ha h0 hw0 N hN m (by omega)
    obtain ⟨p, hp⟩ : ∃ p, acts[firmN acts N + m]? = some p := ⟨_, List.getElem?_eq_getElem (by omega)⟩
    have hf := firmN_noflush acts N _ p (Nat.le_add_right _ _) (by omega) hp
    have hF := h.run (acts.take (firmN acts N + m))
    rw [← Nat.add_assoc, runA_succ _ _ _ _ _ _ hp]
    generalize runA n s A0 (acts.take (firmN acts N + m)) = A at i1 i2 hF ⊢
    simp only [keptS, hp]
    generalize keptS acts n ks a (firmN acts N) m = K at i1 i2 ⊢
    by_cases hin : 0 ≤ p.sec ∧ p.sec < (n : Int)
    · have est : stepA n s A p = { A with ws := A.ws ++ [(p.sec.toNat, textL p.b s)], left := if A.left ≤ 0 then A.left else A.left - 1, dead := decide (A.left = 0), wr := if A.left = 0 then A.wr else A.wr + 1 } := by
        simp [stepA, hf, hin]
      rw [est, if_neg (show ¬ (p.sec < 0 ∨ (n : Int) ≤ p.sec) by omega)]
      simp only
      refine ⟨by simp [i1], ?_⟩
      rw [keptG_snoc, ← i1]
      have hlen : (settleV s A.dur (keptG ks A.ws A.ws.length)).length = n * s := settleV_length s n _ hF.1 _ (fun x hx => hF.2 x (keptG_sub _ _ _ _ hx))
      have hfit : p.sec.toNat * s + s ≤ (settleV s A.dur (keptG ks A.ws A.ws.length)).length := by rw [hlen]; exact sec_fits (by omega)
      by_cases hk : ks[A.ws.length]? = some true
      · rw [if_pos hk, settleV_snoc]
        by_cases e : p.sec = a
        · rw [if_pos ⟨e, hk⟩]
          have e2 : p.sec.toNat = a := by omega
          simp only
          rw [e2] at hfit ⊢
          rw [secOf_put_same _ _ _ _ (textL_length _ _) hfit]
          simp only [wantL]
          rw [if_neg (by omega), Int.toNat_natCast, hp]
        · rw [if_neg (by simp [e])]
          simp only
          rw [secOf_put_other _ _ _ _ _ (textL_length _ _) hfit (by omega)]
          exact i2
      · rw [if_neg hk, if_neg (by simp [hk])]
        exact i2
    · have est : stepA n s A p = A := by simp [stepA, hf]; omega
      rw [est, if_pos (show p.sec < 0 ∨ (n : Int) ≤ p.sec by omega)]
      exact ⟨i1, i2⟩

set_option maxRecDepth 100000 in
set_option maxHeartbeats 1000000 in
theorem firm_any (w : World) (v : Value) (acts : List Pt) (n : Nat) (h : Acts w v acts) (hn : n ≤ acts.length) (hl : acts.length ≤ 2147483647) :
    Calls Try.prog 21 #[v, .int .i64 n] w fun e w' => e = .returned (.int .i64 (firmN acts n)) ∧ w' = w := by
  obtain ⟨ao, cap, rfl⟩ := h.form
  have HA := hide h
  clear h
  go_enter Try.func21, Try.ntmps21
  go_wp2
  go_loop [5] (fun i => ∃ k : Nat, k ≤ n ∧ i = .int .i64 ((k : Int) - 1) ∧ firmN acts k = firmN acts n) (fun i => (intOf i + 1).toNat)
  case atStart => exact ⟨n, Nat.le_refl _, rfl, rfl⟩
  case round =>
    obtain ⟨k, hk, rfl, hlast⟩ := hrel
    have HL := hide hlast
    clear hlast
    by_cases hlt : 1 ≤ k
    · obtain ⟨m, rfl⟩ : ∃ m, k = m + 1 := ⟨k - 1, by omega⟩
      obtain ⟨b, off, cap', e1, hblt, hc⟩ := (unhide HA).cells (by omega)
      simp at e1
      obtain ⟨rfl, rfl⟩ := e1
      obtain ⟨p, hp⟩ : ∃ p, acts[m]? = some p := ⟨_, List.getElem?_eq_getElem (by omega)⟩
      obtain ⟨c0, c1, c2⟩ := hc m p hp
      have HP := hide hp
      have em : ((m + 1 : Nat) : Int) - 1 = (m : Int) := by omega
      rw [em]
      have i1 : (m : Int) < (acts.length : Int) := by omega
      have i0 : (0 : Int) ≤ (m : Int) := by omega
      clear hc hp c1 c2
      cases hf : p.flush with
      | true =>
        rw [hf] at c0
        have HF := hide (show (firmN acts n : Int) = (m : Int) + 1 by rw [← unhide HL]; simp [firmN, unhide HP, hf])
        clear hf
        go_wp2
        go_ret
        exact ⟨ret_int (unhide HF).symm, rfl⟩
      | false =>
        rw [hf] at c0
        have HF := hide (show firmN acts m = firmN acts n by rw [← unhide HL]; simp [firmN, unhide HP, hf])
        clear hf
        go_wp2
        go_round
        case rel => exact ⟨m, by omega, by go_num, unhide HF⟩
        case measure => simp [intOf]
    · obtain rfl : k = 0 := by omega
      have HF := hide (show (firmN acts n : Int) = 0 by rw [← unhide HL]; rfl)
      go_wp2
      go_ret
      exact ⟨ret_int (unhide HF).symm, rfl⟩

end Go.Proofs.Ytjmbcelkhiopeaa
