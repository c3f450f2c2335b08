import Derived.Test.YtjmbcelkhiopeaaV
namespace Go.Proofs.Ytjmbcelkhiopeaa
open Go.RowKit Go.Maps

def cntW (acts : List Pt) (n : Nat) : Nat → Nat
  | 0 => 0
  | k + 1 => match acts[k]? with
    | some p => if p.flush = false ∧ 0 ≤ p.sec ∧ p.sec < (n : Int) then cntW acts n k + 1 else cntW acts n k
    | none => cntW acts n k

def cntF (acts : List Pt) : Nat → Nat
  | 0 => 0
  | k + 1 => match acts[k]? with
    | some p => if p.flush = true then cntF acts k + 1 else cntF acts k
    | none => cntF acts k

theorem cntW_le (acts : List Pt) (n : Nat) : ∀ k, cntW acts n k ≤ k
  | 0 => Nat.le_refl _
  | k + 1 => by
    have := cntW_le acts n k
    unfold cntW
    split
    · split <;> omega
    · omega

theorem cntF_le (acts : List Pt) : ∀ k, cntF acts k ≤ k
  | 0 => Nat.le_refl _
  | k + 1 => by
    have := cntF_le acts k
    unfold cntF
    split
    · split <;> omega
    · omega

theorem runA_counts (n s : Nat) (A0 : AS) (acts : List Pt) (hl : A0.left = -1) (hd : A0.dead = false) (hw : A0.wr = 0) (hf : A0.f = 0) : ∀ k, k ≤ acts.length → (runA n s A0 (acts.take k)).wr = cntW acts n k ∧ (runA n s A0 (acts.take k)).f = cntF acts k
  | 0, _ => ⟨hw, hf⟩
  | k + 1, hk => by
    obtain ⟨p, hp⟩ : ∃ p, acts[k]? = some p := ⟨_, List.getElem?_eq_getElem (by omega)⟩
    obtain ⟨i1, i2⟩ := runA_counts n s A0 acts hl hd hw hf k (by omega)
    obtain ⟨u1, _⟩ := runA_unarmed n s (acts.take k) A0 hl hd
    rw [runA_succ _ _ _ _ _ _ hp]
    generalize runA n s A0 (acts.take k) = A at *
    simp only [cntW, cntF, hp]
    cases hfl : p.flush with
    | true => simp [stepA, hfl, i1, i2]
    | false =>
      by_cases hin : 0 ≤ p.sec ∧ p.sec < (n : Int)
      · simp [stepA, hfl, hin, i1, i2, u1]
      · have est : stepA n s A p = A := by simp [stepA, hfl]; omega
        rw [est]
        simp [i1, i2, hin]

set_option maxRecDepth 100000 in
set_option maxHeartbeats 2000000 in
theorem counts_any (w : World) (v : Value) (acts : List Pt) (n : Nat) (h : Acts w v acts) (hl : acts.length ≤ 2147483647) :
    Calls Try.prog 20 #[v, .int .i64 n] w fun e w' => e = .returned (.tuple #[.int .i64 (cntW acts n acts.length), .int .i64 (cntF acts acts.length)]) ∧ w' = w := by
  obtain ⟨ao, cap, rfl⟩ := h.form
  have HA := hide h
  clear h
  go_enter Try.func20, Try.ntmps20
  go_wp2
  go_loop [6, 7, 8] (fun f x i => ∃ k : Nat, k ≤ acts.length ∧ i = .int .i64 k ∧ f = .int .i64 (cntF acts k) ∧ x = .int .i64 (cntW acts n k)) (fun _ _ i => acts.length - (intOf i).toNat)
  case atStart => exact ⟨0, Nat.zero_le _, rfl, rfl, rfl⟩
  case round =>
    obtain ⟨k, hk, rfl, rfl, rfl⟩ := hrel
    have b1 := cntW_le acts n k
    have b2 := cntF_le acts k
    by_cases hlt : k < acts.length
    · obtain ⟨b, off, cap', e1, hblt, hc⟩ := (unhide HA).cells (by omega)
      simp at e1
      obtain ⟨rfl, rfl⟩ := e1
      obtain ⟨p, hp⟩ : ∃ p, acts[k]? = some p := ⟨_, List.getElem?_eq_getElem hlt⟩
      obtain ⟨c0, c1, c2⟩ := hc k p hp
      have HW := hide (show cntW acts n (k + 1) = if p.flush = false ∧ 0 ≤ p.sec ∧ p.sec < (n : Int) then cntW acts n k + 1 else cntW acts n k by simp [cntW, hp])
      have HF := hide (show cntF acts (k + 1) = if p.flush = true then cntF acts k + 1 else cntF acts k by simp [cntF, hp])
      obtain ⟨fl, sc, bb⟩ := p
      simp only at *
      generalize cntW acts n k = x0 at *
      generalize cntF acts k = f0 at *
      have i1 : (k : Int) < (acts.length : Int) := by omega
      have i0 : (0 : Int) ≤ (k : Int) := by omega
      clear hc hp c2
      cases fl with
      | true =>
        go_wp2
        go_round
        case rel => exact ⟨k + 1, by omega, by go_num, by rw [unhide HF]; go_num, by rw [unhide HW]; rfl⟩
        case measure => simp [intOf]; omega
      | false =>
        by_cases h0 : 0 ≤ sc
        · by_cases h1 : sc < (n : Int)
          · go_wp2
            go_round
            case rel => exact ⟨k + 1, by omega, by go_num, by rw [unhide HF]; rfl, by rw [unhide HW, if_pos ⟨rfl, h0, h1⟩]; go_num⟩
            case measure => simp [intOf]; omega
          · go_wp2
            go_round
            case rel => exact ⟨k + 1, by omega, by go_num, by rw [unhide HF]; rfl, by rw [unhide HW, if_neg (by omega)]⟩
            case measure => simp [intOf]; omega
        · have h0' : sc < 0 := by omega
          go_wp2
          go_round
          case rel => exact ⟨k + 1, by omega, by go_num, by rw [unhide HF]; rfl, by rw [unhide HW, if_neg (by omega)]⟩
          case measure => simp [intOf]; omega
    · obtain rfl : k = acts.length := by omega
      go_wp2
      go_ret2
      exact ⟨rfl, rfl⟩

theorem DiskAt.own_lt {w : World} {B : Nat} {S : DS} (h : DiskAt w B S) : ∀ k, S.own k → k < w.heap.size := by
  intro k hk
  rcases hk with rfl | rfl | rfl | hk
  · exact lt_of_block h.blk
  · exact lt_of_block h.dblk
  · obtain ⟨es, clock, hb, _⟩ := h.map; exact lt_of_block hb
  · exact (h.row.lt k hk).2

/-- The write of DiskCounts: of the right length or not. -/
theorem counts_write {w w4 : World} {B : Nat} {S : DS} (h : DiskAt w4 B S) (hb : Below w.heap.size w w4) {n s : Nat} (hs1 : S.secs = n) (hn : 1 ≤ n) (hs2 : S.size = s) (hdead : S.dead = false) (hleft : S.left = -1) (hmn : S.mn ≤ 2147483647) (hws : S.ws.length ≤ 2147483647) (hwr1 : 0 ≤ S.wr) (hwr2 : S.wr ≤ 2147483647)
    {bo : Option Addr} {bc : Nat} {l : List Int} (hR : Reads w (.slice bo l.length bc) l) (hbo : 0 < l.length → ∃ b off, bo = some ⟨b, off, none⟩ ∧ b < w.heap.size) (hs3 : 32 ≤ s) {code : Int} {d : Nat} (hcase : (l.length = s ∧ code = 0 ∧ d = 1) ∨ (l.length ≠ s ∧ code = 12 ∧ d = 0)) :
    Calls Try.prog 12 #[.pointer (some ⟨S.D, 0, none⟩), .int .i64 (0 : Nat), .slice bo l.length bc] w4 fun e w' => e = .returned (.int .i64 code) ∧ ∃ S2 : DS, DiskAt w' B S2 ∧ S2.D = S.D ∧ S2.size = s ∧ S2.wr = S.wr + d ∧ S2.f = S.f ∧ S2.r = S.r ∧ S2.ws.length = S.ws.length + d ∧ (d = 0 → S2.ws = S.ws) ∧ Keeps S.own w4 w' := by
  rcases hcase with ⟨h1, rfl, rfl⟩ | ⟨h1, rfl, rfl⟩
  · obtain ⟨b, off, cap, e, hc⟩ := hR.cells (by omega)
    obtain ⟨b', off', eb, hlt⟩ := hbo (by omega)
    subst eb
    simp at e
    obtain ⟨⟨rfl, rfl⟩, rfl⟩ := e
    have hw := write_ok w4 B S h 0 b' off' bc l (by rw [hs1]; omega) (by rw [h1, hs2]) (fun j x hx => (hb.cell (p := ⟨b', _, none⟩) hlt).trans (hc j x hx)) hdead (by rw [hleft]; omega) (by rw [hleft]; omega) hmn hws hwr1 hwr2
    rw [h1, ← hs2]
    refine hw.mono ?_
    rintro e w' ⟨rfl, wv', hd, hk, _⟩
    rw [hleft]
    refine ⟨rfl, _, hd, rfl, rfl, ?_, rfl, rfl, ?_, fun h => by omega, hk⟩
    · show (if S.left = 0 then S.wr else S.wr + 1) = _; rw [hleft]; simp
    · show (S.ws ++ [_]).length = _; simp
  · have hb' := h.blk
    refine (write_size S.D S.secs S.size 0 l.length bc bo w4 (by rw [cell_of_blk hb']; rfl) (by rw [cell_of_blk hb']; rfl) (by rw [cell_of_blk hb', ← hdead]; rfl) (by rw [hs1]; omega) (by rw [hs2]; exact h1)).mono ?_
    rintro e w' ⟨rfl, rfl⟩
    exact ⟨rfl, S, h, rfl, hs2, by simp, rfl, rfl, by simp, fun _ => rfl, Keeps.refl _ _⟩


set_option maxRecDepth 100000 in
set_option maxHeartbeats 4000000 in
theorem diskCounts_any (w : World) (n s : Nat) (v : Value) (acts : List Pt) (bo : Option Addr) (bc : Nat) (l : List Int) (hA : Acts w v acts) (hR : Reads w (.slice bo l.length bc) l) (hbo : 0 < l.length → ∃ b off, bo = some ⟨b, off, none⟩ ∧ b < w.heap.size) (hlen : acts.length ≤ 2147483647) (h1 : 1 ≤ n) (h2 : n ≤ 16384) (h3 : 32 ≤ s) (h4 : s ≤ 1024) :
    Calls Try.prog 4 #[.int .i64 n, .int .i64 s, v, .slice bo l.length bc] w fun e w' => e = .returned (.bool true) ∧ Below w.heap.size w w' := by
  obtain ⟨ao, cap, rfl⟩ := hA.form
  have HA := hide hA
  have HR := hide hR
  have HBO := hide hbo
  have hN : decide ((2147483647 : Int) < (acts.length : Int)) = false := by simp; omega
  clear hA hR hbo
  go_enter Try.func4, Try.ntmps4
  go_wp2_with fail
  refine (made_yes n s w h1 h2 h3 h4).mono ?_
  rintro e w1 ⟨rfl, hd1, hk1⟩
  have HP := hide (played_free w w1 n s _ acts (unhide HA) hlen hd1 (hk1.below (Nat.le_refl _) (fun _ f => f.elim)) h4 h3)
  clear hd1 hk1
  go_wp2_with fail
  refine (long_any _ _).mono ?_
  rintro e w2 ⟨rfl, rfl⟩
  go_wp2_with fail
  refine (unhide HP).mono ?_
  rintro e w3 ⟨rfl, S, hI, hdead, hleft⟩
  obtain ⟨m, hm⟩ : ∃ m, S.ws.length = m := ⟨_, rfl⟩
  have hmb : m ≤ 2147483647 := by have := hI.ws; omega
  have hcnt := runA_counts n s (newDS w.heap.size n s).view acts rfl rfl rfl rfl acts.length (Nat.le_refl _)
  rw [← hI.view] at hcnt
  have hsince := (kept_run (n := n) (s := s) (A0 := (newDS w.heap.size n s).view) (by have := new_fine w.heap.size n s (-1); rw [armed_new] at this; exact this) acts [] 0 (by omega) (by have := new_holds w.heap.size n s (-1) 0 (by omega); rw [armed_new] at this; exact this) rfl acts.length (Nat.le_refl _) (acts.length - firmN acts acts.length) (by have := firmN_le acts acts.length; omega)).1
  rw [show firmN acts acts.length + (acts.length - firmN acts acts.length) = acts.length by have := firmN_le acts acts.length; omega, ← hI.view] at hsince
  have hsince' : (keptS acts n [] (0 : Nat) (firmN acts acts.length) (acts.length - firmN acts acts.length)).2 = m := by
    rw [← hsince, ← hm]; simp [DS.view]
  have hpend : Calls Try.prog 18 #[.pointer (some ⟨w.heap.size + 2, 0, none⟩)] w3 fun e w' => ∃ ws : List Wr, e = .returned (.slice (some ⟨w3.heap.size, 0, none⟩) m m) ∧ PendInv w3 S S.ws.length ws w' := by
    have h := pending_any w3 _ S hI.disk (by omega)
    rw [hI.D] at h
    refine h.mono ?_
    rintro e w' ⟨ws, rfl, hp⟩
    exact ⟨ws, by rw [hm], hp⟩
  have HPE := hide hpend
  have HM := hide hm
  have HI := hide hI
  have HD := hide hdead
  have HLE := hide hleft
  have HC := hide hcnt
  have HS := hide hsince'
  clear hpend hm hI hdead hleft hcnt hsince hsince' HP
  go_wp2_with fail
  refine (unhide HPE).mono ?_
  rintro e w4 ⟨wsp, rfl, hP4⟩
  have hd4 := (unhide HI).disk.keepF hP4.keeps
  have hb4 : Below w.heap.size w w4 := (unhide HI).below.trans (hP4.keeps.below (unhide HI).below.size (fun _ f => f.elim))
  have hW4 := writes_of_pend hP4
  rw [unhide HM] at hW4
  have hcase : ∃ (code : Int) (d : Nat), ((l.length = s ∧ code = 0 ∧ d = 1) ∨ (l.length ≠ s ∧ code = 12 ∧ d = 0)) := by
    by_cases e : l.length = s
    · exact ⟨0, 1, Or.inl ⟨e, rfl, rfl⟩⟩
    · exact ⟨12, 0, Or.inr ⟨e, rfl, rfl⟩⟩
  obtain ⟨code, d, hcase⟩ := hcase
  have hwr := counts_write (w := w) hd4 hb4 (unhide HI).secs h1 (unhide HI).size (unhide HD) (unhide HLE) (by have := (unhide HI).mn; omega) (by have := (unhide HI).ws; omega) (unhide HI).wr0 (by have := (unhide HI).wr1; omega) (unhide HR) (unhide HBO) h3 hcase
  rw [(unhide HI).D] at hwr
  have HWR := hide hwr
  have H4 := hide hd4
  have HB4 := hide hb4
  have HW4 := hide hW4
  have HP4 := hide hP4
  have HCASE := hide hcase
  clear hwr hd4 hb4 hW4 hP4 HPE hcase
  go_wp2_with fail
  refine (unhide HWR).mono ?_
  rintro e w5 ⟨rfl, S2, hd5, hD5, hz5, hwr5, hf5, hr5, hws5, hsame5, hk5⟩
  have hb5 : Below w.heap.size w w5 := (unhide HB4).trans (hk5.below (unhide HB4).size (unhide H4).own_lo)
  obtain ⟨m2, hm2⟩ : ∃ m2, m2 = m + d := ⟨_, rfl⟩
  have hdb : d ≤ 1 := by have := unhide HCASE; omega
  have hpend : Calls Try.prog 18 #[.pointer (some ⟨w.heap.size + 2, 0, none⟩)] w5 fun e w' => ∃ ws : List Wr, e = .returned (.slice (some ⟨w5.heap.size, 0, none⟩) m2 m2) ∧ PendInv w5 S2 S2.ws.length ws w' := by
    have h := pending_any w5 _ S2 hd5 (by rw [hws5, unhide HM]; omega)
    rw [hD5] at h
    refine h.mono ?_
    rintro e w' ⟨ws, rfl, hp⟩
    exact ⟨ws, by rw [hws5, unhide HM, hm2], hp⟩
  have hW5 : WritesAt w5 (.slice (some ⟨w3.heap.size, 0, none⟩) m m) S.size wsp := (unhide HW4).kept hk5 (by
      intro b hb hF
      simp [Value.ownBlock] at hb
      subst hb
      exact absurd ((unhide HI).disk.own_lt _ hF) (by omega)) (by
      intro x hx hF
      have h1 := (unhide HI).disk.own_lt _ hF
      have h2 := ((unhide HP4).each x hx).2.2
      omega)
  have HPE := hide hpend
  have H5 := hide hd5
  have HB5 := hide hb5
  have HW5 := hide hW5
  have HD5 := hide hD5
  have HZ5 := hide hz5
  have HWR5 := hide hwr5
  have HF5 := hide hf5
  have HR5 := hide hr5
  have HWS5 := hide hws5
  have HSAME := hide hsame5
  have HM2 := hide hm2
  clear hpend hd5 hD5 hz5 hwr5 hf5 hr5 hws5 hsame5 hk5 hb5 hW5 hm2 HWR H4 HB4 HW4
  go_wp2_with fail
  refine (unhide HPE).mono ?_
  rintro e w6 ⟨wsq, rfl, hP6⟩
  have hW6 := writes_of_pend hP6
  rw [unhide HWS5, unhide HM, ← unhide HM2, unhide HZ5] at hW6
  have hWp := (unhide HW5).keepF hP6.keeps
  rw [(unhide HI).size] at hWp
  have hEW := eqWrites_any w6 _ _ s wsp wsq hWp hW6 (by rw [(unhide HP4).len, unhide HM]; omega) h4
  have hsame : d = 0 → decide (wsp.map Wr.pair = wsq.map Wr.pair) = true := by
    intro hd
    rw [decide_eq_true_iff, (unhide HP4).pair, hP6.pair, unhide HSAME hd]
  generalize decide (wsp.map Wr.pair = wsq.map Wr.pair) = eqB at hEW hsame
  have HEW := hide hEW
  have HSB := hide hsame
  have hb6 : Below w.heap.size w w6 := (unhide HB5).trans (hP6.keeps.below (unhide HB5).size (fun _ f => f.elim))
  have hd6 := (unhide H5).keepF hP6.keeps
  have HB6 := hide hb6
  have H6 := hide hd6
  clear hW6 hWp hEW hsame hb6 hd6 hP6 HPE H5 HB5 HW5 HP4 HSAME
  go_wp2_with fail
  refine (unhide HEW).mono ?_
  rintro e w7 ⟨rfl, q1, rfl⟩
  have hb7 : Below w.heap.size w (w6.drewN q1) := (unhide HB6).trans ((keeps_drewN w6 q1).below (unhide HB6).size (fun _ f => f.elim))
  have hd7 := (unhide H6).keepF (keeps_drewN w6 q1)
  have HB7 := hide hb7
  have H7 := hide hd7
  clear hb7 hd7 HB6 H6 HEW
  generalize w6.drewN q1 = w8 at *
  have hA8 := (unhide HA).kept (unhide HB7)
  have HCT := hide (counts_any w8 _ acts n hA8 hlen)
  have HFI := hide (firm_any w8 _ acts acts.length hA8 (Nat.le_refl _) hlen)
  have hfle := firmN_le acts acts.length
  have bW := cntW_le acts n acts.length
  have bF := cntF_le acts acts.length
  have hst := stats_any w8 _ S2 (unhide H7)
  rw [unhide HD5, unhide HWR5, unhide HF5, unhide HR5, (unhide HI).r] at hst
  have hwrv : S.wr = cntW acts n acts.length := (unhide HC).1
  have hfv : S.f = cntF acts acts.length := (unhide HC).2
  rw [hwrv, hfv] at hst
  have HST := hide hst
  have HSI := unhide HS
  generalize hfn : firmN acts acts.length = f at *
  generalize cntW acts n acts.length = cw at *
  generalize cntF acts acts.length = cf at *
  have HS2 := hide HSI
  have HA8 := hide hA8
  clear hst hwrv hfv HC HI HD HLE HS HA HR HBO HSI hA8 hfn
  go_wp2_with fail
  refine (unhide HCT).mono ?_
  rintro e w9 ⟨rfl, rfl⟩
  have hc := unhide HCASE
  have hm2 := unhide HM2
  have hsb := unhide HSB
  clear HCASE HM2 HSB HCT
  rcases hc with ⟨hl, rfl, rfl⟩ | ⟨hl, rfl, rfl⟩
  case' inl => have hq : ((l.length : Int) == (s : Int)) = true := by rw [hl]; simp
  case' inr => have hq : ((l.length : Int) == (s : Int)) = false := by rw [beq_eq_false_iff_ne]; omega
  case' inr => obtain rfl := hsb rfl
  all_goals
    subst hm2
    clear hl hsb
    go_wp2_with fail
    refine (unhide HFI).mono ?_
    rintro e w10 ⟨rfl, rfl⟩
    clear HFI
    go_wp2_with fail
    go_loop [19, 20] (fun c i => ∃ k : Nat, f ≤ k ∧ k ≤ acts.length ∧ i = .int .i64 k ∧ c = .int .i64 ((keptS acts n [] (0 : Nat) f (k - f)).2 : Nat)) (fun _ i => acts.length - (intOf i).toNat)
    case atStart => exact ⟨f, Nat.le_refl _, hfle, rfl, by rw [Nat.sub_self]; rfl⟩
    case round =>
      obtain ⟨k, hk0, hk, rfl, rfl⟩ := hrel
      have hbd := (keptS_bounds acts n [] (0 : Nat) f (k - f)).2.2
      by_cases hlt : k < acts.length
      · obtain ⟨b, off, cap', e1, hblt, hc⟩ := (unhide HA8).cells (by omega)
        simp at e1
        obtain ⟨rfl, rfl⟩ := e1
        obtain ⟨p, hp⟩ : ∃ p, acts[k]? = some p := ⟨_, List.getElem?_eq_getElem hlt⟩
        obtain ⟨c0, c1, c2⟩ := hc k p hp
        have hstep : (keptS acts n [] (0 : Nat) f (k + 1 - f)).2 = if p.sec < 0 ∨ (n : Int) ≤ p.sec then (keptS acts n [] (0 : Nat) f (k - f)).2 else (keptS acts n [] (0 : Nat) f (k - f)).2 + 1 := by
          rw [show k + 1 - f = (k - f) + 1 by omega]
          simp only [keptS]
          rw [show f + (k - f) = k by omega, hp]
          simp only
          split <;> rfl
        have HSTEP := hide hstep
        generalize (keptS acts n [] (0 : Nat) f (k - f)).2 = K at *
        obtain ⟨fl, sc, bb⟩ := p
        simp only at *
        have i1 : (k : Int) < (acts.length : Int) := by omega
        have i0 : (0 : Int) ≤ (k : Int) := by omega
        clear hc hp c0 c2 hstep
        by_cases h0 : 0 ≤ sc
        · by_cases h1 : sc < (n : Int)
          · go_wp2
            go_round
            case rel => exact ⟨k + 1, by omega, by omega, by go_num, by rw [unhide HSTEP, if_neg (by omega)]; go_num⟩
            case measure => simp [intOf]; omega
          · go_wp2
            go_round
            case rel => exact ⟨k + 1, by omega, by omega, by go_num, by rw [unhide HSTEP, if_pos (by omega)]⟩
            case measure => simp [intOf]; omega
        · have h0' : sc < 0 := by omega
          go_wp2
          go_round
          case rel => exact ⟨k + 1, by omega, by omega, by go_num, by rw [unhide HSTEP, if_pos (by omega)]⟩
          case measure => simp [intOf]; omega
      · obtain rfl : k = acts.length := by omega
        rw [unhide HS2]
        go_wp2_with fail
        refine (unhide HST).mono ?_
        rintro e w11 ⟨rfl, rfl⟩
        go_wp2
        go_ret
        exact ⟨ret_bool (by simp), (unhide HB7).alloc (unhide HB7).size _⟩


set_option maxRecDepth 100000 in
set_option maxHeartbeats 2000000 in
theorem diskCounts_invalid (w : World) (n s : Int) (v bv : Value) (h : ¬ (1 ≤ n ∧ n ≤ 16384 ∧ 32 ≤ s ∧ s ≤ 1024)) :
    Calls Try.prog 4 #[.int .i64 n, .int .i64 s, v, bv] w fun e w' => e = .returned (.bool true) ∧ Below w.heap.size w w' := by
  have HN := hide h
  clear h
  go_enter Try.func4, Try.ntmps4
  go_wp2_with fail
  refine (made_no _ _ _ (unhide HN)).mono ?_
  rintro e w1 ⟨rfl, rfl⟩
  go_wp2
  go_ret
  exact ⟨rfl, Below.refl _ _⟩

set_option maxRecDepth 100000 in
set_option maxHeartbeats 2000000 in
theorem diskCounts_long (w : World) (n s : Nat) (ao : Option Addr) (len cap : Nat) (bv : Value) (hlen : 2147483647 < len) (h1 : 1 ≤ n) (h2 : n ≤ 16384) (h3 : 32 ≤ s) (h4 : s ≤ 1024) :
    Calls Try.prog 4 #[.int .i64 n, .int .i64 s, .slice ao len cap, bv] w fun e w' => e = .returned (.bool true) ∧ Below w.heap.size w w' := by
  have hN : decide ((2147483647 : Int) < (len : Int)) = true := by simp; omega
  go_enter Try.func4, Try.ntmps4
  go_wp2_with fail
  refine (made_yes n s w h1 h2 h3 h4).mono ?_
  rintro e w1 ⟨rfl, hd1, hk1⟩
  have HK := hide hk1
  clear hd1 hk1
  go_wp2_with fail
  refine (long_any _ _).mono ?_
  rintro e w2 ⟨rfl, rfl⟩
  go_wp2
  go_ret
  exact ⟨rfl, (unhide HK).below (Nat.le_refl _) (fun _ f => f.elim)⟩

end Go.Proofs.Ytjmbcelkhiopeaa
