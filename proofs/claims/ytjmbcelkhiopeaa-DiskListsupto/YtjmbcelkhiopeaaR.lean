import Derived.Test.YtjmbcelkhiopeaaQ
import Derived.Test.YtjmbcelkhiopeaaO
namespace Go.Proofs.Ytjmbcelkhiopeaa
open Go.RowKit Go.Maps

set_option maxRecDepth 100000 in
set_option maxHeartbeats 2000000 in
theorem kept_any (w : World) (v kv : Value) (acts : List Pt) (ks : List Bool) (n N a : Nat) (h : Acts w v acts) (hB : Bools w kv ks) (hN : N ≤ acts.length) (hl : acts.length ≤ 2147483647) (hkl : ks.length ≤ maxLen) :
    Calls Try.prog 26 #[v, .int .i64 N, kv, .int .i64 n, .int .i64 a] w fun e w' => e = .returned (.int .i64 (keptS acts n ks a (firmN acts N) (N - firmN acts N)).1) ∧ w' = w := by
  have HF := hide (firm_any w v acts N h hN hl)
  have hfle := firmN_le acts N
  have HLA := hide (last_any w v acts (a : Int) (firmN acts N) h (by omega) hl)
  obtain ⟨ao, cap, rfl⟩ := h.form
  obtain ⟨ko, kc, rfl⟩ := hB.form
  unfold maxLen at hkl
  have HA := hide h
  have HB := hide hB
  clear h hB
  generalize hf : firmN acts N = f at *
  clear hf
  go_enter Try.func26, Try.ntmps26
  go_wp2_with fail
  refine (unhide HF).mono ?_
  rintro e w1 ⟨rfl, rfl⟩
  go_wp2_with fail
  refine (unhide HLA).mono ?_
  rintro e w2 ⟨rfl, rfl⟩
  clear HF HLA
  go_wp2_with fail
  go_loop [12, 13, 14] (fun bst j i => ∃ k : Nat, f ≤ k ∧ k ≤ N ∧ i = .int .i64 k ∧ bst = .int .i64 (keptS acts n ks a f (k - f)).1 ∧ j = .int .i64 ((keptS acts n ks a f (k - f)).2 : Nat)) (fun _ _ i => N - (intOf i).toNat)
  case atStart => exact ⟨f, Nat.le_refl _, hfle, rfl, by rw [Nat.sub_self]; rfl, by rw [Nat.sub_self]; rfl⟩
  case round =>
    obtain ⟨k, hk0, hk, rfl, rfl, rfl⟩ := hrel
    have hbd := keptS_bounds acts n ks (a : Int) f (k - f)
    by_cases hlt : k < N
    · obtain ⟨b, off, cap', e1, hblt, hc⟩ := (unhide HA).cells (by omega)
      simp at e1
      obtain ⟨rfl, rfl⟩ := e1
      obtain ⟨p, hp⟩ : ∃ p, acts[k]? = some p := ⟨_, List.getElem?_eq_getElem (by omega)⟩
      obtain ⟨c0, c1, c2⟩ := hc k p hp
      have hstep : keptS acts n ks a f (k + 1 - f) = if p.sec < 0 ∨ (n : Int) ≤ p.sec then keptS acts n ks a f (k - f)
          else (if p.sec = a ∧ ks[(keptS acts n ks a f (k - f)).2]? = some true then (k : Int) else (keptS acts n ks a f (k - f)).1, (keptS acts n ks a f (k - f)).2 + 1) := by
        rw [show k + 1 - f = (k - f) + 1 by omega]
        simp only [keptS]
        rw [show f + (k - f) = k by omega, hp]
      have HS := hide hstep
      generalize keptS acts n ks a f (k - f) = K at *
      obtain ⟨bst, j⟩ := K
      simp only at *
      obtain ⟨fl, sc, bb⟩ := p
      simp only at *
      have i1 : (k : Int) < (acts.length : Int) := by omega
      have i0 : (0 : Int) ≤ (k : Int) := by omega
      clear hc hp c0 c2 hstep
      by_cases hout : sc < 0 ∨ (n : Int) ≤ sc
      · have HN := hide (show keptS acts n ks a f (k + 1 - f) = (bst, j) by rw [unhide HS, if_pos hout])
        have hcs : sc < 0 ∨ (¬ sc < 0 ∧ (n : Int) ≤ sc) := by omega
        clear hout HS
        rcases hcs with hneg | ⟨hneg, hbig⟩
        all_goals
          go_wp2
          go_round
          case rel => exact ⟨k + 1, by omega, by omega, by go_num, by rw [unhide HN], by rw [unhide HN]⟩
          case measure => simp [intOf]; omega
      · have hneg : ¬ sc < 0 := by omega
        have hbig : ¬ ((n : Int) ≤ sc) := by omega
        by_cases hsa : sc = (a : Int)
        · subst hsa
          by_cases hjl : j < ks.length
          · obtain ⟨kb, koff, kcap, e2, hkb, hkc⟩ := (unhide HB).cells (by omega)
            simp at e2
            obtain ⟨rfl, rfl⟩ := e2
            have j1 : (j : Int) < (ks.length : Int) := by omega
            have j0 : (0 : Int) ≤ (j : Int) := by omega
            cases hkv : ks[j] with
            | true =>
              have hq : ks[j]? = some true := by rw [List.getElem?_eq_getElem hjl, hkv]
              have kc0 := hkc j true hq
              have HN := hide (show keptS acts n ks a f (k + 1 - f) = ((k : Int), j + 1) by rw [unhide HS, if_neg hout, if_pos ⟨rfl, hq⟩])
              clear hkc hkv hq HS hout
              go_wp2
              go_round
              case rel => exact ⟨k + 1, by omega, by omega, by go_num, by rw [unhide HN], by rw [unhide HN]; go_num⟩
              case measure => simp [intOf]; omega
            | false =>
              have hq : ks[j]? = some false := by rw [List.getElem?_eq_getElem hjl, hkv]
              have kc0 := hkc j false hq
              have HN := hide (show keptS acts n ks a f (k + 1 - f) = (bst, j + 1) by rw [unhide HS, if_neg hout, if_neg (by rw [hq]; simp)])
              clear hkc hkv hq HS hout
              go_wp2
              go_round
              case rel => exact ⟨k + 1, by omega, by omega, by go_num, by rw [unhide HN], by rw [unhide HN]; go_num⟩
              case measure => simp [intOf]; omega
          · have j1 : ¬ ((j : Int) < (ks.length : Int)) := by omega
            have HN := hide (show keptS acts n ks a f (k + 1 - f) = (bst, j + 1) by rw [unhide HS, if_neg hout, if_neg (by rw [List.getElem?_eq_none (by omega)]; simp)])
            clear HS hout
            go_wp2
            go_round
            case rel => exact ⟨k + 1, by omega, by omega, by go_num, by rw [unhide HN], by rw [unhide HN]; go_num⟩
            case measure => simp [intOf]; omega
        · have hne : (sc == (a : Int)) = false := beq_eq_false_iff_ne.2 hsa
          have HN := hide (show keptS acts n ks a f (k + 1 - f) = (bst, j + 1) by rw [unhide HS, if_neg hout, if_neg (by simp [hsa])])
          clear HS hout hsa
          go_wp2
          go_round
          case rel => exact ⟨k + 1, by omega, by omega, by go_num, by rw [unhide HN], by rw [unhide HN]; go_num⟩
          case measure => simp [intOf]; omega
    · obtain rfl : k = N := by omega
      go_wp2
      go_ret
      exact ⟨rfl, rfl⟩


theorem Bools.kept {w w' : World} {v : Value} {ks : List Bool} (h : Bools w v ks) (hb : Below w.heap.size w w') : Bools w' v ks := by
  refine ⟨h.form, fun h0 => ?_⟩
  obtain ⟨b, off, cap, e, hlt, hc⟩ := h.cells h0
  exact ⟨b, off, cap, e, Nat.lt_of_lt_of_le hlt hb.size, fun j x hx => (hb.cell (p := ⟨b, _, none⟩) hlt).trans (hc j x hx)⟩

theorem new_fine (N n s : Nat) (x : Int) : Fine n s ((newDS N n s).armed x).view := ⟨by simp [DS.view, DS.armed, newDS], fun y hy => by simp [DS.view, DS.armed, newDS] at hy⟩

theorem new_holds (N n s : Nat) (x : Int) (a : Nat) (ha : a < n) : ((newDS N n s).armed x).view.holdsV s a = List.replicate s 0 := by
  have := sec_fits (size := s) ha
  simp [AS.holdsV, DS.view, DS.armed, newDS, settleV, secOf]
  omega

/-- The state in which the acts begin. -/
theorem played_start {w w1 : World} {n s : Nat} (acts : List Pt) {x : Int} (hx : x ≤ 9223372036854775807) (hd : DiskAt w1 w.heap.size ((newDS w.heap.size n s).armed x)) (hb : Below w.heap.size w w1) :
    PInv w (w.heap.size + 2) 0 ((newDS w.heap.size n s).armed x).view acts n s 0 ((newDS w.heap.size n s).armed x) w1 :=
  ⟨hd, rfl, rfl, rfl, rfl, by show -1 ≤ max x (-1); omega, by show max x (-1) ≤ _; omega, Nat.le_refl _, Nat.le_refl _, Int.le_refl _, Int.le_refl _, Int.le_refl _, Int.le_refl _, rfl, fun j hj => by omega, hb⟩

/-- What a survivor's sector holds. -/
theorem surv_holds {w wq : World} {D : Nat} {r : Int} {A0 : AS} {acts : List Pt} {n s m : Nat} {S : DS} (I : PInv w D r A0 acts n s m S wq) (hF : Fine n s A0) (hw0 : A0.ws = []) (hm : m ≤ acts.length) (ks : List Bool) (a : Nat) (ha : a < n) (h0 : A0.holdsV s a = List.replicate s 0) (D2 db2 mb2 : Nat) :
    (freshDS D2 db2 mb2 S.secs S.size (settleAll S.size S.dur (keptTo ks S.ws S.ws.length))).holdsAt a = wantL acts s (keptS acts n ks a (firmN acts m) (m - firmN acts m)).1 := by
  have hk := (kept_run hF acts ks a ha h0 hw0 m hm (m - firmN acts m) (by have := firmN_le acts m; omega)).2
  rw [show firmN acts m + (m - firmN acts m) = m by have := firmN_le acts m; omega, ← I.view] at hk
  rw [← hk, holdsAt_eq]
  show secOf S.size (settleAll S.size S.dur (keptTo ks S.ws S.ws.length)) a = _
  rw [settleAll_view, keptTo_map, I.size]
  simp [DS.view]

set_option maxRecDepth 100000 in
set_option maxHeartbeats 2000000 in
theorem diskCrash_any (w : World) (n s : Nat) (v kv : Value) (acts : List Pt) (ks : List Bool) (arm a : Int) (hA : Acts w v acts) (hB : Bools w kv ks) (hlen : acts.length ≤ 2147483647) (hkl : ks.length ≤ maxLen) (harm : arm ≤ 9223372036854775807) (h1 : 1 ≤ n) (h2 : n ≤ 16384) (h3 : 32 ≤ s) (h4 : s ≤ 1024) :
    Calls Try.prog 5 #[.int .i64 n, .int .i64 s, v, .int .i64 arm, kv, .int .i64 a] w fun e w' => e = .returned (.bool true) ∧ Below w.heap.size w w' := by
  obtain ⟨ao, cap, rfl⟩ := hA.form
  have HA := hide hA
  have HB := hide hB
  have HKL := hide hkl
  have hN : decide ((2147483647 : Int) < (acts.length : Int)) = false := by simp; omega
  clear hA hB hkl
  go_enter Try.func5, Try.ntmps5
  go_wp2_with fail
  refine (made_yes n s w h1 h2 h3 h4).mono ?_
  rintro e w1 ⟨rfl, hd1, hk1⟩
  have HARM := hide (arm_ok w1 _ _ hd1 rfl arm)
  have HK1 := hide hk1
  clear hd1 hk1
  go_wp2_with fail
  refine (long_any _ _).mono ?_
  rintro e w2 ⟨rfl, rfl⟩
  go_wp2_with fail
  refine (unhide HARM).mono ?_
  rintro e w3 ⟨rfl, hd3, hk3⟩
  have hb3 : Below w.heap.size w w3 := ((unhide HK1).below (Nat.le_refl _) (fun _ f => f.elim)).trans (hk3.below (unhide HK1).size (fun k e => by subst e; simp [newDS]))
  have HP := hide (played_any w w3 (w.heap.size + 2) n s 0 _ (.slice ao acts.length cap) acts arm _ (unhide HA) hlen (played_start acts harm hd3 hb3) rfl rfl h4 h3)
  clear hd3 hk3 hb3 HARM HK1
  go_wp2_with fail
  refine (unhide HP).mono ?_
  rintro e w4 ⟨m, S, hm, rfl, hI, _⟩
  have hBk := (unhide HB).kept hI.below
  have hsv := survive_any w4 _ S hI.disk kv ks hBk (by have := hI.ws; omega) (unhide HKL)
  rw [hI.D] at hsv
  have HSV := hide hsv
  have HI := hide hI
  clear hI hBk hsv HP
  go_wp2_with fail
  refine (unhide HSV).mono ?_
  rintro e w5 ⟨rfl, hk5, hd5⟩
  have hb5 : Below w.heap.size w w5 := (unhide HI).below.trans (hk5.below (unhide HI).below.size (fun _ f => f.elim))
  have c6 : w5.cell? ⟨w4.heap.size + 2, 6, none⟩ = some (.bool false) := cell_of_blk hd5.blk 6
  have HD5 := hide hd5
  have HB5 := hide hb5
  have hws4 : w.heap.size ≤ w4.heap.size := (unhide HI).below.size
  clear hk5 hd5 hb5 HSV
  go_wp2_with fail
  refine (dead_any _ _ _ c6).mono ?_
  rintro e w6 ⟨rfl, rfl⟩
  by_cases hin : 0 ≤ a ∧ a < (n : Int)
  · obtain ⟨ha0, ha1⟩ := hin
    obtain ⟨c, rfl⟩ := Int.eq_ofNat_of_zero_le ha0
    have hneg0 : ¬ ((c : Int) < 0) := by omega
    have hA5 := (unhide HA).kept (unhide HB5)
    have HKEPT := hide (kept_any w6 _ kv acts ks n m c hA5 ((unhide HB).kept (unhide HB5)) hm hlen (unhide HKL))
    have hbd := keptS_bounds acts n ks (c : Int) (firmN acts m) (m - firmN acts m)
    have hget := keptS_get acts n ks (c : Int) (firmN acts m) (m - firmN acts m)
    have hho := surv_holds (unhide HI) (new_fine _ _ _ _) rfl hm ks c (by omega) (new_holds _ _ _ _ _ (by omega)) (w4.heap.size + 2) w4.heap.size (w4.heap.size + 1)
    have hS2 : (freshDS (w4.heap.size + 2) w4.heap.size (w4.heap.size + 1) S.secs S.size (settleAll S.size S.dur (keptTo ks S.ws S.ws.length))).size = s := (unhide HI).size
    have hS1 : c < (freshDS (w4.heap.size + 2) w4.heap.size (w4.heap.size + 1) S.secs S.size (settleAll S.size S.dur (keptTo ks S.ws S.ws.length))).secs := by show c < S.secs; rw [(unhide HI).secs]; omega
    generalize (keptS acts n ks (c : Int) (firmN acts m) (m - firmN acts m)).1 = K at *
    by_cases hneg : K < 0
    · obtain rfl : K = -1 := by omega
      have hh := holds_zero w6 _ _ (unhide HD5) c hS1 rfl (Int.le_refl _) (by show (0 : Int) ≤ _; omega) (.slice ao acts.length cap)
      rw [hho, hS2] at hh
      have hh' : Calls Try.prog 15 #[.pointer (some ⟨w4.heap.size + 2, 0, none⟩), .int .i64 c, .slice ao acts.length cap, .int .i64 (-1), .int .i64 s] w6 fun e w' => e = .returned (.bool true) ∧ Keeps (fun k => k = w4.heap.size + 2) w6 w' := by
        refine hh.mono ?_
        rintro e w' ⟨rfl, _, hk⟩
        exact ⟨ret_bool (by simp [wantL]), hk⟩
      have HH := hide hh'
      clear hh hh' hneg hho hget hbd hA5 hS1 hS2
      go_wp2_with fail
      refine (unhide HKEPT).mono ?_
      rintro e w7 ⟨rfl, rfl⟩
      go_wp2_with fail
      refine (unhide HH).mono ?_
      rintro e w8 ⟨rfl, hk8⟩
      go_wp2
      go_ret
      exact ⟨rfl, (unhide HB5).trans (hk8.below (unhide HB5).size (fun k e => by omega))⟩
    · obtain ⟨p, hp⟩ := hget (by omega)
      obtain ⟨i, rfl⟩ := Int.eq_ofNat_of_zero_le (Int.not_lt.1 hneg)
      simp only [Int.toNat_natCast] at hp
      have hh := holds_text w6 _ _ (unhide HD5) c hS1 rfl (Int.le_refl _) (by show (0 : Int) ≤ _; omega) (.slice ao acts.length cap) acts hA5 i p hp (by
        intro b off n' cap' e
        have hl' : 0 < acts.length := by have := (List.getElem?_eq_some_iff.1 hp).1; omega
        obtain ⟨b2, off2, cap2, e2, hlt2, _⟩ := (unhide HA).cells hl'
        rw [e] at e2
        simp at e2
        obtain ⟨⟨rfl, _⟩, _⟩ := e2
        show b ≠ w4.heap.size + 2
        omega)
      rw [hho, hS2] at hh
      have hh' : Calls Try.prog 15 #[.pointer (some ⟨w4.heap.size + 2, 0, none⟩), .int .i64 c, .slice ao acts.length cap, .int .i64 i, .int .i64 s] w6 fun e w' => e = .returned (.bool true) ∧ Keeps (fun k => k = w4.heap.size + 2) w6 w' := by
        refine hh.mono ?_
        rintro e w' ⟨rfl, _, hk⟩
        refine ⟨ret_bool ?_, hk⟩
        rw [decide_eq_true_iff]
        simp only [wantL]
        rw [if_neg hneg, Int.toNat_natCast, hp]
      have HH := hide hh'
      clear hh hh' hneg hho hget hbd hA5 hS1 hS2 hp
      go_wp2_with fail
      refine (unhide HKEPT).mono ?_
      rintro e w7 ⟨rfl, rfl⟩
      go_wp2_with fail
      refine (unhide HH).mono ?_
      rintro e w8 ⟨rfl, hk8⟩
      go_wp2
      go_ret
      exact ⟨rfl, (unhide HB5).trans (hk8.below (unhide HB5).size (fun k e => by omega))⟩
  · have hcs : a < 0 ∨ (¬ a < 0 ∧ (n : Int) ≤ a) := by omega
    clear hin
    rcases hcs with hneg | ⟨hneg, hbig⟩
    all_goals
      go_wp2
      go_ret
      exact ⟨rfl, unhide HB5⟩

set_option maxRecDepth 100000 in
set_option maxHeartbeats 2000000 in
theorem diskCrash_invalid (w : World) (n s : Int) (v kv : Value) (arm a : Int) (h : ¬ (1 ≤ n ∧ n ≤ 16384 ∧ 32 ≤ s ∧ s ≤ 1024)) :
    Calls Try.prog 5 #[.int .i64 n, .int .i64 s, v, .int .i64 arm, kv, .int .i64 a] w fun e w' => e = .returned (.bool true) ∧ Below w.heap.size w w' := by
  have HN := hide h
  clear h
  go_enter Try.func5, Try.ntmps5
  go_wp2_with fail
  refine (made_no _ _ _ (unhide HN)).mono ?_
  rintro e w1 ⟨rfl, rfl⟩
  go_wp2
  go_ret
  exact ⟨rfl, Below.refl _ _⟩

set_option maxRecDepth 100000 in
set_option maxHeartbeats 2000000 in
theorem diskCrash_long (w : World) (n s : Nat) (ao : Option Addr) (len cap : Nat) (kv : Value) (arm a : Int) (hlen : 2147483647 < len) (h1 : 1 ≤ n) (h2 : n ≤ 16384) (h3 : 32 ≤ s) (h4 : s ≤ 1024) :
    Calls Try.prog 5 #[.int .i64 n, .int .i64 s, .slice ao len cap, .int .i64 arm, kv, .int .i64 a] w fun e w' => e = .returned (.bool true) ∧ Below w.heap.size w w' := by
  have hN : decide ((2147483647 : Int) < (len : Int)) = true := by simp; omega
  go_enter Try.func5, Try.ntmps5
  go_wp2_with fail
  refine (made_yes n s w h1 h2 h3 h4).mono ?_
  rintro e w1 ⟨rfl, hd1, hk1⟩
  have HK := hide hk1
  clear hd1 hk1
  go_wp2_with fail
  refine (long_any _ _).mono ?_
  rintro e w2 ⟨rfl, rfl⟩
  go_wp2
  go_ret
  exact ⟨rfl, (unhide HK).below (Nat.le_refl _) (fun _ f => f.elim)⟩

end Go.Proofs.Ytjmbcelkhiopeaa
