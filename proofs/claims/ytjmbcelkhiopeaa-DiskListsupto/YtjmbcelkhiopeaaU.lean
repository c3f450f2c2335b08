import Derived.Test.YtjmbcelkhiopeaaT
namespace Go.Proofs.Ytjmbcelkhiopeaa
open Go.RowKit Go.Maps
attribute [local go_sem ↓] Go.wp_at_zero Go.wp_at_succ

theorem writes_of_pend {w w' : World} {S : DS} {ws : List Wr} (I : PendInv w S S.ws.length ws w') : WritesAt w' (.slice (some ⟨w.heap.size, 0, none⟩) S.ws.length S.ws.length) S.size ws := by
  obtain ⟨arr, ha, hs, hc⟩ := I.arr
  refine ⟨⟨_, _, by rw [I.len]⟩, fun _ => ⟨w.heap.size, S.ws.length, by rw [I.len], lt_of_block ha, fun j x hx => ?_⟩⟩
  obtain ⟨h1, h2⟩ := hc j x hx
  obtain ⟨e1, e2, _⟩ := I.each x (List.mem_of_getElem? hx)
  exact ⟨by rw [cell_of_blk ha]; exact h1, by rw [cell_of_blk ha]; exact h2, e1, e2⟩

theorem WritesAt.kept {w w' : World} {v : Value} {s : Nat} {ws : List Wr} (h : WritesAt w v s ws) {F : Nat → Prop} (hk : Keeps F w w') (h1 : ∀ b, v.ownBlock = some b → ¬ F b) (h2 : ∀ x ∈ ws, ¬ F x.blk) : WritesAt w' v s ws := by
  refine ⟨h.form, fun h0 => ?_⟩
  obtain ⟨b, cap, e, hb, hc⟩ := h.cells h0
  refine ⟨b, cap, e, Nat.lt_of_lt_of_le hb hk.size, fun j x hx => ?_⟩
  obtain ⟨c0, c1, c2, c3⟩ := hc j x hx
  have hF : ¬ F b := h1 b (by rw [e]; rfl)
  exact ⟨(hk.cell hb hF).trans c0, (hk.cell hb hF).trans c1, c2, (hk.block _ (lt_of_block c3) (h2 x (List.mem_of_getElem? hx))).trans c3⟩

theorem map_take_succ {la lb : List Wr} {k : Nat} (h : (la.take k).map Wr.pair = (lb.take k).map Wr.pair) {x y : Wr} (ha : la[k]? = some x) (hb : lb[k]? = some y) (hxy : x.pair = y.pair) : (la.take (k + 1)).map Wr.pair = (lb.take (k + 1)).map Wr.pair := by
  rw [take_snoc _ _ _ ha, take_snoc _ _ _ hb, List.map_append, List.map_append, h]
  simp [hxy]

theorem map_ne {la lb : List Wr} {k : Nat} {x y : Wr} (ha : la[k]? = some x) (hb : lb[k]? = some y) (hxy : x.pair ≠ y.pair) : la.map Wr.pair ≠ lb.map Wr.pair := by
  intro e
  have h1 : (la.map Wr.pair)[k]? = some x.pair := by rw [List.getElem?_map, ha]; rfl
  have h2 : (lb.map Wr.pair)[k]? = some y.pair := by rw [List.getElem?_map, hb]; rfl
  rw [e, h2] at h1
  exact hxy (by simpa using h1.symm)

set_option maxRecDepth 100000 in
set_option maxHeartbeats 2000000 in
theorem eqWrites_any (w : World) (va vb : Value) (s : Nat) (la lb : List Wr) (ha : WritesAt w va s la) (hb : WritesAt w vb s lb) (hla : la.length ≤ 4294967295) (hs : s ≤ 1024) :
    Calls Try.prog 19 #[va, vb] w fun e w' => e = .returned (.bool (decide (la.map Wr.pair = lb.map Wr.pair))) ∧ ∃ n, w' = w.drewN n := by
  obtain ⟨ao, capa, rfl⟩ := ha.form
  obtain ⟨bo, capb, rfl⟩ := hb.form
  by_cases hlen : la.length = lb.length
  · have hne : ((la.length : Int) != (lb.length : Int)) = false := by simp [hlen]
    have HA := hide ha
    have HB := hide hb
    have HL := hide hlen
    clear ha hb hlen
    go_enter Try.func19, Try.ntmps19
    go_wp2
    go_loopw [5] (fun i wr => ∃ k : Nat, k ≤ la.length ∧ i = .int .i64 k ∧ (la.take k).map Wr.pair = (lb.take k).map Wr.pair ∧ ∃ n, wr = w.drewN n) (fun i _ => la.length - (intOf i).toNat)
    case atStart => exact ⟨0, Nat.zero_le _, rfl, rfl, 0, rfl⟩
    case round =>
      obtain ⟨k, hk, rfl, htk, n, rfl⟩ := hrel
      have HT := hide htk
      clear htk
      by_cases hlt : k < la.length
      · obtain ⟨b1, c1, e1, hb1, hc1⟩ := (unhide HA).cells (by omega)
        obtain ⟨b2, c2, e2, hb2, hc2⟩ := (unhide HB).cells (by have := unhide HL; omega)
        simp at e1 e2
        obtain ⟨rfl, rfl⟩ := e1
        obtain ⟨rfl, rfl⟩ := e2
        have hltb : k < lb.length := by have := unhide HL; omega
        obtain ⟨x, hx⟩ : ∃ x, la[k]? = some x := ⟨_, List.getElem?_eq_getElem hlt⟩
        obtain ⟨y, hy⟩ : ∃ y, lb[k]? = some y := ⟨_, List.getElem?_eq_getElem hltb⟩
        obtain ⟨p0, p1, p2, p3⟩ := hc1 k x hx
        obtain ⟨q0, q1, q2, q3⟩ := hc2 k y hy
        have i0 : (0 : Int) ≤ (k : Int) := by omega
        have i1 : (k : Int) < (la.length : Int) := by omega
        have i2 : (k : Int) < (lb.length : Int) := by omega
        have HX := hide hx
        have HY := hide hy
        have HE := hide (fun m => eqBytes_any (w.drewN m) _ _ _ _ (reads_of_blk (w := w.drewN m) p3 p2 s) (reads_of_blk (w := w.drewN m) q3 q2 s) (by rw [p2]; unfold maxLen; omega))
        clear hc1 hc2 hx hy p2 p3 q2 q3
        by_cases hbytes : x.bytes = y.bytes
        · have hdec : decide (x.bytes = y.bytes) = true := decide_eq_true hbytes
          rw [hdec] at HE
          have HBY := hide hbytes
          clear hdec hbytes
          go_wp2_with fail
          go_region_held3 (fun w' => w'.cell? ⟨b1, k * 2 + 1, none⟩ = some (.slice (some ⟨x.blk, 0, none⟩) s s) ∧ w'.cell? ⟨b2, k * 2 + 1, none⟩ = some (.slice (some ⟨y.blk, 0, none⟩) s s))
            (go_keep)
            (first
              | (go_at_call 28; refine (unhide HE _).mono ?_; rintro e wa ⟨rfl, m, rfl⟩))
          go_wp2_with fail
          go_quiet (fail)
          by_cases hsec : x.sec = y.sec
          · have HPP := hide (show x.pair = y.pair by simp [Wr.pair, hsec, unhide HBY])
            have hb0 : ((x.sec : Int) != (y.sec : Int)) = false := by simp [hsec]
            clear hsec
            go_wp2
            go_roundw
            case rel => exact ⟨k + 1, by omega, by go_num, map_take_succ (unhide HT) (unhide HX) (unhide HY) (unhide HPP), n + 1 + m + nq, by simp⟩
            case measure => simp [intOf]; omega
          · have HPP := hide (show x.pair ≠ y.pair by intro e; simp [Wr.pair] at e; exact hsec e.1)
            have hb0 : ((x.sec : Int) != (y.sec : Int)) = true := by rw [bne_iff_ne]; omega
            clear hsec
            go_wp2
            go_ret
            exact ⟨ret_bool (by symm; rw [decide_eq_false_iff_not]; exact map_ne (unhide HX) (unhide HY) (unhide HPP)), n + 1 + m + nq, by simp⟩
        · have hdec : decide (x.bytes = y.bytes) = false := decide_eq_false hbytes
          rw [hdec] at HE
          have HPP := hide (show x.pair ≠ y.pair by intro e; simp [Wr.pair] at e; exact hbytes e.2)
          clear hdec hbytes
          go_wp2_with fail
          go_region_held3 (fun w' => w'.cell? ⟨b1, k * 2 + 1, none⟩ = some (.slice (some ⟨x.blk, 0, none⟩) s s) ∧ w'.cell? ⟨b2, k * 2 + 1, none⟩ = some (.slice (some ⟨y.blk, 0, none⟩) s s))
            (go_keep)
            (first
              | (go_at_call 28; refine (unhide HE _).mono ?_; rintro e wa ⟨rfl, m, rfl⟩))
          go_wp2_with fail
          go_quiet (fail)
          go_wp2
          go_ret
          exact ⟨ret_bool (by symm; rw [decide_eq_false_iff_not]; exact map_ne (unhide HX) (unhide HY) (unhide HPP)), n + 1 + m + nq, by simp⟩
      · have HF := hide (show la.map Wr.pair = lb.map Wr.pair by
          have h1 := unhide HT
          rw [List.take_of_length_le (by omega), List.take_of_length_le (by have := unhide HL; omega)] at h1
          exact h1)
        go_wp2
        go_ret
        exact ⟨ret_bool (by symm; rw [decide_eq_true_iff]; exact unhide HF), _, rfl⟩
  · have hne : ((la.length : Int) != (lb.length : Int)) = true := by rw [bne_iff_ne]; omega
    have HL := hide hlen
    clear hlen
    go_enter Try.func19, Try.ntmps19
    go_wp2
    go_ret
    exact ⟨ret_bool (by symm; rw [decide_eq_false_iff_not]; intro e; exact unhide HL (by have := congrArg List.length e; simpa using this)), 0, rfl⟩

end Go.Proofs.Ytjmbcelkhiopeaa
