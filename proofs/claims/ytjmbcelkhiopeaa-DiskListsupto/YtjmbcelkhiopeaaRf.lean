import Derived.Test.YtjmbcelkhiopeaaRe
namespace Go.Proofs.Ytjmbcelkhiopeaa
open Go.RowKit Go.Maps
attribute [local go_sem ↓] Go.wp_at_zero Go.wp_at_succ

def LW.pair (x : LW) : Nat × List Int := (x.sec, x.bytes)

/-- A list of writes, each with a slice of bytes of its own, whatever their capacities. -/
structure WritesG (w : World) (v : Value) (ws : List LW) : Prop where
  form : ∃ ao cap, v = .slice ao ws.length cap
  cells : 0 < ws.length → ∃ b cap, v = .slice (some ⟨b, 0, none⟩) ws.length cap ∧ b < w.heap.size ∧ ∀ j x, ws[j]? = some x →
    w.cell? ⟨b, j * 2, none⟩ = some (.int .i64 x.sec) ∧ w.cell? ⟨b, j * 2 + 1, none⟩ = some x.v ∧ x.bytes.length ≤ maxLen ∧ Reads w x.v x.bytes

theorem lmap_take_succ {la lb : List LW} {k : Nat} (h : (la.take k).map LW.pair = (lb.take k).map LW.pair) {x y : LW} (ha : la[k]? = some x) (hb : lb[k]? = some y) (hxy : x.pair = y.pair) : (la.take (k + 1)).map LW.pair = (lb.take (k + 1)).map LW.pair := by
  rw [take_snoc _ _ _ ha, take_snoc _ _ _ hb, List.map_append, List.map_append, h]
  simp [hxy]

theorem lmap_ne {la lb : List LW} {k : Nat} {x y : LW} (ha : la[k]? = some x) (hb : lb[k]? = some y) (hxy : x.pair ≠ y.pair) : la.map LW.pair ≠ lb.map LW.pair := by
  intro e
  have h1 : (la.map LW.pair)[k]? = some x.pair := by rw [List.getElem?_map, ha]; rfl
  have h2 : (lb.map LW.pair)[k]? = some y.pair := by rw [List.getElem?_map, hb]; rfl
  rw [e, h2] at h1
  exact hxy (by simpa using h1.symm)

theorem Reads.drewN {w : World} {v : Value} {l : List Int} (h : Reads w v l) (n : Nat) : Reads (w.drewN n) v l := h.kept (fun _ _ _ hx _ => hx)

set_option maxRecDepth 100000 in
set_option maxHeartbeats 2000000 in
theorem eqWritesG (w : World) (va vb : Value) (la lb : List LW) (ha : WritesG w va la) (hb : WritesG w vb lb) (hla : la.length ≤ 4294967295) :
    Calls Try.prog 19 #[va, vb] w fun e w' => e = .returned (.bool (decide (la.map LW.pair = lb.map LW.pair))) ∧ ∃ n, w' = w.drewN n := by
  obtain ⟨ao, capa, rfl⟩ := ha.form
  obtain ⟨bo, capb, rfl⟩ := hb.form
  by_cases hlen : la.length = lb.length
  · have hne : ((la.length : Int) != (lb.length : Int)) = false := by simp [hlen]
    have HA := hide ha
    have HB := hide hb
    have HL := hide hlen
    clear ha hb hlen
    go_enter Try.func19, Try.ntmps19
    go_wp2
    go_loopw [5] (fun i wr => ∃ k : Nat, k ≤ la.length ∧ i = .int .i64 k ∧ (la.take k).map LW.pair = (lb.take k).map LW.pair ∧ ∃ n, wr = w.drewN n) (fun i _ => la.length - (intOf i).toNat)
    case atStart => exact ⟨0, Nat.zero_le _, rfl, rfl, 0, rfl⟩
    case round =>
      obtain ⟨k, hk, rfl, htk, n, rfl⟩ := hrel
      have HT := hide htk
      clear htk
      by_cases hlt : k < la.length
      · obtain ⟨b1, c1, e1, hb1, hc1⟩ := (unhide HA).cells (by omega)
        obtain ⟨b2, c2, e2, hb2, hc2⟩ := (unhide HB).cells (by have := unhide HL; omega)
        simp at e1 e2
        obtain ⟨rfl, rfl⟩ := e1
        obtain ⟨rfl, rfl⟩ := e2
        have hltb : k < lb.length := by have := unhide HL; omega
        obtain ⟨x, hx⟩ : ∃ x, la[k]? = some x := ⟨_, List.getElem?_eq_getElem hlt⟩
        obtain ⟨y, hy⟩ : ∃ y, lb[k]? = some y := ⟨_, List.getElem?_eq_getElem hltb⟩
        obtain ⟨p0, p1, p2, p3⟩ := hc1 k x hx
        obtain ⟨q0, q1, q2, q3⟩ := hc2 k y hy
        have i0 : (0 : Int) ≤ (k : Int) := by omega
        have i1 : (k : Int) < (la.length : Int) := by omega
        have i2 : (k : Int) < (lb.length : Int) := by omega
        have HX := hide hx
        have HY := hide hy
        have HE := hide (fun m => eqBytes_any (w.drewN m) _ _ _ _ (p3.drewN m) (q3.drewN m) p2)
        clear hc1 hc2 hx hy p2 p3 q2 q3
        by_cases hbytes : x.bytes = y.bytes
        · have hdec : decide (x.bytes = y.bytes) = true := decide_eq_true hbytes
          rw [hdec] at HE
          have HBY := hide hbytes
          clear hdec hbytes
          go_wp2_with fail
          go_region_held3 (fun w' => w'.cell? ⟨b1, k * 2 + 1, none⟩ = some x.v ∧ w'.cell? ⟨b2, k * 2 + 1, none⟩ = some y.v)
            (go_keep)
            (first
              | (go_at_call 28; refine (unhide HE _).mono ?_; rintro e wa ⟨rfl, m, rfl⟩))
          go_wp2_with fail
          go_quiet (fail)
          by_cases hsec : x.sec = y.sec
          · have HPP := hide (show x.pair = y.pair by simp [LW.pair, hsec, unhide HBY])
            have hb0 : ((x.sec : Int) != (y.sec : Int)) = false := by simp [hsec]
            clear hsec
            go_wp2
            go_roundw
            case rel => exact ⟨k + 1, by omega, by go_num, lmap_take_succ (unhide HT) (unhide HX) (unhide HY) (unhide HPP), n + 1 + m + nq, by simp⟩
            case measure => simp [intOf]; omega
          · have HPP := hide (show x.pair ≠ y.pair by intro e; simp [LW.pair] at e; exact hsec e.1)
            have hb0 : ((x.sec : Int) != (y.sec : Int)) = true := by rw [bne_iff_ne]; omega
            clear hsec
            go_wp2
            go_ret
            exact ⟨ret_bool (by symm; rw [decide_eq_false_iff_not]; exact lmap_ne (unhide HX) (unhide HY) (unhide HPP)), n + 1 + m + nq, by simp⟩
        · have hdec : decide (x.bytes = y.bytes) = false := decide_eq_false hbytes
          rw [hdec] at HE
          have HPP := hide (show x.pair ≠ y.pair by intro e; simp [LW.pair] at e; exact hbytes e.2)
          clear hdec hbytes
          go_wp2_with fail
          go_region_held3 (fun w' => w'.cell? ⟨b1, k * 2 + 1, none⟩ = some x.v ∧ w'.cell? ⟨b2, k * 2 + 1, none⟩ = some y.v)
            (go_keep)
            (first
              | (go_at_call 28; refine (unhide HE _).mono ?_; rintro e wa ⟨rfl, m, rfl⟩))
          go_wp2_with fail
          go_quiet (fail)
          go_wp2
          go_ret
          exact ⟨ret_bool (by symm; rw [decide_eq_false_iff_not]; exact lmap_ne (unhide HX) (unhide HY) (unhide HPP)), n + 1 + m + nq, by simp⟩
      · have HF := hide (show la.map LW.pair = lb.map LW.pair by
          have h1 := unhide HT
          rw [List.take_of_length_le (by omega), List.take_of_length_le (by have := unhide HL; omega)] at h1
          exact h1)
        go_wp2
        go_ret
        exact ⟨ret_bool (by symm; rw [decide_eq_true_iff]; exact unhide HF), _, rfl⟩
  · have hne : ((la.length : Int) != (lb.length : Int)) = true := by rw [bne_iff_ne]; omega
    have HL := hide hlen
    clear hlen
    go_enter Try.func19, Try.ntmps19
    go_wp2
    go_ret
    exact ⟨ret_bool (by symm; rw [decide_eq_false_iff_not]; intro e; exact unhide HL (by have := congrArg List.length e; simpa using this)), 0, rfl⟩

/-- A list of the reference's, made anew. -/
structure LogAt (w : World) (base : Nat) (v : Value) (s : Nat) (log : List LW) : Prop where
  row : w.ownsRow base 60 2 v log.length (lcells log)
  each : ∀ x ∈ log, x.bytes.length = s ∧ w.ownsRow base 5 1 x.v s (bs x.bytes)

theorem LogAt.writes {w : World} {base : Nat} {v : Value} {s : Nat} {log : List LW} (h : LogAt w base v s log) (hs : s ≤ 1024) : WritesG w v log := by
  refine ⟨?_, fun h0 => ?_⟩
  · rcases h.row.2 with ⟨hv, hn⟩ | ⟨g, cap, cur, hv, _⟩
    · exact ⟨none, 0, by rw [hn]; exact hv⟩
    · exact ⟨_, cap, hv⟩
  · obtain ⟨g, cap, hv, hb, hlt⟩ := h.row.form h0
    refine ⟨g, cap, hv, hlt, fun j x hx => ?_⟩
    have hc := h.row.cells (g := g) (by rw [hv]; rfl)
    obtain ⟨e1, e2⟩ := lcells_get log j x hx
    have q1 := hc _ _ e1
    have q2 := hc _ _ e2
    rw [Addr.add_lit, Nat.zero_add] at q1 q2
    obtain ⟨l1, l2⟩ := h.each x (List.mem_of_getElem? hx)
    exact ⟨q1, q2, by rw [l1]; unfold maxLen; omega, reads_of_row l2⟩

end Go.Proofs.Ytjmbcelkhiopeaa
