import Derived.Test.YtdkihkgmldnpmaaZd
namespace Go.Proofs.Ytdkihkgmldnpmaa
open Go.RowKit Go.Maps

/-- A script in memory. -/
structure Script (w : World) (v : Value) (ops : List OpA) : Prop where
  form : ∃ ao cap, v = .slice ao ops.length cap
  cells : 0 < ops.length → ∃ b off cap, v = .slice (some ⟨b, off, none⟩) ops.length cap ∧ b < w.heap.size ∧ ∀ i o, ops[i]? = some o →
    w.cell? ⟨b, off + i * 4, none⟩ = some (.int .i64 o.who) ∧ w.cell? ⟨b, off + i * 4 + 1, none⟩ = some (.int .i64 o.kind) ∧ w.cell? ⟨b, off + i * 4 + 2, none⟩ = some (.int .i64 o.n) ∧ w.cell? ⟨b, off + i * 4 + 3, none⟩ = some o.bv
  each : ∀ o ∈ ops, OpAt w w.heap.size o

theorem trio_new (w : World) : Trio (w.alloc (.cells (vcells fun _ => none) 67)) w.heap.size w.heap.size (fun _ => none) :=
  ⟨heap_alloc_new w _, fun _ _ _ h => (nomatch h), fun _ _ _ _ _ _ _ h => (nomatch h), Nat.le_refl _⟩

set_option maxRecDepth 100000 in
set_option maxHeartbeats 4000000 in
theorem upTo_any (w : World) (v : Value) (ops : List OpA) (hS : Script w v ops) (hlen : ops.length ≤ 2147483647) (lo hi : Int) :
    Calls Try.prog 27 #[v, .int .i64 lo, .int .i64 hi] w fun e w' => e = .returned (.bool true) ∧ Below w.heap.size w w' := by
  obtain ⟨ao, cap, rfl⟩ := hS.form
  have HS := hide hS
  have hN : decide ((2147483647 : Int) < (ops.length : Int)) = false := by simp; omega
  obtain ⟨w1, hw1⟩ : ∃ w1, w1 = w.alloc (.cells (vcells fun _ => none) 67) := ⟨_, rfl⟩
  have t1 := trio_new w
  rw [← hw1] at t1
  have hk1 : Keeps (fun k => w.heap.size ≤ k) w w1 := by rw [hw1]; exact (Keeps.refl _ _).alloc _
  simp only [vcells, slotP, slotR, Option.map_none] at hw1
  have HW1 := hide hw1
  have HT1 := hide t1
  have HK1 := hide hk1
  clear hS hw1 t1 hk1
  go_enter Try.func27, Try.ntmps27
  go_wp2_with fail
  refine (long_any _ _).mono ?_
  rintro e w2 ⟨rfl, rfl⟩
  go_wp2_with fail
  rw [← unhide HW1]
  go_loopw [8] (fun i wr => ∃ (k : Nat) (st : Nat → Slot), k ≤ ops.length ∧ i = .int .i64 k ∧ Trio wr w2.heap.size w2.heap.size st ∧ Keeps (fun k => w2.heap.size ≤ k) w2 wr) (fun i _ => ops.length - (intOf i).toNat)
  case atStart => exact ⟨0, _, Nat.zero_le _, rfl, unhide HT1, unhide HK1⟩
  case round =>
    obtain ⟨k, st, hk, rfl, t, hK⟩ := hrel
    by_cases hlt : k < ops.length
    · obtain ⟨b, off, cap', e1, hblt, hc⟩ := (unhide HS).cells (by omega)
      simp at e1
      obtain ⟨rfl, rfl⟩ := e1
      obtain ⟨o, ho⟩ : ∃ o, ops[k]? = some o := ⟨_, List.getElem?_eq_getElem hlt⟩
      have hO := (unhide HS).each o (List.mem_of_getElem? ho)
      obtain ⟨c0, c1, c2, c3⟩ := hc k o ho
      have i1 : (k : Int) < (ops.length : Int) := by omega
      have i0 : (0 : Int) ≤ (k : Int) := by omega
      have hnb : ¬ w2.heap.size ≤ b := by omega
      have d0 := (hK.cell (o := off + k * 4) hblt hnb).trans c0
      have d1 := (hK.cell (o := off + k * 4 + 1) hblt hnb).trans c1
      have d2 := (hK.cell (o := off + k * 4 + 2) hblt hnb).trans c2
      have d3 := (hK.cell (o := off + k * 4 + 3) hblt hnb).trans c3
      have hO1 := hO.kept hK (fun _ h => h)
      obtain ⟨w3, hw3⟩ : ∃ w3, w3 = wr.alloc (.cells o.cells 69) := ⟨_, rfl⟩
      have hb3 : w3.heap[wr.heap.size]? = some (.cells o.cells 69 (0, 0)) := by rw [hw3]; exact heap_alloc_new wr _
      have hk3 : Keeps (fun _ => False) wr w3 := by rw [hw3]; exact (Keeps.refl _ _).alloc _
      have hB3 : w2.heap.size ≤ w3.heap.size := Nat.le_trans hK.size hk3.size
      have HC := hide (step_any w3 w2.heap.size w2.heap.size st (t.keep hk3) hB3 o (hO1.kept hk3 (fun _ f => f.elim)))
      obtain ⟨wh, kd, a, bv, bytes⟩ := o
      obtain ⟨bo, bc, hbv⟩ := hO.bits.form
      simp only [bs_length] at hbv d0 d1 d2 d3
      subst hbv
      simp only [OpA.cells] at hw3 hb3 HC
      have hno : ¬ (wr.heap.size = w2.heap.size ∨ ∃ i, slotOwn (st i) wr.heap.size) := by
        rintro (h | ⟨i, h⟩)
        · have := lt_of_block t.blk; omega
        · have := (t.own_lo h).2; omega
      have HOWN : Hid (∀ k, (k = w2.heap.size ∨ ∃ i, slotOwn (st i) k) → w2.heap.size ≤ k) := by
        rintro k (h | ⟨i, h⟩)
        · omega
        · exact (t.own_lo h).1
      have hlw3 := lt_of_block hb3
      have g1 : w3.cell? ⟨wr.heap.size, 1, none⟩ = some (.int .i64 kd) := cell_of_blk hb3 1
      have HW3 := hide hw3
      have HK13 := hide (hK.trans (hk3.mono (fun _ _ f => f.elim)))
      clear hc ho c0 c1 c2 c3 hO hO1 hw3 hb3 hk3 hK t
      go_wp2_with fail
      rw [← unhide HW3]
      refine (unhide HC).mono ?_
      rintro e w4 ⟨rfl, st', t4, hk4⟩
      have g4 := (hk4.cell (o := 1) hlw3 hno).trans g1
      have hlw4 : wr.heap.size < w4.heap.size := Nat.lt_of_lt_of_le hlw3 hk4.size
      have HT4 := hide t4
      have HK4 := hide ((unhide HK13).trans (hk4.mono (fun k _ h => unhide HOWN k h)))
      clear t4 hk4 HC g1 hno
      go_wp2
      all_goals
        go_roundw
        case rel => exact ⟨k + 1, st', by omega, by go_num, unhide HT4, unhide HK4⟩
        case measure => simp [intOf]; omega
    · obtain rfl : k = ops.length := by omega
      have HK := hide hK
      clear hK t
      go_wp2
      go_ret
      exact ⟨rfl, (unhide HK).below (Nat.le_refl _) (fun _ h => h)⟩

set_option maxRecDepth 100000 in
theorem upTo_long (w : World) (ao : Option Addr) (len cap : Nat) (hl : 2147483647 < len) (lo hi : Int) :
    Calls Try.prog 27 #[.slice ao len cap, .int .i64 lo, .int .i64 hi] w fun e w' => e = .returned (.bool true) ∧ Below w.heap.size w w' := by
  have hN : decide ((2147483647 : Int) < (len : Int)) = true := by simp; omega
  go_enter Try.func27, Try.ntmps27
  go_wp2_with fail
  refine (long_any _ _).mono ?_
  rintro e w2 ⟨rfl, rfl⟩
  go_wp2
  go_ret
  exact ⟨rfl, Below.refl _ _⟩

theorem upTo_all (w : World) (ao : Option Addr) (len cap : Nat) (ops : List OpA) (hS : Script w (.slice ao len cap) ops) (hl : ops.length = len) (lo hi : Int) :
    Calls Try.prog 27 #[.slice ao len cap, .int .i64 lo, .int .i64 hi] w fun e w' => e = .returned (.bool true) ∧ Below w.heap.size w w' := by
  by_cases hlong : len ≤ 2147483647
  · exact upTo_any w _ ops hS (by omega) _ _
  · exact upTo_long w ao len cap (by omega) _ _

theorem spaceMakes_walk (w : World) (ao : Option Addr) (len cap : Nat) (ops : List OpA) (hS : Script w (.slice ao len cap) ops) (hl : ops.length = len) :
    Calls Try.prog 7 #[.slice ao len cap] w fun e w' => e = .returned (.bool true) ∧ Below w.heap.size w w' := by
  have H := upTo_all w ao len cap ops hS hl 1 2
  go_enter Try.func7, Try.ntmps7
  go_wp2_with fail
  refine H.mono ?_
  rintro e w' ⟨rfl, hb⟩
  go_wp2
  go_ret
  exact ⟨rfl, hb⟩

theorem spaceScripts_walk (w : World) (ao : Option Addr) (len cap : Nat) (ops : List OpA) (hS : Script w (.slice ao len cap) ops) (hl : ops.length = len) :
    Calls Try.prog 8 #[.slice ao len cap] w fun e w' => e = .returned (.bool true) ∧ Below w.heap.size w w' := by
  have H := upTo_all w ao len cap ops hS hl 1 10
  go_enter Try.func8, Try.ntmps8
  go_wp2_with fail
  refine H.mono ?_
  rintro e w' ⟨rfl, hb⟩
  go_wp2
  go_ret
  exact ⟨rfl, hb⟩

end Go.Proofs.Ytdkihkgmldnpmaa
