import Derived.Test.YtjmbcelkhiopeaaRx
import Derived.Test.YtjmbcelkhiopeaaLm
namespace Go.Proofs.Ytjmbcelkhiopeaa
open Go.RowKit Go.Maps

/-- A script in memory. -/
structure Script (w : World) (v : Value) (ops : List OpA) : Prop where
  form : ∃ ao cap, v = .slice ao ops.length cap
  cells : 0 < ops.length → ∃ b off cap, v = .slice (some ⟨b, off, none⟩) ops.length cap ∧ b < w.heap.size ∧ ∀ i o, ops[i]? = some o →
    w.cell? ⟨b, off + i * 6, none⟩ = some (.int .i64 o.who) ∧ w.cell? ⟨b, off + i * 6 + 1, none⟩ = some (.int .i64 o.kind) ∧ w.cell? ⟨b, off + i * 6 + 2, none⟩ = some (.int .i64 o.a) ∧ w.cell? ⟨b, off + i * 6 + 3, none⟩ = some (.int .i64 o.b) ∧ w.cell? ⟨b, off + i * 6 + 4, none⟩ = some o.bv ∧ w.cell? ⟨b, off + i * 6 + 5, none⟩ = some o.kv
  each : ∀ o ∈ ops, OpAt w w.heap.size o ∧ o.a ≤ 9223372036854775807

end Go.Proofs.Ytjmbcelkhiopeaa

namespace Go.Proofs.Ytjmbcelkhiopeaa
open Go.RowKit Go.Maps
attribute [local go_sem ↓] Go.wp_at_zero Go.wp_at_succ

/-- A Book without lists. -/
def newBk (D : Nat) : Bk := ⟨D, .slice none 0 0, .slice none 0 0, .slice none 0 0, .slice none 0 0, .slice none 0 0, .slice none 0 0, [], [], [], [], [], [], 0, fun _ => False⟩

theorem newBk_all {D k : Nat} (h : (newBk D).all k) : k = D := by
  rcases h with (h | h | h | h | h | h | h) | h
  · exact h
  all_goals cases h

theorem both_new (w : World) : Both ((w.alloc (.cells (vcells fun _ => none) 73)).alloc (.cells (newBk (w.heap.size + 1)).cells 79)) w.heap.size w.heap.size 0 (fun _ => none) (newBk (w.heap.size + 1)) := by
  have hD : ((w.alloc (.cells (vcells fun _ => none) 73)).alloc (.cells (newBk (w.heap.size + 1)).cells 79)).heap[w.heap.size + 1]? = some (.cells (newBk (w.heap.size + 1)).cells 79 (0, 0)) := by
    have := heap_alloc_new (w.alloc (.cells (vcells fun _ => none) 73)) (.cells (newBk (w.heap.size + 1)).cells 79)
    rwa [World.size_alloc] at this
  refine ⟨⟨?_, fun _ _ _ h => (nomatch h), fun _ _ _ h => (nomatch h), fun _ _ _ _ _ _ _ h => (nomatch h), fun _ _ _ h => (nomatch h), fun k h => ?_⟩, ?_⟩
  · rw [Below.heap_alloc _ _ _ (by simp)]; exact heap_alloc_new w _
  · rw [newBk_all h]; simp
  · exact ⟨hD, by show _ ≤ w.heap.size + 1; omega, World.ownsRow_nil _ _ _ _, World.ownsRow_nil _ _ _ _, World.ownsRow_nil _ _ _ _, World.ownsRow_nil _ _ _ _, World.ownsRow_nil _ _ _ _, World.ownsRow_nil _ _ _ _, fun _ h => (nomatch h), fun _ h => (nomatch h), fun _ h => (nomatch h), rfl, rfl, rfl, Nat.zero_le _, Nat.zero_le _, fun _ h => h.elim, fun i p q h => by simp [newBk] at h, fun i p q h => by simp [newBk] at h, fun i p q h => by simp [newBk] at h⟩

theorem both_step (w : World) (V B N : Nat) (st : Nat → Slot) (b : Bk) (T : Both w V B N st b) (hV : B ≤ V) (hB : B ≤ w.heap.size) (hN : N ≤ 2147483640) (o : OpA) (hO : OpAt w B o) (ha : o.a ≤ 9223372036854775807) :
    Calls Try.prog 34 #[.pointer (some ⟨V, 0, none⟩), .agg o.cells] w fun e w' => e = .returned (.bool true) ∧ ∃ st', Both w' V B (N + 2) st' b ∧ Keeps (fun q => B ≤ q) w w' := by
  refine (step_any w V B N st T.trio hV hB (by omega) o hO ha).mono ?_
  rintro e w' ⟨rfl, st', t', hk⟩
  refine ⟨rfl, st', ⟨t'.mono (by omega), T.book.keep hk (fun q h h' => ?_)⟩, hk.mono (fun q _ h => ?_)⟩
  · rcases h' with rfl | ⟨i, h'⟩
    · exact T.book.not_V T.trio.blk h
    · exact slotOwn_no T.trio h' h
  · rcases h with rfl | ⟨i, h⟩
    · exact hV
    · exact (T.trio.slot_own h).2

structure LInv (w wr : World) (k : Nat) (st : Nat → Slot) (b : Bk) : Prop where
  both : Both wr w.heap.size w.heap.size (2 * k) st b
  D : b.D = w.heap.size + 1
  n : b.n ≤ 599190 * k
  kl : b.kl.length ≤ k
  keeps : Keeps (fun q => w.heap.size ≤ q) w wr

set_option maxRecDepth 100000 in
set_option maxHeartbeats 8000000 in
theorem diskLists_any (w : World) (v : Value) (ops : List OpA) (hS : Script w v ops) (hlen : ops.length ≤ 149796) :
    Calls Try.prog 8 #[v] w fun e w' => e = .returned (.bool true) ∧ Below w.heap.size w w' := by
  obtain ⟨ao, cap, rfl⟩ := hS.form
  have HS := hide hS
  have hN : decide ((2147483647 : Int) < (ops.length : Int)) = false := by simp; omega
  obtain ⟨w1, hw1⟩ : ∃ w1, w1 = (w.alloc (.cells (vcells fun _ => none) 73)).alloc (.cells (newBk (w.heap.size + 1)).cells 79) := ⟨_, rfl⟩
  have T1 := both_new w
  rw [← hw1] at T1
  have hk1 : Keeps (fun q => w.heap.size ≤ q) w w1 := by rw [hw1]; exact ((Keeps.refl _ _).alloc _).alloc _
  have HI1 : Hid (LInv w w1 0 (fun _ => none) (newBk (w.heap.size + 1))) := ⟨T1, rfl, Nat.zero_le _, Nat.zero_le _, hk1⟩
  simp only [vcells, slotP, slotR, Option.map_none, newBk, Bk.cells] at hw1
  rw [show ((0 : Nat) : Int) = 0 from rfl] at hw1
  have HW1 := hide hw1
  clear hS hw1 T1 hk1
  go_enter Try.func8, Try.ntmps8
  go_wp2_with fail
  refine (long_any _ _).mono ?_
  rintro e w2 ⟨rfl, h⟩
  subst w2
  go_wp2_with fail
  rw [← unhide HW1]
  go_loopw [5] (fun i wr => ∃ (k : Nat) (st : Nat → Slot) (b : Bk), k ≤ ops.length ∧ i = .int .i64 k ∧ LInv w wr k st b) (fun i _ => ops.length - (intOf i).toNat)
  case atStart => exact ⟨0, _, _, Nat.zero_le _, rfl, unhide HI1⟩
  case round =>
    obtain ⟨k, st, b, hk, rfl, I⟩ := hrel
    by_cases hlt : k < ops.length
    · obtain ⟨g, off, cap', e1, hblt, hc⟩ := (unhide HS).cells (by omega)
      simp at e1
      obtain ⟨rfl, rfl⟩ := e1
      obtain ⟨o, ho⟩ : ∃ o, ops[k]? = some o := ⟨_, List.getElem?_eq_getElem hlt⟩
      obtain ⟨hO, ha⟩ := (unhide HS).each o (List.mem_of_getElem? ho)
      obtain ⟨c0, c1, c2, c3, c4, c5⟩ := hc k o ho
      have i1 : (k : Int) < (ops.length : Int) := by omega
      have i0 : (0 : Int) ≤ (k : Int) := by omega
      have hnb : ¬ w.heap.size ≤ g := by omega
      have hK := I.keeps
      have d0 := (hK.cell (o := off + k * 6) hblt hnb).trans c0
      have d1 := (hK.cell (o := off + k * 6 + 1) hblt hnb).trans c1
      have d2 := (hK.cell (o := off + k * 6 + 2) hblt hnb).trans c2
      have d3 := (hK.cell (o := off + k * 6 + 3) hblt hnb).trans c3
      have d4 := (hK.cell (o := off + k * 6 + 4) hblt hnb).trans c4
      have d5 := (hK.cell (o := off + k * 6 + 5) hblt hnb).trans c5
      have hO1 := hO.kept (Nat.le_refl _) hK
      obtain ⟨w3, hw3⟩ : ∃ w3, w3 = wr.alloc (.cells o.cells 81) := ⟨_, rfl⟩
      have hb3 : w3.heap[wr.heap.size]? = some (.cells o.cells 81 (0, 0)) := by rw [hw3]; exact heap_alloc_new wr _
      have hk3 : Keeps (fun _ => False) wr w3 := by rw [hw3]; exact (Keeps.refl _ _).alloc _
      have hB3 : w.heap.size ≤ w3.heap.size := Nat.le_trans hK.size hk3.size
      have T3 := I.both.keep hk3
      have hO3 := hO1.keepF hK.size hk3
      have hIn := I.n
      have hIk := I.kl
      have hID := I.D
      have hmul : 599190 * k ≤ 89756265240 := by omega
      obtain ⟨wh, kd, a, b', bv, kv, bytes, keep⟩ := o
      obtain ⟨bo, bc, hbv⟩ := hO.bytes.form
      obtain ⟨ko, kc, hkv⟩ := hO.keep.form
      simp only at hbv hkv ha d0 d1 d2 d3 d4 d5
      subst hbv hkv
      have HK13 := hide (hK.trans (hk3.mono (fun _ _ f => f.elim)))
      have g1 : w3.cell? ⟨wr.heap.size, 1, none⟩ = some (.int .i64 kd) := cell_of_blk hb3 1
      have hlw3 := lt_of_block hb3
      -- one step, whatever its kind
      have CG : kd = 2 ∨ kd = 5 ∨ kd = 3 → Hid (Calls Try.prog 32 #[.pointer (some ⟨w.heap.size, 0, none⟩), .pointer (some ⟨w.heap.size + 1, 0, none⟩), .agg #[.int .i64 wh, .int .i64 kd, .int .i64 a, .int .i64 b', .slice bo bytes.length bc, .slice ko keep.length kc]] w3 fun e w' => e = .returned (.bool true) ∧ ∃ st' b2, LInv w w' (k + 1) st' b2) := fun hkd => by
        have h := given_any w3 w.heap.size w.heap.size (2 * k) st b T3 (Nat.le_refl _) hB3 (by omega) _ hO3 hkd (by omega) (by omega)
        rw [hID] at h
        refine h.mono ?_
        rintro e w' ⟨rfl, st', b2, hT, hD, hbn, hkl, hkk⟩
        exact ⟨rfl, st', b2, hT, hD, by omega, by omega, (unhide HK13).trans hkk⟩
      have CT : kd = 4 ∨ kd = 10 ∨ kd = 9 → Hid (Calls Try.prog 33 #[.pointer (some ⟨w.heap.size, 0, none⟩), .pointer (some ⟨w.heap.size + 1, 0, none⟩), .agg #[.int .i64 wh, .int .i64 kd, .int .i64 a, .int .i64 b', .slice bo bytes.length bc, .slice ko keep.length kc]] w3 fun e w' => e = .returned (.bool true) ∧ ∃ st' b2, LInv w w' (k + 1) st' b2) := fun hkd => by
        have h := taken_any w3 w.heap.size w.heap.size (2 * k) st b T3 (Nat.le_refl _) hB3 (by omega) ⟨wh, kd, a, b', .slice bo bytes.length bc, .slice ko keep.length kc, bytes, keep⟩ ⟨_, _, _, rfl⟩ ⟨_, _, _, rfl⟩ hkd (by omega)
        rw [hID] at h
        refine h.mono ?_
        rintro e w' ⟨rfl, st', b2, hT, hD, hbn, hkl, hkk⟩
        exact ⟨rfl, st', b2, hT, hD, by omega, by rw [hkl]; omega, (unhide HK13).trans hkk⟩
      have CS : Hid (Calls Try.prog 34 #[.pointer (some ⟨w.heap.size, 0, none⟩), .agg #[.int .i64 wh, .int .i64 kd, .int .i64 a, .int .i64 b', .slice bo bytes.length bc, .slice ko keep.length kc]] w3 fun e w' => e = .returned (.bool true) ∧ ∃ st' b2, LInv w w' (k + 1) st' b2) := by
        refine (both_step w3 w.heap.size w.heap.size (2 * k) st b T3 (Nat.le_refl _) hB3 (by omega) _ hO3 ha).mono ?_
        rintro e w' ⟨rfl, st', hT, hkk⟩
        exact ⟨rfl, st', b, hT, hID, by omega, by omega, (unhide HK13).trans hkk⟩
      have CW : Hid (∀ w' st' b2, LInv w w' (k + 1) st' b2 → Calls Try.prog 35 #[.pointer (some ⟨w.heap.size + 1, 0, none⟩)] w' fun e w'' => e = .returned (.bool true) ∧ LInv w w'' (k + 1) st' b2) := fun w' st' b2 J => by
        have hmul2 : 599190 * (k + 1) ≤ 89756265240 := by omega
        have h := whole_any w' w.heap.size b2 J.both.book (by have := J.n; omega) (by have := J.kl; omega)
        rw [J.D] at h
        refine h.mono ?_
        rintro e w'' ⟨rfl, n, rfl⟩
        exact ⟨rfl, J.both.keep (keeps_drewN _ n), J.D, J.n, J.kl, J.keeps.trans ((keeps_drewN _ n).mono (fun _ _ f => f.elim))⟩
      simp only [OpA.cells] at hw3
      have HW3 := hide hw3
      clear hc ho c0 c1 c2 c3 c4 c5 hO hO1 hO3 hw3 hb3 hk3 hK T3 I hIn hIk hID hmul
      by_cases hg : kd = 2 ∨ kd = 5 ∨ kd = 3
      · have HC := CG hg
        clear CG CT CS
        rcases hg with rfl | rfl | rfl
        all_goals
          go_wp2_with fail
          rw [← unhide HW3]
          go_wp2_with fail
          refine (unhide HC).mono ?_
          rintro e w4 ⟨rfl, st', b2, J⟩
          have HJ := hide (unhide CW w4 st' b2 J)
          clear J
          go_wp2_with fail
          refine (unhide HJ).mono ?_
          rintro e w5 ⟨rfl, J⟩
          have HJ5 := hide J
          clear J HJ
          go_wp2
          go_roundw
          case rel => exact ⟨k + 1, st', b2, by omega, by go_num, unhide HJ5⟩
          case measure => simp [intOf]; omega
      · by_cases ht : kd = 4 ∨ kd = 10 ∨ kd = 9
        · have HC := CT ht
          clear CG CT CS hg
          rcases ht with rfl | rfl | rfl
          all_goals
            go_wp2_with fail
            rw [← unhide HW3]
            go_wp2_with fail
            refine (unhide HC).mono ?_
            rintro e w4 ⟨rfl, st', b2, J⟩
            have HJ := hide (unhide CW w4 st' b2 J)
            clear J
            go_wp2_with fail
            refine (unhide HJ).mono ?_
            rintro e w5 ⟨rfl, J⟩
            have HJ5 := hide J
            clear J HJ
            go_wp2
            go_roundw
            case rel => exact ⟨k + 1, st', b2, by omega, by go_num, unhide HJ5⟩
            case measure => simp [intOf]; omega
        · have n2 : (kd == 2) = false := beq_eq_false_iff_ne.2 (fun e => hg (Or.inl e))
          have n5 : (kd == 5) = false := beq_eq_false_iff_ne.2 (fun e => hg (Or.inr (Or.inl e)))
          have n3 : (kd == 3) = false := beq_eq_false_iff_ne.2 (fun e => hg (Or.inr (Or.inr e)))
          have n4 : (kd == 4) = false := beq_eq_false_iff_ne.2 (fun e => ht (Or.inl e))
          have n10 : (kd == 10) = false := beq_eq_false_iff_ne.2 (fun e => ht (Or.inr (Or.inl e)))
          have n9 : (kd == 9) = false := beq_eq_false_iff_ne.2 (fun e => ht (Or.inr (Or.inr e)))
          have HC := CS
          clear CG CT CS hg ht
          go_wp2_with fail
          rw [← unhide HW3]
          go_wp2_with fail
          refine (unhide HC).mono ?_
          rintro e w4 ⟨rfl, st', b2, J⟩
          have HJ := hide (unhide CW w4 st' b2 J)
          clear J
          go_wp2_with fail
          refine (unhide HJ).mono ?_
          rintro e w5 ⟨rfl, J⟩
          have HJ5 := hide J
          clear J HJ
          go_wp2
          go_roundw
          case rel => exact ⟨k + 1, st', b2, by omega, by go_num, unhide HJ5⟩
          case measure => simp [intOf]; omega
    · obtain rfl : k = ops.length := by omega
      have HK := hide I.keeps
      clear I
      go_wp2
      go_ret
      exact ⟨rfl, (unhide HK).below (Nat.le_refl _) (fun _ h => h)⟩

set_option maxRecDepth 100000 in
theorem diskLists_walk (w : World) (ao : Option Addr) (len cap : Nat) (ops : List OpA) (hS : Script w (.slice ao len cap) ops) (hl : ops.length = len) (hb : len ≤ 149796) :
    Calls Try.prog 8 #[.slice ao len cap] w fun e w' => e = .returned (.bool true) ∧ Below w.heap.size w w' := diskLists_any w _ ops hS (by omega)

end Go.Proofs.Ytjmbcelkhiopeaa
