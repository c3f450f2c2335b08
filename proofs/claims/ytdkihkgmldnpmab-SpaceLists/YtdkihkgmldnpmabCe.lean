import Derived.Test.YtdkihkgmldnpmabCd
import Derived.Test.YtdkihkgmldnpmabBc
namespace Go.Proofs.Ytdkihkgmldnpmab
open Go.RowKit Go.Maps

/-- A script in memory, below B. -/
structure Script (w : World) (B : Nat) (v : Value) (ops : List OpA) : Prop where
  form : ∃ ao cap, v = .slice ao ops.length cap
  cells : 0 < ops.length → ∃ b off cap, v = .slice (some ⟨b, off, none⟩) ops.length cap ∧ b < B ∧ b < w.heap.size ∧ ∀ (i : Nat) o, ops[i]? = some o →
    w.cell? ⟨b, off + i * 4, none⟩ = some (.int .i64 o.who) ∧ w.cell? ⟨b, off + i * 4 + 1, none⟩ = some (.int .i64 o.kind) ∧ w.cell? ⟨b, off + i * 4 + 2, none⟩ = some (.int .i64 o.n) ∧ w.cell? ⟨b, off + i * 4 + 3, none⟩ = some o.bv
  each : ∀ o ∈ ops, OpAt w B o ∧ o.bytes.length ≤ 140737488351232
theorem Script.kept {w w' : World} {B : Nat} {v : Value} {ops : List OpA} (h : Script w B v ops) (hk : Keeps (fun x => B ≤ x) w w') : Script w' B v ops := by
  refine ⟨h.form, fun h0 => ?_, fun o ho => ⟨(h.each o ho).1.kept hk (fun _ e => e), (h.each o ho).2⟩⟩
  obtain ⟨b, off, cap, e, h1, h2, hc⟩ := h.cells h0
  have hn : ¬ B ≤ b := by omega
  refine ⟨b, off, cap, e, h1, Nat.lt_of_lt_of_le h2 hk.size, fun i o ho => ?_⟩
  obtain ⟨c0, c1, c2, c3⟩ := hc i o ho
  exact ⟨(hk.cell h2 hn).trans c0, (hk.cell h2 hn).trans c1, (hk.cell h2 hn).trans c2, (hk.cell h2 hn).trans c3⟩

theorem trio_new (w : World) (B : Nat) (hB : B ≤ w.heap.size) : Trio (w.alloc (.cells (vcells fun _ => none) 30)) w.heap.size B (fun _ => none) :=
  ⟨heap_alloc_new w _, fun _ _ _ h => (nomatch h), fun _ _ _ _ _ _ _ h => (nomatch h), hB⟩
theorem lk_new (w : World) (B : Nat) (hB : B ≤ w.heap.size) : LK ((w.alloc (.cells (vcells fun _ => none) 30)).alloc (.cells #[.slice none 0 0, .slice none 0 0] 59)) w.heap.size B (fun _ => none) ⟨w.heap.size + 1, .slice none 0 0, .slice none 0 0, [], []⟩ (fun _ => []) (fun _ => []) := by
  have h1 : (w.alloc (.cells (vcells fun _ => none) 30)).heap.size = w.heap.size + 1 := by simp
  refine ⟨(trio_new w B hB).keep ((Keeps.refl _ _).alloc _), ⟨?_, by show B ≤ w.heap.size + 1; omega, by simpa using World.ownsRow_nil _ B 51 1, by simpa using World.ownsRow_nil _ B 37 1, rfl, by simp, ?_, ?_⟩, fun i x h => h.elim⟩
  · have := heap_alloc_new (w.alloc (.cells (vcells fun _ => none) 30)) (.cells #[.slice none 0 0, .slice none 0 0] 59)
    rw [h1] at this
    exact this
  · exact ⟨fun i p hp => by simp at hp, fun i p hp => by simp at hp, fun i j p q _ hp => by simp at hp⟩
  · exact ⟨fun i p hp => by simp at hp, fun i p hp => by simp at hp, fun i j p q _ hp => by simp at hp⟩
theorem LK.F_lo {w : World} {V B : Nat} {st : Nat → Slot} {k : Kp} {cl cb : Nat → List Int} (h : LK w V B st k cl cb) {x : Nat} (hx : k.F x) : B ≤ x := (h.k.F_at hx).1

set_option maxRecDepth 100000 in
set_option maxHeartbeats 8000000 in
theorem strewn_any (w : World) (B : Nat) (v : Value) (ops : List OpA) (hS : Script w B v ops) (hB : B ≤ w.heap.size) (hlen : ops.length ≤ 2147483647) :
    Calls Try.prog 7 #[v] w fun e w' => e = .returned (.bool true) ∧ Keeps (fun x => B ≤ x) w w' := by
  obtain ⟨ao, cap, rfl⟩ := hS.form
  have HS := hide hS
  obtain ⟨w1, hw1⟩ : ∃ w1, w1 = (w.alloc (.cells (vcells fun _ => none) 30)).alloc (.cells #[.slice none 0 0, .slice none 0 0] 59) := ⟨_, rfl⟩
  have l1 := lk_new w B hB
  rw [← hw1] at l1
  have hk1 : Keeps (fun x => B ≤ x) w w1 := by rw [hw1]; exact ((Keeps.refl _ _).alloc _).alloc _
  simp only [vcells, slotP, slotR, Option.map_none] at hw1
  have HW1 := hide hw1
  have HL1 := hide l1
  have HK1 := hide hk1
  have hsz : (ops.length : Int) ≤ 2147483647 := by omega
  clear hS hw1 l1 hk1
  go_enter Try.func7, Try.ntmps7
  go_wp2_with fail
  rw [← unhide HW1]
  go_loopw [5] (fun iv wr => ∃ (i : Nat) (st : Nat → Slot) (k : Kp) (cl cb : Nat → List Int), i ≤ ops.length ∧ iv = .int .i64 i ∧ LK wr w.heap.size B st k cl cb ∧ k.K = w.heap.size + 1 ∧ Keeps (fun x => B ≤ x) w wr) (fun iv _ => ops.length - (intOf iv).toNat)
  case atStart => exact ⟨0, _, _, _, _, Nat.zero_le _, rfl, unhide HL1, rfl, unhide HK1⟩
  case round =>
    obtain ⟨i, st, k, cl, cb, hi, rfl, hL, hKK, hKp⟩ := hrel
    have hBr : B ≤ wr.heap.size := Nat.le_trans hB hKp.size
    by_cases hlt : i < ops.length
    · obtain ⟨b, off, cap', e1, hbB, hblt, hc⟩ := ((unhide HS).kept hKp).cells (by omega)
      simp at e1
      obtain ⟨rfl, rfl⟩ := e1
      obtain ⟨o, ho⟩ : ∃ o, ops[i]? = some o := ⟨_, List.getElem?_eq_getElem hlt⟩
      have hO := (((unhide HS).kept hKp).each o (List.mem_of_getElem? ho)).1
      obtain ⟨d0, d1, d2, d3⟩ := hc i o ho
      have i1 : (i : Int) < (ops.length : Int) := by omega
      have i0 : (0 : Int) ≤ (i : Int) := by omega
      have hnb : ¬ B ≤ b := by omega
      have HC := hide (step_any wr w.heap.size B st hL.t hBr o hO)
      have HK2 := hide (fun w3 V' st' k' cl' cb' (h : LK w3 V' B st' k' cl' cb') (hk : Keeps (fun x => B ≤ x) wr w3) => keeps_any w3 V' B st' k' cl' cb' h (Nat.le_trans hBr hk.size) o (hO.kept hk (fun _ e => e)))
      obtain ⟨wh, kd, a, bv, bytes⟩ := o
      obtain ⟨bo, bc, hbv⟩ := hO.bits.form
      simp only [bs_length] at hbv d0 d1 d2 d3
      subst hbv
      simp only [OpA.cells] at HC HK2
      have HOWN : Hid (∀ x, (x = w.heap.size ∨ ∃ i, slotOwn (st i) x) → B ≤ x) := by
        rintro x (h | ⟨i, h⟩)
        · omega
        · exact (hL.t.own_lo h).1
      have HL := hide hL
      have HKp := hide hKp
      have HKK := hide hKK
      clear hc ho hO hL hKp hKK
      go_wp2_with fail
      refine (unhide HC).mono ?_
      rintro e w3 ⟨rfl, st', t3, hk3, hg3⟩
      have hkB := hk3.mono (fun x _ h => unhide HOWN x h)
      have l3 := (unhide HL).step t3 hk3 hg3
      have b0 := (hkB.cell (o := off + i * 4) hblt hnb).trans d0
      have b1 := (hkB.cell (o := off + i * 4 + 1) hblt hnb).trans d1
      have b2 := (hkB.cell (o := off + i * 4 + 2) hblt hnb).trans d2
      have b3 := (hkB.cell (o := off + i * 4 + 3) hblt hnb).trans d3
      have HC3 := hide (unhide HK2 w3 w.heap.size st' k cl cb l3 hkB)
      rw [unhide HKK] at HC3
      have HKB := hide hkB
      clear t3 hk3 hg3 l3 hkB d0 d1 d2 d3 HC HK2
      go_wp2_with fail
      refine (unhide HC3).mono ?_
      rintro e w4 ⟨rfl, k', cl', cb', l4, hk4K, hk4⟩
      have HL4 := hide l4
      have HK4 := hide ((unhide HKp).trans ((unhide HKB).trans hk4))
      have HKK4 := hide hk4K
      clear l4 hk4K hk4 HC3 b0 b1 b2 b3
      go_wp2
      go_roundw
      case rel => exact ⟨i + 1, st', k', cl', cb', by omega, by go_num, unhide HL4, unhide HKK4, unhide HK4⟩
      case measure => simp [intOf]; omega
    · obtain rfl : i = ops.length := by omega
      clear hlt hi
      have HA := hide (apart_any wr B k cl cb hL.k hBr)
      rw [hKK] at HA
      have HL := hide hL
      have HKp := hide hKp
      clear hL hKp hKK
      go_wp2_with fail
      refine (unhide HA).mono ?_
      rintro e w3 ⟨rfl, hk3⟩
      have t3 := (unhide HL).write (hk3.mono (fun x _ e => Or.inr e))
      have kp3 := (unhide HKp).trans (hk3.mono (fun x _ e => (unhide HL).F_lo e))
      have HT3 := hide t3
      have HKP3 := hide kp3
      clear t3 kp3 hk3 HA
      go_wp2_with fail
      refine (stale_any _).mono ?_
      rintro e w4 ⟨rfl, hk4⟩
      have HT4 := hide ((unhide HT3).keep hk4)
      have HKP4 := hide ((unhide HKP3).trans hk4.any)
      clear hk4
      go_wp2_with fail
      go_loopw [6, 7] (fun ok iv wr => ∃ i : Nat, i ≤ 3 ∧ ok = .bool true ∧ iv = .int .i64 i ∧ Trio wr w.heap.size B st ∧ Keeps (fun x => B ≤ x) w wr) (fun _ iv _ => 3 - (intOf iv).toNat)
      case atStart => exact ⟨0, by omega, rfl, rfl, unhide HT4, unhide HKP4⟩
      case round =>
        obtain ⟨i, hi, rfl, rfl, t, hKp⟩ := hrel
        by_cases hlt : i < 3
        · obtain ⟨pv, rv⟩ := slot_cells t i hlt
          obtain ⟨pp, hpp⟩ : ∃ pp, slotP (st i) = .pointer pp := ⟨_, rfl⟩
          obtain ⟨rp, hrp⟩ : ∃ rp, slotR (st i) = .pointer rp := ⟨_, rfl⟩
          obtain ⟨l, hl, hp⟩ := look_used' t i
          rw [hpp, hrp] at hp
          rw [hpp] at pv
          rw [hrp] at rv
          have hVlt := lt_of_block t.blk
          have i0 : (0 : Int) ≤ (i : Int) := by omega
          have i3 : (i : Int) < 3 := by omega
          have HP := hide hp
          have HT := hide t
          have HKp := hide hKp
          clear hp t hKp hpp hrp
          go_wp2_with fail
          refine (unhide HP).mono ?_
          rintro e w5 ⟨uo, uc, rfl, hk5, hc5⟩
          have rv5 := (hk5.cell (o := 3 + i) hVlt id).trans rv
          have HC5 := hide hc5
          clear hc5 hk5 HP
          go_wp2_with fail
          refine (unhide HC5).mono ?_
          rintro e w6 ⟨v2, rfl, hrow, hc2, hk6⟩
          have HE := hide (eqInts_any w6 _ v2 l l (cells_row hrow (is_length _)) hc2 (by unfold maxLen; omega))
          rw [decide_eq_true rfl] at HE
          have HT6 := hide ((unhide HT).keep hk6)
          have HK6 := hide ((unhide HKp).trans hk6.any)
          clear hrow hc2 hk6 HC5 rv5
          go_wp2_with fail
          refine (unhide HE).mono ?_
          rintro e w7 ⟨rfl, q, rfl⟩
          have HT7 := hide ((unhide HT6).keep (keeps_drewN w6 q))
          have HK7 := hide ((unhide HK6).trans (keeps_drewN w6 q).any)
          clear HE
          generalize w6.drewN q = w8 at *
          go_wp2
          go_roundw
          case rel => exact ⟨i + 1, by omega, rfl, by go_num, unhide HT7, unhide HK7⟩
          case measure => simp [intOf]; omega
        · have i3 : ¬ (i : Int) < 3 := by omega
          have HKp := hide hKp
          clear t hKp
          go_wp2
          go_ret
          exact ⟨rfl, unhide HKp⟩

end Go.Proofs.Ytdkihkgmldnpmab
