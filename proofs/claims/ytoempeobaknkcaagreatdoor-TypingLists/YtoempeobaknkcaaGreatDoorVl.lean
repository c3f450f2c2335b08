import Derived.Test.YtoempeobaknkcaaGreatDoorJyay
import Derived.BigRegion
namespace Go.Proofs.YtoempeobaknkcaaGreatDoor
open Go.RowKit Go.Maps

theorem row_cell {w : World} {B e n c : Nat} {o : Option Addr} {xs : List Value} (h : w.ownsRow B e 1 (.slice o n c) n xs) {i : Nat} (hi : i < n) : ∃ gg, o = some ⟨gg, 0, none⟩ ∧ gg < w.heap.size ∧ w.cell? ⟨gg, i, none⟩ = xs[i]? ∧ n ≤ maxLen := by
  rcases h.2 with ⟨_, h0⟩ | ⟨g, cap, cur, hv, _, hg, hnc, hcm, _⟩
  · omega
  · have hv' := hv
    simp only [Value.slice.injEq] at hv'
    obtain ⟨rfl, _, rfl⟩ := hv'
    exact ⟨g, rfl, lt_of_block hg, h.cellAt i (by omega), Nat.le_trans hnc hcm⟩
theorem row_max {w : World} {B e n c : Nat} {o : Option Addr} {xs : List Value} (h : w.ownsRow B e 1 (.slice o n c) n xs) : n ≤ maxLen := by
  rcases h.2 with ⟨_, h0⟩ | ⟨g, cap, cur, hv, _, hg, hnc, hcm, _⟩
  · unfold maxLen; omega
  · simp only [Value.slice.injEq] at hv
    obtain ⟨_, _, rfl⟩ := hv
    exact Nat.le_trans hnc hcm

set_option maxRecDepth 100000 in
set_option maxHeartbeats 8000000 in
theorem kept_v (B g : Nat) (LE LS : List Lent) (vS vE vNS vNE : Value) (w : World) (h : RoomsAt w B g LE LS vS vE vNS vNE) :
    Calls Tryz.prog 19 #[.pointer (some ⟨g, 0, none⟩)] w fun e w' => e = .returned (.bool true) ∧ Keeps (fun _ => False) w w' := by
  obtain ⟨eo, ec, rfl⟩ := (rowAt_own h.rowE).form
  obtain ⟨so, sc, rfl⟩ := (rowAt_own h.rowS).form
  obtain ⟨no, nc, rfl⟩ := (rowAt_own h.rowNE).form
  obtain ⟨mo, mc, rfl⟩ := (rowAt_own h.rowNS).form
  have hg := lt_of_block h.blk
  have c0 := (cell_of_blk h.blk 0).trans (show _ = some (Value.slice so LS.length sc) from rfl)
  have c1 := (cell_of_blk h.blk 1).trans (show _ = some (Value.slice eo LE.length ec) from rfl)
  have c2 := (cell_of_blk h.blk 2).trans (show _ = some (Value.slice mo LS.length mc) from rfl)
  have c3 := (cell_of_blk h.blk 3).trans (show _ = some (Value.slice no LE.length nc) from rfl)
  have hme : LE.length ≤ 9223372036854775807 := by have := row_max h.rowE; unfold maxLen at this; omega
  have hms : LS.length ≤ 9223372036854775807 := by have := row_max h.rowS; unfold maxLen at this; omega
  have HH := hide h
  clear h
  go_enter Tryz.func19, Tryz.ntmps19
  go_wp2_with fail
  go_loopw [3] (fun i wr => ∃ j : Nat, j ≤ LE.length ∧ i = .int .i64 (j : Int) ∧ Hid (Keeps (fun _ => False) w wr)) (fun i _ => LE.length - (intOf i).toNat)
  case atStart => exact ⟨0, Nat.zero_le _, rfl, hide (Keeps.refl _ _)⟩
  case round =>
    obtain ⟨j, hj, rfl, HK⟩ := hrel
    have d1 := ((unhide HK).cell hg id).trans c1
    by_cases hlt : j < LE.length
    · obtain ⟨p, hp⟩ : ∃ p, LE[j]? = some p := ⟨_, List.getElem?_eq_getElem hlt⟩
      obtain ⟨ge, rfl, hge, hce, _⟩ := row_cell (unhide HH).rowE hlt
      obtain ⟨gn, rfl, hgn, hcn, _⟩ := row_cell (unhide HH).rowNE hlt
      have e1 : w.cell? ⟨ge, j, none⟩ = some (.slice (some ⟨p.g, 0, none⟩) (p.n + 64) p.cap) := by rw [hce, List.getElem?_map, hp]; rfl
      have e2 : w.cell? ⟨gn, j, none⟩ = some (.int .i64 (p.n : Int)) := by rw [hcn, List.getElem?_map, hp]; rfl
      obtain ⟨hpn, cs, hcs, hmk⟩ := (unhide HH).ex p (List.mem_of_getElem? hp)
      have HMK := hide hmk
      have hpg := lt_of_block hcs
      have HCS := hide hcs
      obtain ⟨pg, pn, pc⟩ := p
      simp only at *
      have i1 : (j : Int) < (LE.length : Int) := by omega
      have i2 : (0 : Int) ≤ (j : Int) := by omega
      clear hce hcn hp hmk hcs
      go_wp2_with fail
      go_loopw [4] (fun i w2 => ∃ k : Nat, k ≤ 64 ∧ i = .int .i64 (k : Int) ∧ Hid (Keeps (fun _ => False) w w2)) (fun i _ => 64 - (intOf i).toNat)
      case atStart => exact ⟨0, Nat.zero_le _, rfl, HK⟩
      case round =>
        clear d1 HK
        rename_i wq
        obtain ⟨k, hk, rfl, HK⟩ := hrel
        by_cases hlk : k < 64
        · obtain ⟨a0, a1, a2, a3⟩ := unhide HMK k hlk
          have d1 := ((unhide HK).cell hg id).trans c1
          have d3 := ((unhide HK).cell hg id).trans c3
          have b1 := ((unhide HK).cell hge id).trans e1
          have b2 := ((unhide HK).cell hgn id).trans e2
          have x0 := ((unhide HK).cell hpg id).trans ((cell_of_blk (unhide HCS) ((pn + k) * 4)).trans a0)
          have x1 := ((unhide HK).cell hpg id).trans ((cell_of_blk (unhide HCS) ((pn + k) * 4 + 1)).trans a1)
          have x2 := ((unhide HK).cell hpg id).trans ((cell_of_blk (unhide HCS) ((pn + k) * 4 + 2)).trans a2)
          have x3 := ((unhide HK).cell hpg id).trans ((cell_of_blk (unhide HCS) ((pn + k) * 4 + 3)).trans a3)
          have i3 : (k : Int) < 64 := by omega
          have i4 : (0 : Int) ≤ (pn : Int) + (k : Int) := by omega
          have i5 : (pn : Int) + (k : Int) < (pn : Int) + 64 := by omega
          have l1 : g < wr.heap.size := Nat.lt_of_lt_of_le hg (unhide HK).size
          have l2 : ge < wr.heap.size := Nat.lt_of_lt_of_le hge (unhide HK).size
          have l3 : gn < wr.heap.size := Nat.lt_of_lt_of_le hgn (unhide HK).size
          have l4 : pg < wr.heap.size := Nat.lt_of_lt_of_le hpg (unhide HK).size
          have i6 : IntKind.i64.wrap ((pn : Int) + (k : Int)) = (pn : Int) + (k : Int) := by simp [IntKind.wrap, IntKind.signed, IntKind.bits]; omega
          go_upto_region 7 with fail
          go_cut [5] from 22 to 39 (fun a wx => ∃ q, a = .pointer (some ⟨q, 0, none⟩) ∧ wx.heap[q]? = some (.cells #[.int .i64 77, .int .i64 (k : Int), .string ⟨#[]⟩, .slice none 0 0] 57 (0, 0)) ∧ Keeps (fun _ => False) w wx)
          case first =>
            go_region
            all_goals (go_wp2_with fail; go_meet; exact ⟨_, rfl, heap_alloc_new wr (.cells #[.int .i64 77, .int .i64 (k : Int), .string ⟨#[]⟩, .slice none 0 0] 57), by first | exact ((unhide HK).alloc _).drew | exact ((unhide HK).drew).alloc _⟩)
          case rest =>
            obtain ⟨q, rfl, hq, hkq⟩ := hcut
            have y0 := (cell_of_blk hq 0).trans (show _ = some (Value.int .i64 77) from rfl)
            have y1 := (cell_of_blk hq 1).trans (show _ = some (Value.int .i64 (k : Int)) from rfl)
            have y3 := (cell_of_blk hq 3).trans (show _ = some (Value.slice none 0 0) from rfl)
            have HKQ := hide hkq
            clear d1 d3 b1 b2 x0 x1 x2 x3 a0 a1 a2 a3 l1 l2 l3 l4 i6 hkq hq
            go_wp2_with fail
            go_roundw
            case rel => exact ⟨k + 1, by omega, by go_num, HKQ⟩
            case measure => simp [intOf]; omega
        · obtain rfl : k = 64 := by omega
          go_wp2_with fail
          go_roundw
          case rel => exact ⟨j + 1, by omega, by go_num, HK⟩
          case measure => simp [intOf]; omega
    · obtain rfl : j = LE.length := by omega
      have i1 : ¬ (LE.length : Int) < (LE.length : Int) := by omega
      go_wp2_with fail
      go_loopw [6] (fun i wr => ∃ j : Nat, j ≤ LS.length ∧ i = .int .i64 (j : Int) ∧ Hid (Keeps (fun _ => False) w wr)) (fun i _ => LS.length - (intOf i).toNat)
      case atStart => exact ⟨0, Nat.zero_le _, rfl, HK⟩
      case round =>
        clear HK
        obtain ⟨j, hj, rfl, HK⟩ := hrel
        have d1 := ((unhide HK).cell hg id).trans c0
        by_cases hlt : j < LS.length
        · obtain ⟨p, hp⟩ : ∃ p, LS[j]? = some p := ⟨_, List.getElem?_eq_getElem hlt⟩
          obtain ⟨ge, rfl, hge, hce, _⟩ := row_cell (unhide HH).rowS hlt
          obtain ⟨gn, rfl, hgn, hcn, _⟩ := row_cell (unhide HH).rowNS hlt
          have e1 : w.cell? ⟨ge, j, none⟩ = some (.slice (some ⟨p.g, 0, none⟩) (p.n + 64) p.cap) := by rw [hce, List.getElem?_map, hp]; rfl
          have e2 : w.cell? ⟨gn, j, none⟩ = some (.int .i64 (p.n : Int)) := by rw [hcn, List.getElem?_map, hp]; rfl
          obtain ⟨hpn, cs, hcs, hmk⟩ := (unhide HH).st p (List.mem_of_getElem? hp)
          have HMK := hide hmk
          have hpg := lt_of_block hcs
          have HCS := hide hcs
          obtain ⟨pg, pn, pc⟩ := p
          simp only at *
          have i1 : (j : Int) < (LS.length : Int) := by omega
          have i2 : (0 : Int) ≤ (j : Int) := by omega
          clear hce hcn hp hmk hcs
          go_wp2_with fail
          go_loopw [7] (fun i w2 => ∃ k : Nat, k ≤ 64 ∧ i = .int .i64 (k : Int) ∧ Hid (Keeps (fun _ => False) w w2)) (fun i _ => 64 - (intOf i).toNat)
          case atStart => exact ⟨0, Nat.zero_le _, rfl, HK⟩
          case round =>
            clear d1 HK
            rename_i wq
            obtain ⟨k, hk, rfl, HK⟩ := hrel
            by_cases hlk : k < 64
            · obtain ⟨a0, a1, a2, a3, a4⟩ := unhide HMK k hlk
              have d1 := ((unhide HK).cell hg id).trans c0
              have d3 := ((unhide HK).cell hg id).trans c2
              have b1 := ((unhide HK).cell hge id).trans e1
              have b2 := ((unhide HK).cell hgn id).trans e2
              have x0 := ((unhide HK).cell hpg id).trans ((cell_of_blk (unhide HCS) ((pn + k) * 5)).trans a0)
              have x1 := ((unhide HK).cell hpg id).trans ((cell_of_blk (unhide HCS) ((pn + k) * 5 + 1)).trans a1)
              have x2 := ((unhide HK).cell hpg id).trans ((cell_of_blk (unhide HCS) ((pn + k) * 5 + 2)).trans a2)
              have x3 := ((unhide HK).cell hpg id).trans ((cell_of_blk (unhide HCS) ((pn + k) * 5 + 3)).trans a3)
              have x4 := ((unhide HK).cell hpg id).trans ((cell_of_blk (unhide HCS) ((pn + k) * 5 + 4)).trans a4)
              have i3 : (k : Int) < 64 := by omega
              have i4 : (0 : Int) ≤ (pn : Int) + (k : Int) := by omega
              have i5 : (pn : Int) + (k : Int) < (pn : Int) + 64 := by omega
              have l1 : g < wr.heap.size := Nat.lt_of_lt_of_le hg (unhide HK).size
              have l2 : ge < wr.heap.size := Nat.lt_of_lt_of_le hge (unhide HK).size
              have l3 : gn < wr.heap.size := Nat.lt_of_lt_of_le hgn (unhide HK).size
              have l4 : pg < wr.heap.size := Nat.lt_of_lt_of_le hpg (unhide HK).size
              have i6 : IntKind.i64.wrap ((pn : Int) + (k : Int)) = (pn : Int) + (k : Int) := by simp [IntKind.wrap, IntKind.signed, IntKind.bits]; omega
              go_upto_region 16 with fail
              go_cut [8] from 68 to 85 (fun a wx => ∃ q, a = .pointer (some ⟨q, 0, none⟩) ∧ wx.heap[q]? = some (.cells #[.int .i64 (1000 + (k : Int)), .string ⟨#[114, 111, 111, 109]⟩, .slice none 0 0, .slice none 0 0, .slice none 0 0] 53 (0, 0)) ∧ Keeps (fun _ => False) w wx)
              case first =>
                go_region
                all_goals (go_wp2_with fail; go_meet; exact ⟨_, rfl, heap_alloc_new wr (.cells #[.int .i64 (1000 + (k : Int)), .string ⟨#[114, 111, 111, 109]⟩, .slice none 0 0, .slice none 0 0, .slice none 0 0] 53), by first | exact ((unhide HK).alloc _).drew | exact ((unhide HK).drew).alloc _⟩)
              case rest =>
                obtain ⟨q, rfl, hq, hkq⟩ := hcut
                have y0 := (cell_of_blk hq 0).trans (show _ = some (Value.int .i64 (1000 + (k : Int))) from rfl)
                have y1 := (cell_of_blk hq 1).trans (show _ = some (Value.string ⟨#[114, 111, 111, 109]⟩) from rfl)
                have y2 := (cell_of_blk hq 2).trans (show _ = some (Value.slice none 0 0) from rfl)
                have y4 := (cell_of_blk hq 4).trans (show _ = some (Value.slice none 0 0) from rfl)
                have y3 := (cell_of_blk hq 3).trans (show _ = some (Value.slice none 0 0) from rfl)
                have HKQ := hide hkq
                clear d1 d3 b1 b2 x0 x1 x2 x3 x4 a0 a1 a2 a3 a4 l1 l2 l3 l4 i6 hkq hq
                go_wp2_with fail
                go_roundw
                case rel => exact ⟨k + 1, by omega, by go_num, HKQ⟩
                case measure => simp [intOf]; omega
            · obtain rfl : k = 64 := by omega
              go_wp2_with fail
              go_roundw
              case rel => exact ⟨j + 1, by omega, by go_num, HK⟩
              case measure => simp [intOf]; omega
        · obtain rfl : j = LS.length := by omega
          have i1 : ¬ (LS.length : Int) < (LS.length : Int) := by omega
          go_wp2_with fail
          go_ret
          exact ⟨rfl, unhide HK⟩
end Go.Proofs.YtoempeobaknkcaaGreatDoor
