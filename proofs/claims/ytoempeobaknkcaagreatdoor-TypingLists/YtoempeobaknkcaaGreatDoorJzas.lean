import Derived.Test.YtoempeobaknkcaaGreatDoorJzar
import Derived.BigRegion
import Derived.Test.YtoempeobaknkcaaGreatDoorJzao
import Derived.BigQuiet
import Derived.Test.YtoempeobaknkcaaGreatDoorJzan
import Derived.Test.YtoempeobaknkcaaGreatDoorRows
import Derived.Test.YtoempeobaknkcaaGreatDoorJzad
import Derived.ProofKit
import Derived.LaidLaws
import Derived.LaidMore
import Derived.LaidSub
import Derived.Lib.LaidTab
import Derived.OpenShut
import Derived.ShutString
import Derived.ChangeOld
import Derived.Deep.Slices
import Derived.Deep.Strs
import Derived.SizedLaws
import Derived.Deep.CondSized
namespace Go.Proofs.YtoempeobaknkcaaGreatDoor
open Go.RowKit Go.Maps

theorem row_cell {w : World} {B e n c : Nat} {o : Option Addr} {xs : List Value} (h : w.ownsRow B e 1 (.slice o n c) n xs) {i : Nat} (hi : i < n) : ∃ gg, o = some ⟨gg, 0, none⟩ ∧ gg < w.heap.size ∧ w.cell? ⟨gg, i, none⟩ = xs[i]? ∧ n ≤ maxLen := by
  rcases h.2 with ⟨_, h0⟩ | ⟨g, cap, cur, hv, _, hg, hnc, hcm, _⟩
  · omega
  · have hv' := hv
    simp only [Value.slice.injEq] at hv'
    obtain ⟨rfl, _, rfl⟩ := hv'
    exact ⟨g, rfl, lt_of_block hg, h.cellAt i (by omega), Nat.le_trans hnc hcm⟩
theorem row_max {w : World} {B e n c : Nat} {o : Option Addr} {xs : List Value} (h : w.ownsRow B e 1 (.slice o n c) n xs) : n ≤ maxLen := by
  rcases h.2 with ⟨_, h0⟩ | ⟨g, cap, cur, hv, _, hg, hnc, hcm, _⟩
  · unfold maxLen; omega
  · simp only [Value.slice.injEq] at hv
    obtain ⟨_, _, rfl⟩ := hv
    exact Nat.le_trans hnc hcm

set_option maxRecDepth 100000 in
set_option maxHeartbeats 8000000 in
theorem kept_v (B g : Nat) (LE LS : List Lent) (vS vE vNS vNE : Value) (w : World) (h : RoomsAt w B g LE LS vS vE vNS vNE) :
    Calls Tryz.prog 19 #[.pointer (some ⟨g, 0, none⟩)] w fun e w' => e = .returned (.bool true) ∧ Keeps (fun _ => False) w w' := by
  obtain ⟨eo, ec, rfl⟩ := (rowAt_own h.rowE).form
  obtain ⟨so, sc, rfl⟩ := (rowAt_own h.rowS).form
  obtain ⟨no, nc, rfl⟩ := (rowAt_own h.rowNE).form
  obtain ⟨mo, mc, rfl⟩ := (rowAt_own h.rowNS).form
  have hg := lt_of_block h.blk
  have c0 := (cell_of_blk h.blk 0).trans (show _ = some (Value.slice so LS.length sc) from rfl)
  have c1 := (cell_of_blk h.blk 1).trans (show _ = some (Value.slice eo LE.length ec) from rfl)
  have c2 := (cell_of_blk h.blk 2).trans (show _ = some (Value.slice mo LS.length mc) from rfl)
  have c3 := (cell_of_blk h.blk 3).trans (show _ = some (Value.slice no LE.length nc) from rfl)
  have hme : LE.length ≤ 9223372036854775807 := by have := row_max h.rowE; unfold maxLen at this; omega
  have hms : LS.length ≤ 9223372036854775807 := by have := row_max h.rowS; unfold maxLen at this; omega
  have HH := hide h
  clear h
  go_enter Tryz.func19, Tryz.ntmps19
  go_wp2_with fail
  go_loopw [3] (fun i wr => ∃ j : Nat, j ≤ LE.length ∧ i = .int .i64 (j : Int) ∧ Hid (Keeps (fun _ => False) w wr)) (fun i _ => LE.length - (intOf i).toNat)
  case atStart => exact ⟨0, Nat.zero_le _, rfl, hide (Keeps.refl _ _)⟩
  case round =>
    obtain ⟨j, hj, rfl, HK⟩ := hrel
    have d1 := ((unhide HK).cell hg id).trans c1
    by_cases hlt : j < LE.length
    · obtain ⟨p, hp⟩ : ∃ p, LE[j]? = some p := ⟨_, List.getElem?_eq_getElem hlt⟩
      obtain ⟨ge, rfl, hge, hce, _⟩ := row_cell (unhide HH).rowE hlt
      obtain ⟨gn, rfl, hgn, hcn, _⟩ := row_cell (unhide HH).rowNE hlt
      have e1 : w.cell? ⟨ge, j, none⟩ = some (.slice (some ⟨p.g, 0, none⟩) (p.n + 64) p.cap) := by rw [hce, List.getElem?_map, hp]; rfl
      have e2 : w.cell? ⟨gn, j, none⟩ = some (.int .i64 (p.n : Int)) := by rw [hcn, List.getElem?_map, hp]; rfl
      obtain ⟨hpn, cs, hcs, hmk⟩ := (unhide HH).ex p (List.mem_of_getElem? hp)
      have HMK := hide hmk
      have hpg := lt_of_block hcs
      have HCS := hide hcs
      obtain ⟨pg, pn, pc⟩ := p
      simp only at *
      have i1 : (j : Int) < (LE.length : Int) := by omega
      have i2 : (0 : Int) ≤ (j : Int) := by omega
      clear hce hcn hp hmk hcs
      go_wp2_with fail
      go_loopw [4] (fun i w2 => ∃ k : Nat, k ≤ 64 ∧ i = .int .i64 (k : Int) ∧ Hid (Keeps (fun _ => False) w w2)) (fun i _ => 64 - (intOf i).toNat)
      case atStart => exact ⟨0, Nat.zero_le _, rfl, HK⟩
      case round =>
        clear d1 HK
        rename_i wq
        obtain ⟨k, hk, rfl, HK⟩ := hrel
        by_cases hlk : k < 64
        · obtain ⟨a0, a1, a2, a3⟩ := unhide HMK k hlk
          have d1 := ((unhide HK).cell hg id).trans c1
          have d3 := ((unhide HK).cell hg id).trans c3
          have b1 := ((unhide HK).cell hge id).trans e1
          have b2 := ((unhide HK).cell hgn id).trans e2
          have x0 := ((unhide HK).cell hpg id).trans ((cell_of_blk (unhide HCS) ((pn + k) * 4)).trans a0)
          have x1 := ((unhide HK).cell hpg id).trans ((cell_of_blk (unhide HCS) ((pn + k) * 4 + 1)).trans a1)
          have x2 := ((unhide HK).cell hpg id).trans ((cell_of_blk (unhide HCS) ((pn + k) * 4 + 2)).trans a2)
          have x3 := ((unhide HK).cell hpg id).trans ((cell_of_blk (unhide HCS) ((pn + k) * 4 + 3)).trans a3)
          have i3 : (k : Int) < 64 := by omega
          have i4 : (0 : Int) ≤ (pn : Int) + (k : Int) := by omega
          have i5 : (pn : Int) + (k : Int) < (pn : Int) + 64 := by omega
          have l1 : g < wr.heap.size := Nat.lt_of_lt_of_le hg (unhide HK).size
          have l2 : ge < wr.heap.size := Nat.lt_of_lt_of_le hge (unhide HK).size
          have l3 : gn < wr.heap.size := Nat.lt_of_lt_of_le hgn (unhide HK).size
          have l4 : pg < wr.heap.size := Nat.lt_of_lt_of_le hpg (unhide HK).size
          have i6 : IntKind.i64.wrap ((pn : Int) + (k : Int)) = (pn : Int) + (k : Int) := by simp [IntKind.wrap, IntKind.signed, IntKind.bits]; omega
          go_upto_region 7 with fail
          go_cut [5] from 22 to 39 (fun a wx => ∃ q, a = .pointer (some ⟨q, 0, none⟩) ∧ wx.heap[q]? = some (.cells #[.int .i64 77, .int .i64 (k : Int), .string ⟨#[]⟩, .slice none 0 0] 57 (0, 0)) ∧ Keeps (fun _ => False) w wx)
          case first =>
            go_region
            all_goals (go_wp2_with fail; go_meet; exact ⟨_, rfl, heap_alloc_new wr (.cells #[.int .i64 77, .int .i64 (k : Int), .string ⟨#[]⟩, .slice none 0 0] 57), by first | exact ((unhide HK).alloc _).drew | exact ((unhide HK).drew).alloc _⟩)
          case rest =>
            obtain ⟨q, rfl, hq, hkq⟩ := hcut
            have y0 := (cell_of_blk hq 0).trans (show _ = some (Value.int .i64 77) from rfl)
            have y1 := (cell_of_blk hq 1).trans (show _ = some (Value.int .i64 (k : Int)) from rfl)
            have y3 := (cell_of_blk hq 3).trans (show _ = some (Value.slice none 0 0) from rfl)
            have HKQ := hide hkq
            clear d1 d3 b1 b2 x0 x1 x2 x3 a0 a1 a2 a3 l1 l2 l3 l4 i6 hkq hq
            go_wp2_with fail
            go_roundw
            case rel => exact ⟨k + 1, by omega, by go_num, HKQ⟩
            case measure => simp [intOf]; omega
        · obtain rfl : k = 64 := by omega
          go_wp2_with fail
          go_roundw
          case rel => exact ⟨j + 1, by omega, by go_num, HK⟩
          case measure => simp [intOf]; omega
    · obtain rfl : j = LE.length := by omega
      have i1 : ¬ (LE.length : Int) < (LE.length : Int) := by omega
      go_wp2_with fail
      go_loopw [6] (fun i wr => ∃ j : Nat, j ≤ LS.length ∧ i = .int .i64 (j : Int) ∧ Hid (Keeps (fun _ => False) w wr)) (fun i _ => LS.length - (intOf i).toNat)
      case atStart => exact ⟨0, Nat.zero_le _, rfl, HK⟩
      case round =>
        clear HK
        obtain ⟨j, hj, rfl, HK⟩ := hrel
        have d1 := ((unhide HK).cell hg id).trans c0
        by_cases hlt : j < LS.length
        · obtain ⟨p, hp⟩ : ∃ p, LS[j]? = some p := ⟨_, List.getElem?_eq_getElem hlt⟩
          obtain ⟨ge, rfl, hge, hce, _⟩ := row_cell (unhide HH).rowS hlt
          obtain ⟨gn, rfl, hgn, hcn, _⟩ := row_cell (unhide HH).rowNS hlt
          have e1 : w.cell? ⟨ge, j, none⟩ = some (.slice (some ⟨p.g, 0, none⟩) (p.n + 64) p.cap) := by rw [hce, List.getElem?_map, hp]; rfl
          have e2 : w.cell? ⟨gn, j, none⟩ = some (.int .i64 (p.n : Int)) := by rw [hcn, List.getElem?_map, hp]; rfl
          obtain ⟨hpn, cs, hcs, hmk⟩ := (unhide HH).st p (List.mem_of_getElem? hp)
          have HMK := hide hmk
          have hpg := lt_of_block hcs
          have HCS := hide hcs
          obtain ⟨pg, pn, pc⟩ := p
          simp only at *
          have i1 : (j : Int) < (LS.length : Int) := by omega
          have i2 : (0 : Int) ≤ (j : Int) := by omega
          clear hce hcn hp hmk hcs
          go_wp2_with fail
          go_loopw [7] (fun i w2 => ∃ k : Nat, k ≤ 64 ∧ i = .int .i64 (k : Int) ∧ Hid (Keeps (fun _ => False) w w2)) (fun i _ => 64 - (intOf i).toNat)
          case atStart => exact ⟨0, Nat.zero_le _, rfl, HK⟩
          case round =>
            clear d1 HK
            rename_i wq
            obtain ⟨k, hk, rfl, HK⟩ := hrel
            by_cases hlk : k < 64
            · obtain ⟨a0, a1, a2, a3, a4⟩ := unhide HMK k hlk
              have d1 := ((unhide HK).cell hg id).trans c0
              have d3 := ((unhide HK).cell hg id).trans c2
              have b1 := ((unhide HK).cell hge id).trans e1
              have b2 := ((unhide HK).cell hgn id).trans e2
              have x0 := ((unhide HK).cell hpg id).trans ((cell_of_blk (unhide HCS) ((pn + k) * 5)).trans a0)
              have x1 := ((unhide HK).cell hpg id).trans ((cell_of_blk (unhide HCS) ((pn + k) * 5 + 1)).trans a1)
              have x2 := ((unhide HK).cell hpg id).trans ((cell_of_blk (unhide HCS) ((pn + k) * 5 + 2)).trans a2)
              have x3 := ((unhide HK).cell hpg id).trans ((cell_of_blk (unhide HCS) ((pn + k) * 5 + 3)).trans a3)
              have x4 := ((unhide HK).cell hpg id).trans ((cell_of_blk (unhide HCS) ((pn + k) * 5 + 4)).trans a4)
              have i3 : (k : Int) < 64 := by omega
              have i4 : (0 : Int) ≤ (pn : Int) + (k : Int) := by omega
              have i5 : (pn : Int) + (k : Int) < (pn : Int) + 64 := by omega
              have l1 : g < wr.heap.size := Nat.lt_of_lt_of_le hg (unhide HK).size
              have l2 : ge < wr.heap.size := Nat.lt_of_lt_of_le hge (unhide HK).size
              have l3 : gn < wr.heap.size := Nat.lt_of_lt_of_le hgn (unhide HK).size
              have l4 : pg < wr.heap.size := Nat.lt_of_lt_of_le hpg (unhide HK).size
              have i6 : IntKind.i64.wrap ((pn : Int) + (k : Int)) = (pn : Int) + (k : Int) := by simp [IntKind.wrap, IntKind.signed, IntKind.bits]; omega
              go_upto_region 16 with fail
              go_cut [8] from 68 to 85 (fun a wx => ∃ q, a = .pointer (some ⟨q, 0, none⟩) ∧ wx.heap[q]? = some (.cells #[.int .i64 (1000 + (k : Int)), .string ⟨#[114, 111, 111, 109]⟩, .slice none 0 0, .slice none 0 0, .slice none 0 0] 53 (0, 0)) ∧ Keeps (fun _ => False) w wx)
              case first =>
                go_region
                all_goals (go_wp2_with fail; go_meet; exact ⟨_, rfl, heap_alloc_new wr (.cells #[.int .i64 (1000 + (k : Int)), .string ⟨#[114, 111, 111, 109]⟩, .slice none 0 0, .slice none 0 0, .slice none 0 0] 53), by first | exact ((unhide HK).alloc _).drew | exact ((unhide HK).drew).alloc _⟩)
              case rest =>
                obtain ⟨q, rfl, hq, hkq⟩ := hcut
                have y0 := (cell_of_blk hq 0).trans (show _ = some (Value.int .i64 (1000 + (k : Int))) from rfl)
                have y1 := (cell_of_blk hq 1).trans (show _ = some (Value.string ⟨#[114, 111, 111, 109]⟩) from rfl)
                have y2 := (cell_of_blk hq 2).trans (show _ = some (Value.slice none 0 0) from rfl)
                have y4 := (cell_of_blk hq 4).trans (show _ = some (Value.slice none 0 0) from rfl)
                have y3 := (cell_of_blk hq 3).trans (show _ = some (Value.slice none 0 0) from rfl)
                have HKQ := hide hkq
                clear d1 d3 b1 b2 x0 x1 x2 x3 x4 a0 a1 a2 a3 a4 l1 l2 l3 l4 i6 hkq hq
                go_wp2_with fail
                go_roundw
                case rel => exact ⟨k + 1, by omega, by go_num, HKQ⟩
                case measure => simp [intOf]; omega
            · obtain rfl : k = 64 := by omega
              go_wp2_with fail
              go_roundw
              case rel => exact ⟨j + 1, by omega, by go_num, HK⟩
              case measure => simp [intOf]; omega
        · obtain rfl : j = LS.length := by omega
          have i1 : ¬ (LS.length : Int) < (LS.length : Int) := by omega
          go_wp2_with fail
          go_ret
          exact ⟨rfl, unhide HK⟩
end Go.Proofs.YtoempeobaknkcaaGreatDoor
namespace Go.Proofs.YtoempeobaknkcaaGreatDoor
open Go.RowKit Go.Maps

set_option maxRecDepth 100000 in
set_option maxHeartbeats 4000000 in
theorem fieldsKept_v (S : List FieldA) (v sv : Value) (w : World) (h : FldsAt w v (S ++ roomsF 64)) (hS : FldsAt w sv S) (hn : S.length + 64 ≤ 4398046511104) :
    Calls Tryz.prog 17 #[v, .agg #[sv]] w fun e w' => e = .returned (.bool true) ∧ Keeps (fun _ => False) w w' := by
  have hlen : (S ++ roomsF 64).length = S.length + 64 := by simp [roomsF]
  obtain ⟨so, sc, rfl⟩ := RowAt.form hS
  obtain ⟨b, off, cap, rfl, hb, hc⟩ := h.cells (by omega)
  rw [hlen]
  have hm : ∀ k f, S[k]? = some f → w.cell? ⟨b, off + k * 3, none⟩ = some (str f.name) ∧ w.cell? ⟨b, off + k * 3 + 1, none⟩ = some (.int .i64 f.type) ∧ w.cell? ⟨b, off + k * 3 + 2, none⟩ = some (.bool f.opt) := fun k f hk =>
    hc k f (by rw [List.getElem?_append_left (List.getElem?_eq_some_iff.1 hk).1]; exact hk)
  have hr : ∀ k, k < 64 → w.cell? ⟨b, off + (S.length + k) * 3, none⟩ = some (.string ⟨#[114, 111, 111, 109]⟩) ∧ w.cell? ⟨b, off + (S.length + k) * 3 + 1, none⟩ = some (.int .i64 (100 + (k : Int))) := fun k hk => by
    have := hc (S.length + k) (roomF k) (by
      rw [List.getElem?_append_right (by omega), Nat.add_sub_cancel_left]
      simp [roomsF, hk])
    exact ⟨this.1, this.2.1⟩
  obtain ⟨HK0, hbs0, hbc⟩ := boxed w #[.slice so S.length sc] 24
  have s0 := hbc 0 (.slice so S.length sc) rfl
  have HM := hide hm
  have HR := hide hr
  have HS := hide hS
  have HNN := hide hn
  have HK := hide HK0
  clear hm hr hS hn hc h hlen hbc HK0
  go_enter Tryz.func17, Tryz.ntmps17
  go_wp2_with fail
  generalize w.alloc (.cells #[.slice so S.length sc] 24) = w1 at *
  go_loopw [6] (fun i wr => ∃ j : Nat, j ≤ S.length ∧ i = .int .i64 (j : Int) ∧ ∃ n, wr = w1.drewN n) (fun i _ => S.length - (intOf i).toNat)
  case atStart => exact ⟨0, Nat.zero_le _, rfl, 0, rfl⟩
  case round =>
    obtain ⟨j, hj, rfl, n, rfl⟩ := hrel
    have hnn := unhide HNN
    by_cases hlt : j < S.length
    · obtain ⟨f, hf⟩ : ∃ f, S[j]? = some f := ⟨_, List.getElem?_eq_getElem hlt⟩
      obtain ⟨b2, o2, c2, e2, hb2, hc2⟩ := (unhide HS).cells (by omega)
      simp only [Value.slice.injEq] at e2
      obtain ⟨rfl, _, rfl⟩ := e2
      obtain ⟨p0, p1, p2⟩ := unhide HM j f hf
      obtain ⟨q0, q1, q2⟩ := hc2 j f hf
      have p0 := ((unhide HK).cell hb id).trans p0
      have p1 := ((unhide HK).cell hb id).trans p1
      have p2 := ((unhide HK).cell hb id).trans p2
      have q0 := ((unhide HK).cell hb2 id).trans q0
      have q1 := ((unhide HK).cell hb2 id).trans q1
      have q2 := ((unhide HK).cell hb2 id).trans q2
      have i1 : (j : Int) < (S.length : Int) := by omega
      have i2 : (0 : Int) ≤ (j : Int) := by omega
      have i3 : (j : Int) < ((S.length + 64 : Nat) : Int) := by omega
      clear hc2 hf
      obtain ⟨fn, ft, fo⟩ := f
      simp only at *
      go_wp2_with fail
      go_quiet (fail)
      go_wp2
      go_roundw
      case rel => exact ⟨j + 1, by omega, by go_num, _, rfl⟩
      case measure => simp [intOf]; omega
    · obtain rfl : j = S.length := by omega
      have i1 : ¬ (S.length : Int) < (S.length : Int) := by omega
      go_wp2_with fail
      go_loopw [7] (fun i wr => ∃ j : Nat, j ≤ 64 ∧ i = .int .i64 (j : Int) ∧ ∃ n, wr = w1.drewN n) (fun i _ => 64 - (intOf i).toNat)
      case atStart => exact ⟨0, Nat.zero_le _, rfl, n, rfl⟩
      case round =>
        obtain ⟨j, hj, rfl, n, rfl⟩ := hrel
        by_cases hlt : j < 64
        · obtain ⟨p0, p1⟩ := unhide HR j hlt
          have p0 := ((unhide HK).cell hb id).trans p0
          have p1 := ((unhide HK).cell hb id).trans p1
          have i1 : (j : Int) < 64 := by omega
          have i2 : (0 : Int) ≤ (S.length : Int) + (j : Int) := by omega
          have i3 : (S.length : Int) + (j : Int) < ((S.length + 64 : Nat) : Int) := by omega
          go_wp2_with fail
          go_roundw
          case rel => exact ⟨j + 1, by omega, by go_num, n, rfl⟩
          case measure => simp [intOf]; omega
        · obtain rfl : j = 64 := by omega
          go_wp2_with fail
          go_ret
          exact ⟨rfl, (unhide HK).drewN _⟩
end Go.Proofs.YtoempeobaknkcaaGreatDoor
namespace Go.Proofs.YtoempeobaknkcaaGreatDoor
open Go.RowKit Go.Maps

theorem cnt_one (op n : Int) (s : Txt) (k r : EL) (x : Txt) : decide (0 < cntE (.cons op n s k r) x) = (decide ((op = 4 ∨ op = 5) ∧ s = x) || decide (0 < cntE k x) || decide (0 < cntE r x)) := by
  rw [Bool.eq_iff_iff]
  simp only [Bool.or_eq_true, decide_eq_true_eq]
  show 0 < (if (op = 4 ∨ op = 5) ∧ s = x then 1 else 0) + cntE k x + cntE r x ↔ _
  by_cases h : (op = 4 ∨ op = 5) ∧ s = x
  · rw [if_pos h]
    exact ⟨fun _ => Or.inl (Or.inl h), fun _ => by omega⟩
  · rw [if_neg h]
    refine ⟨fun h2 => ?_, fun h2 => ?_⟩
    · by_cases h3 : 0 < cntE k x
      · exact Or.inl (Or.inr h3)
      · exact Or.inr (by omega)
    · rcases h2 with (h2 | h2) | h2
      · exact absurd h2 h
      · omega
      · omega

theorem cnt_head (op n : Int) (s : Txt) (k r : EL) (x : Txt) : decide (0 < cntE (.cons op n s k r) x) = (decide (0 < cntE (.cons op n s k .nil) x) || decide (0 < cntE r x)) := by
  rw [cnt_one, cnt_one]
  have e0 : decide (0 < cntE EL.nil x) = false := by simp [cntE]
  rw [e0, Bool.or_false]

set_option maxRecDepth 100000 in
set_option maxHeartbeats 4000000 in
theorem names_v (Z : Zone) (x : Txt) (N : Nat) : ∀ (kids : EL), kids.size < N → kids.size ≤ 4294967294 → ∀ (op n : Int) (s : Txt) (w : World) (up : Nat) (v : Value), SlE Z w up v kids →
    Calls Tryz.prog 44 #[exV op n s v, str x] w fun e w' => e = .returned (.bool (decide (0 < cntE (.cons op n s kids .nil) x))) ∧ Keeps (fun _ => False) w w' := by
  induction N with
  | zero => intro l h; omega
  | succ N ih =>
    intro l hsz hlen' op n s w up v hS
    have hlen : l.len ≤ 4294967294 := by have := EL.len_le l; omega
    obtain ⟨ao, cap, b, off, rfl, hcap, ha, hx⟩ := hS.open
    obtain ⟨HB, hxb, hxc⟩ := boxedT w #[.int .i64 op, .int .i64 n, str s, .slice ao l.len cap] 57
    have c0 := hxc 0 (.int .i64 op) rfl
    have c2 := hxc 2 (str s) rfl
    have c3 := hxc 3 (.slice ao l.len cap) rfl
    have IH := hide ih
    have HX := hide hx
    have HA := hide ha
    clear hS ih hx ha hxc
    rw [cnt_one]
    by_cases hh : (op = 4 ∨ op = 5) ∧ s = x
    · rw [decide_eq_true hh, Bool.true_or, Bool.true_or]
      obtain ⟨ho, rfl⟩ := hh
      rcases ho with rfl | rfl
      all_goals
        go_enter Tryz.func44, Tryz.ntmps44
        go_wp2_with fail
        go_ret
        exact ⟨rfl, unhide HB⟩
    · rw [decide_eq_false hh, Bool.false_or]
      have e0 : decide (0 < cntE EL.nil x) = false := by simp [cntE]
      rw [e0, Bool.or_false]
      have HH := hide hh
      by_cases ho : op = 4 ∨ op = 5
      · have hs : (s == x) = false := by
          simp only [beq_eq_false_iff_ne, ne_eq]
          exact fun e => hh ⟨ho, e⟩
        clear hh
        rcases ho with rfl | rfl
        · go_enter Tryz.func44, Tryz.ntmps44
          go_wp2_with fail
          go_loopw [5] (fun i wr => ∃ (rest : EL) (k : Nat), i = .int .i64 k ∧ k + rest.len = l.len ∧ rest.size ≤ l.size ∧ Hid (decide (0 < cntE rest x) = decide (0 < cntE l x)) ∧ Keeps (fun _ => False) (w.alloc (.cells #[.int .i64 4, .int .i64 n, str s, .slice ao l.len cap] 57)) wr ∧ ExIn Z wr rest b (off + k * 4)) (fun i _ => l.len - (intOf i).toNat)
          case atStart => exact ⟨l, 0, rfl, by omega, Nat.le_refl _, rfl, Keeps.refl _ _, by simpa using (unhide HX).keepF (unhide HB)⟩
          case round =>
            obtain ⟨rest, k, rfl, hkl, hrs, HWE, hkeep, hr⟩ := hrel
            have q3 := (hkeep.cell (o := 3) hxb id).trans c3
            have HK := hide hkeep
            clear hkeep
            cases rest with
            | nil =>
              simp only [EL.len, EL.size] at hkl hrs
              clear hr
              have i1 : ¬ (k : Int) < (l.len : Int) := by omega
              go_wp2_with fail
              go_ret
              exact ⟨ret_bool (by rw [← unhide HWE]; simp [cntE]), (unhide HB).trans (unhide HK)⟩
            | cons op' n' s' kids rest =>
              obtain ⟨h1, h2, h3, h4, h5, ⟨kao, kcap, h6, h7, h8⟩, h9⟩ := hr
              simp only [EL.len, EL.size] at hkl hrs
              obtain ⟨rfl, hp⟩ := (unhide HA) (by omega)
              have HKID : Hid (SlE Z wr b (.slice kao kids.len kcap) kids) := ⟨kao, kcap, rfl, h7, h8⟩
              have HR := hide h9
              have i1 : (k : Int) < (l.len : Int) := by omega
              have i0 : (0 : Int) ≤ (k : Int) := by omega
              have HKD := hide (unhide IH kids (by omega) (by omega) op' n' s' wr b (.slice kao kids.len kcap) (unhide HKID))
              have HWE2 := hide ((cnt_head op' n' s' kids rest x).symm.trans (unhide HWE))
              generalize decide (0 < cntE (.cons op' n' s' kids .nil) x) = r at HKD HWE2
              clear h2 h8 h9 HWE
              cases r with
              | true =>
                go_wp2_with (go_at_call 44; refine (unhide HKD).mono ?_; rintro e w1 ⟨rfl, hk1⟩; have HK1 := hide hk1; clear hk1)
                go_ret
                exact ⟨ret_bool (by rw [← unhide HWE2]; rfl), ((unhide HB).trans (unhide HK)).trans (unhide HK1)⟩
              | false =>
                go_wp2_with (go_at_call 44; refine (unhide HKD).mono ?_; rintro e w1 ⟨rfl, hk1⟩; have HK1 := hide hk1; clear hk1)
                go_roundw
                case rel =>
                  refine ⟨rest, k + 1, by go_num, by omega, by omega, by rw [← unhide HWE2]; rfl, (unhide HK).trans (unhide HK1), ?_⟩
                  rw [show off + (k + 1) * 4 = off + k * 4 + 4 by omega]
                  exact (unhide HR).keepF (unhide HK1)
                case measure => simp [intOf]; omega
        · go_enter Tryz.func44, Tryz.ntmps44
          go_wp2_with fail
          go_loopw [5] (fun i wr => ∃ (rest : EL) (k : Nat), i = .int .i64 k ∧ k + rest.len = l.len ∧ rest.size ≤ l.size ∧ Hid (decide (0 < cntE rest x) = decide (0 < cntE l x)) ∧ Keeps (fun _ => False) (w.alloc (.cells #[.int .i64 5, .int .i64 n, str s, .slice ao l.len cap] 57)) wr ∧ ExIn Z wr rest b (off + k * 4)) (fun i _ => l.len - (intOf i).toNat)
          case atStart => exact ⟨l, 0, rfl, by omega, Nat.le_refl _, rfl, Keeps.refl _ _, by simpa using (unhide HX).keepF (unhide HB)⟩
          case round =>
            obtain ⟨rest, k, rfl, hkl, hrs, HWE, hkeep, hr⟩ := hrel
            have q3 := (hkeep.cell (o := 3) hxb id).trans c3
            have HK := hide hkeep
            clear hkeep
            cases rest with
            | nil =>
              simp only [EL.len, EL.size] at hkl hrs
              clear hr
              have i1 : ¬ (k : Int) < (l.len : Int) := by omega
              go_wp2_with fail
              go_ret
              exact ⟨ret_bool (by rw [← unhide HWE]; simp [cntE]), (unhide HB).trans (unhide HK)⟩
            | cons op' n' s' kids rest =>
              obtain ⟨h1, h2, h3, h4, h5, ⟨kao, kcap, h6, h7, h8⟩, h9⟩ := hr
              simp only [EL.len, EL.size] at hkl hrs
              obtain ⟨rfl, hp⟩ := (unhide HA) (by omega)
              have HKID : Hid (SlE Z wr b (.slice kao kids.len kcap) kids) := ⟨kao, kcap, rfl, h7, h8⟩
              have HR := hide h9
              have i1 : (k : Int) < (l.len : Int) := by omega
              have i0 : (0 : Int) ≤ (k : Int) := by omega
              have HKD := hide (unhide IH kids (by omega) (by omega) op' n' s' wr b (.slice kao kids.len kcap) (unhide HKID))
              have HWE2 := hide ((cnt_head op' n' s' kids rest x).symm.trans (unhide HWE))
              generalize decide (0 < cntE (.cons op' n' s' kids .nil) x) = r at HKD HWE2
              clear h2 h8 h9 HWE
              cases r with
              | true =>
                go_wp2_with (go_at_call 44; refine (unhide HKD).mono ?_; rintro e w1 ⟨rfl, hk1⟩; have HK1 := hide hk1; clear hk1)
                go_ret
                exact ⟨ret_bool (by rw [← unhide HWE2]; rfl), ((unhide HB).trans (unhide HK)).trans (unhide HK1)⟩
              | false =>
                go_wp2_with (go_at_call 44; refine (unhide HKD).mono ?_; rintro e w1 ⟨rfl, hk1⟩; have HK1 := hide hk1; clear hk1)
                go_roundw
                case rel =>
                  refine ⟨rest, k + 1, by go_num, by omega, by omega, by rw [← unhide HWE2]; rfl, (unhide HK).trans (unhide HK1), ?_⟩
                  rw [show off + (k + 1) * 4 = off + k * 4 + 4 by omega]
                  exact (unhide HR).keepF (unhide HK1)
                case measure => simp [intOf]; omega
      · have o4 : (op == 4) = false := by simp; omega
        have o5 : (op == 5) = false := by simp; omega
        clear hh
        go_enter Tryz.func44, Tryz.ntmps44
        go_wp2_with fail
        go_loopw [5] (fun i wr => ∃ (rest : EL) (k : Nat), i = .int .i64 k ∧ k + rest.len = l.len ∧ rest.size ≤ l.size ∧ Hid (decide (0 < cntE rest x) = decide (0 < cntE l x)) ∧ Keeps (fun _ => False) (w.alloc (.cells #[.int .i64 op, .int .i64 n, str s, .slice ao l.len cap] 57)) wr ∧ ExIn Z wr rest b (off + k * 4)) (fun i _ => l.len - (intOf i).toNat)
        case atStart => exact ⟨l, 0, rfl, by omega, Nat.le_refl _, rfl, Keeps.refl _ _, by simpa using (unhide HX).keepF (unhide HB)⟩
        case round =>
          obtain ⟨rest, k, rfl, hkl, hrs, HWE, hkeep, hr⟩ := hrel
          have q3 := (hkeep.cell (o := 3) hxb id).trans c3
          have HK := hide hkeep
          clear hkeep
          cases rest with
          | nil =>
            simp only [EL.len, EL.size] at hkl hrs
            clear hr
            have i1 : ¬ (k : Int) < (l.len : Int) := by omega
            go_wp2_with fail
            go_ret
            exact ⟨ret_bool (by rw [← unhide HWE]; simp [cntE]), (unhide HB).trans (unhide HK)⟩
          | cons op' n' s' kids rest =>
            obtain ⟨h1, h2, h3, h4, h5, ⟨kao, kcap, h6, h7, h8⟩, h9⟩ := hr
            simp only [EL.len, EL.size] at hkl hrs
            obtain ⟨rfl, hp⟩ := (unhide HA) (by omega)
            have HKID : Hid (SlE Z wr b (.slice kao kids.len kcap) kids) := ⟨kao, kcap, rfl, h7, h8⟩
            have HR := hide h9
            have i1 : (k : Int) < (l.len : Int) := by omega
            have i0 : (0 : Int) ≤ (k : Int) := by omega
            have HKD := hide (unhide IH kids (by omega) (by omega) op' n' s' wr b (.slice kao kids.len kcap) (unhide HKID))
            have HWE2 := hide ((cnt_head op' n' s' kids rest x).symm.trans (unhide HWE))
            generalize decide (0 < cntE (.cons op' n' s' kids .nil) x) = r at HKD HWE2
            clear h2 h8 h9 HWE
            cases r with
            | true =>
              go_wp2_with (go_at_call 44; refine (unhide HKD).mono ?_; rintro e w1 ⟨rfl, hk1⟩; have HK1 := hide hk1; clear hk1)
              go_ret
              exact ⟨ret_bool (by rw [← unhide HWE2]; rfl), ((unhide HB).trans (unhide HK)).trans (unhide HK1)⟩
            | false =>
              go_wp2_with (go_at_call 44; refine (unhide HKD).mono ?_; rintro e w1 ⟨rfl, hk1⟩; have HK1 := hide hk1; clear hk1)
              go_roundw
              case rel =>
                refine ⟨rest, k + 1, by go_num, by omega, by omega, by rw [← unhide HWE2]; rfl, (unhide HK).trans (unhide HK1), ?_⟩
                rw [show off + (k + 1) * 4 = off + k * 4 + 4 by omega]
                exact (unhide HR).keepF (unhide HK1)
              case measure => simp [intOf]; omega
end Go.Proofs.YtoempeobaknkcaaGreatDoor
namespace Go.Proofs.YtoempeobaknkcaaGreatDoor
open Go.ChangeShapes Go.WideShapes Go.ChangeAt Go.RowKit Go.Deep

theorem Tryz.cells57 : Tryz.prog.cellsOf 57 = 4 := by kernel_rfl
theorem Tryz.cells53 : Tryz.prog.cellsOf 53 = 5 := by kernel_rfl
theorem e2 : Tryz.prog.cellsOf 2 = 1 := by kernel_rfl
theorem e3 : Tryz.prog.cellsOf 3 = 1 := by kernel_rfl
theorem e9 : Tryz.prog.cellsOf 9 = 1 := by kernel_rfl
theorem e22 : Tryz.prog.cellsOf 25 = 1 := by kernel_rfl
theorem e23 : Tryz.prog.cellsOf 51 = 1 := by kernel_rfl
theorem str_of (s : ByteArray) : Value.string s = str s.data.toList := by cases s; simp

section
variable {H : Type} {enc : TypeId × Value → H} {W : World}
set_option maxRecDepth 100000 in
/-- What is read of an expression. -/
theorem expr_read {fuel : Nat} {cs : List Value} {x : DataW H × List MemPlace} (h : DataW.trod enc Tryz.prog W 0 (fun _ => true) true fuel 57 cs = some x) :
    ∃ (op n : Int) (s : Txt) (kv : Value) (m : Nat) (y : DataW H × List MemPlace), fuel = m + 1 ∧ cs = [.int .i64 op, .int .i64 n, str s, kv] ∧ DataW.trod enc Tryz.prog W 0 (fun _ => true) true m 51 [kv] = some y := by
  obtain ⟨xs, m, hm, _, hl, hlen, hf⟩ := DataW.trod_struct Tryz.underlying57 h
  have hl' : cs.length = 4 := hl.trans Tryz.cells57
  match xs, hlen, cs, hl' with
  | [y0, y1, y2, y3], _, [c0, c1, c2, c3], _ =>
    have h0 : DataW.trod enc Tryz.prog W 0 (fun _ => true) true m 3 (([c0, c1, c2, c3].drop 0).take (Tryz.prog.cellsOf 3)) = some y0 := hf 0 _ rfl
    have h1 : DataW.trod enc Tryz.prog W 0 (fun _ => true) true m 2 (([c0, c1, c2, c3].drop 1).take (Tryz.prog.cellsOf 2)) = some y1 := hf 1 _ rfl
    have h2 : DataW.trod enc Tryz.prog W 0 (fun _ => true) true m 9 (([c0, c1, c2, c3].drop 2).take (Tryz.prog.cellsOf 9)) = some y2 := hf 2 _ rfl
    have h3 : DataW.trod enc Tryz.prog W 0 (fun _ => true) true m 51 (([c0, c1, c2, c3].drop 3).take (Tryz.prog.cellsOf 51)) = some y3 := hf 3 _ rfl
    rw [e3] at h0
    rw [e2] at h1
    rw [e9] at h2
    rw [e23] at h3
    simp only [List.drop_zero, List.take_succ_cons, List.take_zero, List.drop_succ_cons] at h0 h1 h2 h3
    obtain ⟨k, q0, _, _⟩ := DataW.trod_int Tryz.underlying3 h0
    obtain ⟨i, q1, _, _⟩ := DataW.trod_int Tryz.underlying2 h1
    obtain ⟨s, q2, _, _⟩ := DataW.trod_string Tryz.underlying9 h2
    simp at q0 q1 q2
    exact ⟨k, i, s.data.toList, c3, m, y3, hm, by rw [q0, q1, q2, str_of], h3⟩
set_option maxRecDepth 100000 in
theorem stmt_read {fuel : Nat} {cs : List Value} {x : DataW H × List MemPlace} (h : DataW.trod enc Tryz.prog W 0 (fun _ => true) true fuel 53 cs = some x) :
    ∃ (op : Int) (f : Txt) (xv tv ev : Value) (m : Nat) (y z u : DataW H × List MemPlace), fuel = m + 1 ∧ cs = [.int .i64 op, str f, xv, tv, ev] ∧ DataW.trod enc Tryz.prog W 0 (fun _ => true) true m 51 [xv] = some y ∧ DataW.trod enc Tryz.prog W 0 (fun _ => true) true m 25 [tv] = some z ∧ DataW.trod enc Tryz.prog W 0 (fun _ => true) true m 25 [ev] = some u := by
  obtain ⟨xs, m, hm, _, hl, hlen, hf⟩ := DataW.trod_struct Tryz.underlying53 h
  have hl' : cs.length = 5 := hl.trans Tryz.cells53
  match xs, hlen, cs, hl' with
  | [y0, y1, y2, y3, y4], _, [c0, c1, c2, c3, c4], _ =>
    have h0 : DataW.trod enc Tryz.prog W 0 (fun _ => true) true m 3 (([c0, c1, c2, c3, c4].drop 0).take (Tryz.prog.cellsOf 3)) = some y0 := hf 0 _ rfl
    have h1 : DataW.trod enc Tryz.prog W 0 (fun _ => true) true m 9 (([c0, c1, c2, c3, c4].drop 1).take (Tryz.prog.cellsOf 9)) = some y1 := hf 1 _ rfl
    have h2 : DataW.trod enc Tryz.prog W 0 (fun _ => true) true m 51 (([c0, c1, c2, c3, c4].drop 2).take (Tryz.prog.cellsOf 51)) = some y2 := hf 2 _ rfl
    have h3 : DataW.trod enc Tryz.prog W 0 (fun _ => true) true m 25 (([c0, c1, c2, c3, c4].drop 3).take (Tryz.prog.cellsOf 25)) = some y3 := hf 3 _ rfl
    have h4 : DataW.trod enc Tryz.prog W 0 (fun _ => true) true m 25 (([c0, c1, c2, c3, c4].drop 4).take (Tryz.prog.cellsOf 25)) = some y4 := hf 4 _ rfl
    rw [e3] at h0
    rw [e9] at h1
    rw [e23] at h2
    rw [e22] at h3
    rw [e22] at h4
    simp only [List.drop_zero, List.take_succ_cons, List.take_zero, List.drop_succ_cons] at h0 h1 h2 h3 h4
    obtain ⟨k, q0, _, _⟩ := DataW.trod_int Tryz.underlying3 h0
    obtain ⟨s, q1, _, _⟩ := DataW.trod_string Tryz.underlying9 h1
    simp at q0 q1
    exact ⟨k, s.data.toList, c2, c3, c4, m, y2, y3, y4, hm, by rw [q0, q1, str_of], h2, h3, h4⟩

/-- A slice, opened element by element. -/
theorem slice_read {fuel : Nat} {t e sz : Nat} (ht : Tryz.prog.underlying t = some (.slice e)) (hsz : Tryz.prog.cellsOf e = sz) (h0 : 0 < sz) {c : Value} {x : DataW H × List MemPlace} (h : DataW.trod enc Tryz.prog W 0 (fun _ => true) true fuel t [c] = some x) :
    c = .slice none 0 0 ∨ ∃ (b off len cap n : Nat) (spot : _), c = .slice (some ⟨b, off, spot⟩) len cap ∧ len ≤ cap ∧ fuel = n + 1 ∧ ∀ i, i < len → spot = none ∧ b < W.heap.size ∧ ∃ cs y, (∀ j v, cs[j]? = some v → W.cell? ⟨b, off + i * sz + j, none⟩ = some v) ∧ DataW.trod enc Tryz.prog W 0 (fun _ => true) true n e cs = some y ∧ cs.length = sz := by
  rcases DataW.trod_slice ht h with ⟨hcs, _⟩ | ⟨a, len, cap, elems, rest, n, hn, hcs, _, _, hl, _, hlen, hel, _, _⟩
  · simp at hcs
    exact Or.inl hcs
  · simp at hcs
    subst hcs
    obtain ⟨b, off, spot⟩ := a
    have cell : ∀ i, i < len → ∃ cs y, W.cells? 0 (Addr.add ⟨b, off, spot⟩ (i * sz)) sz = some cs ∧ DataW.trod enc Tryz.prog W 0 (fun _ => true) true n e cs = some y := fun i hi => by
      have hi' := hel i hi
      rw [hsz] at hi'
      obtain ⟨y, hy⟩ : ∃ y, elems[i]? = some y := ⟨_, List.getElem?_eq_getElem (by omega)⟩
      rw [hy] at hi'
      cases hcells : W.cells? 0 (Addr.add ⟨b, off, spot⟩ (i * sz)) sz with
      | none => rw [hcells] at hi'; cases hi'
      | some cs =>
        rw [hcells] at hi'
        exact ⟨cs, y, rfl, hi'⟩
    have hspot : 0 < len → spot = none := fun h1 => by
      obtain ⟨cs, y, hcs, _⟩ := cell 0 h1
      obtain ⟨_, hcl, hcc⟩ := World.cells?_some hcs
      have hc0 := hcc 0 h0
      obtain ⟨v0, hv0⟩ : ∃ v, cs[0]? = some v := ⟨_, List.getElem?_eq_getElem (by omega)⟩
      rw [hv0] at hc0
      have := World.cell?_spot hc0
      simpa [Addr.add] using this
    refine Or.inr ⟨b, off, len, cap, n, spot, rfl, hl, hn, fun i hi => ?_⟩
    obtain rfl := hspot (by omega)
    obtain ⟨cs, y, hcs, hy⟩ := cell i hi
    obtain ⟨_, hcl, hcc⟩ := World.cells?_some hcs
    simp only [Addr.add_lit] at hcc
    have hat : ∀ j v, cs[j]? = some v → W.cell? ⟨b, off + i * sz + j, none⟩ = some v := fun j v hv => by
      have hj := (List.getElem?_eq_some_iff.1 hv).1
      have := hcc j (by omega)
      rw [hv] at this
      exact this
    obtain ⟨v0, hv0⟩ : ∃ v, cs[0]? = some v := ⟨_, List.getElem?_eq_getElem (by omega)⟩
    exact ⟨rfl, World.block_lt_of_cell? W _ (hat 0 v0 hv0), cs, y, hat, hy, hcl⟩

/-- The expressions that came in. -/
theorem exprs_in (F : Nat) : ∀ (fuel : Nat) (c : Value) (x : DataW H × List MemPlace), fuel < F → DataW.trod enc Tryz.prog W 0 (fun _ => true) true fuel 51 [c] = some x → ∃ l : EL, ∀ up, SlE (argZ W.heap.size) W up c l := by
  induction F with
  | zero => intro fuel c x h; omega
  | succ F ih =>
    intro fuel c x hF h
    rcases slice_read Tryz.underlying51 Tryz.cells57 (by omega) h with rfl | ⟨b, off, len, cap, n, spot, rfl, hl, hn, hel⟩
    · exact ⟨.nil, fun up => ⟨none, 0, rfl, Nat.le_refl _, fun h => absurd rfl h⟩⟩
    · have key : ∀ k i, i + k = len → ∃ l : EL, l.len = k ∧ ExIn (argZ W.heap.size) W l b (off + i * 4) := by
        intro k
        induction k with
        | zero => exact fun i _ => ⟨.nil, rfl, trivial⟩
        | succ k ihk =>
          intro i hi
          obtain ⟨r, hr1, hr2⟩ := ihk (i + 1) (by omega)
          obtain ⟨_, hb, cs, y, hc, ht, _⟩ := hel i (by omega)
          obtain ⟨op, nn, s, kv, m, z, hm, rfl, hk⟩ := expr_read ht
          obtain ⟨kids, hkids⟩ := ih m kv z (by omega) hk
          obtain ⟨ao, kc, rfl, hkc, hkx⟩ := hkids b
          refine ⟨.cons op nn s kids r, by simp [EL.len, hr1], hb, hb, hc 0 _ rfl, hc 1 _ rfl, hc 2 _ rfl, ⟨ao, kc, hc 3 _ rfl, hkc, hkx⟩, ?_⟩
          rw [show off + i * 4 + 4 = off + (i + 1) * 4 by omega]
          exact hr2
      obtain ⟨l, hl1, hl2⟩ := key len 0 (by omega)
      subst hl1
      refine ⟨l, fun up => ⟨_, cap, rfl, hl, fun h0 => ?_⟩⟩
      obtain ⟨rfl, _⟩ := hel 0 (by omega)
      exact ⟨b, off, rfl, trivial, by simpa using hl2⟩
theorem stmts_in (F : Nat) : ∀ (fuel : Nat) (c : Value) (x : DataW H × List MemPlace), fuel < F → DataW.trod enc Tryz.prog W 0 (fun _ => true) true fuel 25 [c] = some x → ∃ l : SL, ∀ up, SlS (argZ W.heap.size) W up c l := by
  induction F with
  | zero => intro fuel c x h; omega
  | succ F ih =>
    intro fuel c x hF h
    rcases slice_read Tryz.underlying25 Tryz.cells53 (by omega) h with rfl | ⟨b, off, len, cap, n, spot, rfl, hl, hn, hel⟩
    · exact ⟨.nil, fun up => ⟨none, 0, rfl, Nat.le_refl _, fun h => absurd rfl h⟩⟩
    · have key : ∀ k i, i + k = len → ∃ l : SL, l.len = k ∧ StIn (argZ W.heap.size) W l b (off + i * 5) := by
        intro k
        induction k with
        | zero => exact fun i _ => ⟨.nil, rfl, trivial⟩
        | succ k ihk =>
          intro i hi
          obtain ⟨r, hr1, hr2⟩ := ihk (i + 1) (by omega)
          obtain ⟨_, hb, cs, y, hc, ht, _⟩ := hel i (by omega)
          obtain ⟨op, f, xv, tv, ev, m, z1, z2, z3, hm, rfl, hk1, hk2, hk3⟩ := stmt_read ht
          obtain ⟨ex, hex⟩ := exprs_in (m + 1) m xv z1 (by omega) hk1
          obtain ⟨th, hth⟩ := ih m tv z2 (by omega) hk2
          obtain ⟨el, hel'⟩ := ih m ev z3 (by omega) hk3
          obtain ⟨ao, kc, rfl, hkc, hkx⟩ := hth b
          obtain ⟨ao2, kc2, rfl, hkc2, hkx2⟩ := hel' b
          refine ⟨.cons op f ex th el r, by simp [SL.len, hr1], hb, hb, hc 0 _ rfl, hc 1 _ rfl, ⟨xv, hc 2 _ rfl, hex b⟩, ⟨ao, kc, hc 3 _ rfl, hkc, hkx⟩, ⟨ao2, kc2, hc 4 _ rfl, hkc2, hkx2⟩, ?_⟩
          rw [show off + i * 5 + 5 = off + (i + 1) * 5 by omega]
          exact hr2
      obtain ⟨l, hl1, hl2⟩ := key len 0 (by omega)
      subst hl1
      refine ⟨l, fun up => ⟨_, cap, rfl, hl, fun h0 => ?_⟩⟩
      obtain ⟨rfl, _⟩ := hel 0 (by omega)
      exact ⟨b, off, rfl, trivial, by simpa using hl2⟩
end
end Go.Proofs.YtoempeobaknkcaaGreatDoor
