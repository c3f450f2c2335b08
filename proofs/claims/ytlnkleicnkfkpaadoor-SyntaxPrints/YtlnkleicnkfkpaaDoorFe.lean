import Derived.Test.YtlnkleicnkfkpaaDoorFc
namespace Go.Proofs.YtlnkleicnkfkpaaDoor
open Go.RowKit Go.Maps

/-- A row of lists lent out, as it is read. -/
theorem row_lent {w : World} {B e : Nat} {v : Value} {L : List (Nat × Nat)} (h : w.ownsRow B e 1 v L.length (L.map slv)) : ∃ ao cap r, v = .slice ao L.length cap ∧ (0 < L.length → ao = some ⟨r, 0, none⟩ ∧ r < w.heap.size) ∧ ∀ i p, L[i]? = some p → w.cell? ⟨r, i, none⟩ = some (slv p) := by
  rcases h.2 with ⟨hv, hn⟩ | ⟨g, cap, cur, hv, hb, hg, h1, h2, h3, h4⟩
  · refine ⟨none, 0, 0, by rw [hn]; exact hv, fun h0 => by omega, fun i p hp => ?_⟩
    have := (List.getElem?_eq_some_iff.1 hp).1
    omega
  · refine ⟨_, cap, g, hv, fun _ => ⟨rfl, lt_of_block hg⟩, fun i p hp => ?_⟩
    rw [cell_of_blk hg]
    have hi := (List.getElem?_eq_some_iff.1 hp).1
    have hm : (L.map slv)[i]? = some (slv p) := by simp [hp]
    rw [← h4, List.getElem?_take] at hm
    split at hm
    · simpa using hm
    · cases hm

set_option maxRecDepth 100000 in
set_option maxHeartbeats 1600000 in
theorem stay_v (B g : Nat) (LE LS : List (Nat × Nat)) (vS vE : Value) (w : World) (hBh : Bh w B g LE LS vS vE) (hle : LE.length ≤ 1000000000000) (hls : LS.length ≤ 1000000000000) :
    Calls Tryd.prog 11 #[.pointer (some ⟨g, 0, none⟩)] w fun e w' => e = .returned (.bool true) ∧ Keeps (fun _ => False) w w' := by
  have hbE : ∀ p ∈ LE, p.2 ≤ 2147483647 := fun p hp => by
    obtain ⟨_, _, _, h⟩ := hBh.ex p hp
    exact h
  have hbS : ∀ p ∈ LS, p.2 ≤ 2147483647 := fun p hp => by
    obtain ⟨_, _, _, h⟩ := hBh.st p hp
    exact h
  obtain ⟨oE, cE, rE, rfl, hE1, hE2⟩ := row_lent hBh.rowE
  obtain ⟨oS, cS, rS, rfl, hS1, hS2⟩ := row_lent hBh.rowS
  have g1 := (cell_of_blk hBh.blk 1).trans (show (#[Value.slice oS LS.length cS, Value.slice oE LE.length cE] : Array Value)[1]? = some (.slice oE LE.length cE) from rfl)
  have g0 := (cell_of_blk hBh.blk 0).trans (show (#[Value.slice oS LS.length cS, Value.slice oE LE.length cE] : Array Value)[0]? = some (.slice oS LS.length cS) from rfl)
  have hgl := lt_of_block hBh.blk
  have HBH := hide hBh
  have HE1 := hide hE1
  have HE2 := hide hE2
  have HS1 := hide hS1
  have HS2 := hide hS2
  have HBE := hide hbE
  have HBS := hide hbS
  clear hBh hE1 hE2 hS1 hS2 hbE hbS
  have G0 := hide g0
  have G1 := hide g1
  clear g0 g1
  go_enter Tryd.func11, Tryd.ntmps11
  go_wp2_with fail
  go_loopw [3] (fun i wr => ∃ k : Nat, k ≤ LE.length ∧ i = .int .i64 k ∧ Keeps (fun _ => False) w wr) (fun i _ => LE.length - (intOf i).toNat)
  case atStart => exact ⟨0, Nat.zero_le _, rfl, Keeps.refl _ _⟩
  case round =>
    obtain ⟨k, hk, rfl, hkp⟩ := hrel
    have c1 := (hkp.cell (o := 1) hgl id).trans (unhide G1)
    have HK := hide hkp
    clear hkp
    by_cases hlt : k < LE.length
    · obtain ⟨p, hp⟩ : ∃ p, LE[k]? = some p := ⟨_, List.getElem?_eq_getElem hlt⟩
      obtain ⟨rfl, hrl⟩ := (unhide HE1) (by omega)
      have cr := ((unhide HK).cell (o := k) hrl id).trans ((unhide HE2) k p hp)
      have hpm := List.mem_of_getElem? hp
      have hpb := (unhide HBE) p hpm
      have HM := hide ((unhide HBH).ex p hpm)
      have HCR := hide ((unhide HE2) k p hp)
      obtain ⟨a, n⟩ := p
      unfold slv at cr HCR
      simp only at cr hpb HCR
      have i1 : (k : Int) < (LE.length : Int) := by omega
      have i0 : (0 : Int) ≤ (k : Int) := by omega
      clear hp hpm
      go_wp2_with fail
      go_loopw [4] (fun i w2 => ∃ j : Nat, n ≤ j ∧ j ≤ n + 8 ∧ i = .int .i64 j ∧ Keeps (fun _ => False) w w2) (fun i _ => n + 8 - (intOf i).toNat)
      case atStart => exact ⟨n, Nat.le_refl _, by omega, by go_num, unhide HK⟩
      case round =>
        obtain ⟨j, hj1, hj2, rfl, hkp⟩ := hrel
        clear c1 cr
        have c1 := (hkp.cell (o := 1) hgl id).trans (unhide G1)
        have cr := (hkp.cell (o := k) hrl id).trans (unhide HCR)
        have HK2 := hide hkp
        have j0 : (0 : Int) ≤ (j : Int) := by omega
        by_cases hj8 : j < n + 8
        · have j1 : (j : Int) < (n : Int) + 8 := by omega
          obtain ⟨c, hc, hm, _⟩ := unhide HM
          obtain ⟨m0, m2⟩ := hm j hj1 hj8
          have e0 := (hkp.cell (o := j * 4) (lt_of_block hc) id).trans ((cell_of_blk hc _).trans m0)
          have e2 := (hkp.cell (o := j * 4 + 2) (lt_of_block hc) id).trans ((cell_of_blk hc _).trans m2)
          simp only at e0 e2
          clear hc hm m0 m2 hkp
          go_wp2_with fail
          go_roundw
          case rel => exact ⟨j + 1, by omega, by omega, by go_num, unhide HK2⟩
          case measure => simp [intOf]; omega
        · have j1 : ¬ (j : Int) < (n : Int) + 8 := by omega
          clear hkp
          go_wp2_with fail
          go_roundw
          case rel => exact ⟨k + 1, by omega, by go_num, unhide HK2⟩
          case measure => simp [intOf]; omega
    · have i1 : ¬ (k : Int) < (LE.length : Int) := by omega
      go_wp2_with fail
      have HK0 := hide (unhide HK)
      clear c1
      go_loopw [5] (fun i wr => ∃ k : Nat, k ≤ LS.length ∧ i = .int .i64 k ∧ Keeps (fun _ => False) w wr) (fun i _ => LS.length - (intOf i).toNat)
      case atStart => exact ⟨0, Nat.zero_le _, rfl, unhide HK⟩
      case round =>
        obtain ⟨k, hk, rfl, hkp⟩ := hrel
        have c1 := (hkp.cell (o := 0) hgl id).trans (unhide G0)
        have HK := hide hkp
        clear hkp
        by_cases hlt : k < LS.length
        · obtain ⟨p, hp⟩ : ∃ p, LS[k]? = some p := ⟨_, List.getElem?_eq_getElem hlt⟩
          obtain ⟨rfl, hrl⟩ := (unhide HS1) (by omega)
          have cr := ((unhide HK).cell (o := k) hrl id).trans ((unhide HS2) k p hp)
          have hpm := List.mem_of_getElem? hp
          have hpb := (unhide HBS) p hpm
          have HM := hide ((unhide HBH).st p hpm)
          have HCR := hide ((unhide HS2) k p hp)
          obtain ⟨a, n⟩ := p
          unfold slv at cr HCR
          simp only at cr hpb HCR
          have i1 : (k : Int) < (LS.length : Int) := by omega
          have i0 : (0 : Int) ≤ (k : Int) := by omega
          clear hp hpm
          go_wp2_with fail
          go_loopw [6] (fun i w2 => ∃ j : Nat, n ≤ j ∧ j ≤ n + 8 ∧ i = .int .i64 j ∧ Keeps (fun _ => False) w w2) (fun i _ => n + 8 - (intOf i).toNat)
          case atStart => exact ⟨n, Nat.le_refl _, by omega, by go_num, unhide HK⟩
          case round =>
            obtain ⟨j, hj1, hj2, rfl, hkp⟩ := hrel
            clear c1 cr
            have c1 := (hkp.cell (o := 0) hgl id).trans (unhide G0)
            have cr := (hkp.cell (o := k) hrl id).trans (unhide HCR)
            have HK2 := hide hkp
            have j0 : (0 : Int) ≤ (j : Int) := by omega
            by_cases hj8 : j < n + 8
            · have j1 : (j : Int) < (n : Int) + 8 := by omega
              obtain ⟨c, hc, hm, _⟩ := unhide HM
              obtain ⟨m0, m2⟩ := hm j hj1 hj8
              have e0 := (hkp.cell (o := j * 5) (lt_of_block hc) id).trans ((cell_of_blk hc _).trans m0)
              have e2 := (hkp.cell (o := j * 5 + 1) (lt_of_block hc) id).trans ((cell_of_blk hc _).trans m2)
              simp only at e0 e2
              clear hc hm m0 m2 hkp
              go_wp2_with fail
              go_roundw
              case rel => exact ⟨j + 1, by omega, by omega, by go_num, unhide HK2⟩
              case measure => simp [intOf]; omega
            · have j1 : ¬ (j : Int) < (n : Int) + 8 := by omega
              clear hkp
              go_wp2_with fail
              go_roundw
              case rel => exact ⟨k + 1, by omega, by go_num, unhide HK2⟩
              case measure => simp [intOf]; omega
        · have i1 : ¬ (k : Int) < (LS.length : Int) := by omega
          go_wp2_with fail
          go_ret
          exact ⟨rfl, unhide HK⟩
end Go.Proofs.YtlnkleicnkfkpaaDoor
