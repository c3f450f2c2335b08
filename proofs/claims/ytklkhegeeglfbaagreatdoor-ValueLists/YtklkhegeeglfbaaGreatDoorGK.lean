import Derived.Test.YtklkhegeeglfbaaGreatDoorJzai
namespace Go.Proofs.YtklkhegeeglfbaaGreatDoor
open Go.RowKit Go.Maps

/-- A pair of heads, and the list that both tell. -/
theorem PairsZ.at {K : Kind} {w : World} {B : Nat} {its L : List Rowp} {hs gs : List Value} (h : PairsZ K its hs gs) (hS : Sack w B L) (hs' : ∀ p ∈ its, p ∈ L) {i : Nat} (hi : i < hs.length) :
    ∃ (x y : Value) (l : List K.α), hs[i]? = some x ∧ gs[i]? = some y ∧ l.length ≤ 1073741824 ∧ RowAt w x l.length (K.C l) ∧ RowAt w y l.length (K.C l) := by
  have hg : i < gs.length := by rw [← h.len]; exact hi
  obtain ⟨l, h0, h1, h2⟩ := h.same i _ _ (List.getElem?_eq_getElem hi) (List.getElem?_eq_getElem hg)
  exact ⟨_, _, l, List.getElem?_eq_getElem hi, List.getElem?_eq_getElem hg, h0, rowAt_own (h1.row hS hs'), rowAt_own (h2.row hS hs')⟩
theorem Keeps.toAny {a b : World} (h : Keeps (fun _ => False) a b) : Keeps (fun _ => False) a b.drew := h.drew
theorem BookAt.rowL {w : World} {B b : Nat} {a : BookA} {E its : List Rowp} (h : BookAt w B b a E its) {p : Rowp} (hp : p ∈ a.rows) : w.ownsRow B p.e p.z p.vx p.n p.X := (h.sack.all p (List.mem_append_left _ hp)).x

set_option maxRecDepth 100000 in
set_option maxHeartbeats 8000000 in
/-- Book.whole: every list and its copy are the same. -/
theorem book_whole (w : World) (B b : Nat) (a : BookA) (E its : List Rowp) (hA : BookAt w B b a E its) (hL : a.L.hs.length ≤ 1073741824) (hB : a.B.hs.length ≤ 1073741824) (hF : a.F.hs.length ≤ 1073741824) :
    Calls Tryz.prog 26 #[.pointer (some ⟨b, 0, none⟩)] w fun e w' => e = .returned (.bool true) ∧ Keeps (fun _ => False) w w' := by
  have hb := lt_of_block hA.box
  have oL := hA.rowL (p := a.L.row 23) (by unfold BookA.rows; simp)
  have oW := hA.rowL (p := a.W.row 23) (by unfold BookA.rows; simp)
  have nL : a.L.hs.length = a.W.hs.length := hA.pL.len
  obtain ⟨aL, cL, eL⟩ := (rowAt_own oL).form
  obtain ⟨aW, cW, eW⟩ := (rowAt_own oW).form
  have qL := cell_of_blk hA.box 0
  have qW := cell_of_blk hA.box 1
  have oB := hA.rowL (p := a.B.row 30) (by unfold BookA.rows; simp)
  have oV := hA.rowL (p := a.V.row 30) (by unfold BookA.rows; simp)
  have nB : a.B.hs.length = a.V.hs.length := hA.pB.len
  obtain ⟨aB, cB, eB⟩ := (rowAt_own oB).form
  obtain ⟨aV, cV, eV⟩ := (rowAt_own oV).form
  have qB := cell_of_blk hA.box 2
  have qV := cell_of_blk hA.box 3
  have oF := hA.rowL (p := a.F.row 26) (by unfold BookA.rows; simp)
  have oG := hA.rowL (p := a.G.row 26) (by unfold BookA.rows; simp)
  have nF : a.F.hs.length = a.G.hs.length := hA.pF.len
  obtain ⟨aF, cF, eF⟩ := (rowAt_own oF).form
  obtain ⟨aG, cG, eG⟩ := (rowAt_own oG).form
  have qF := cell_of_blk hA.box 4
  have qG := cell_of_blk hA.box 5
  unfold BookA.cells at qL qW qB qV qF qG
  simp only [Hd.row, solo] at eL eW eB eV eF eG
  simp [eL, eW, eB, eV, eF, eG] at qL qW qB qV qF qG
  simp only [Hd.row, solo] at oL oW oB oV oF oG
  rw [eL] at oL
  rw [eW] at oW
  have OL := hide oL
  have OW := hide oW
  rw [eB] at oB
  rw [eV] at oV
  have OB := hide oB
  have OV := hide oV
  rw [eF] at oF
  rw [eG] at oG
  have OF := hide oF
  have OG := hide oG
  have HA := hide hA
  clear hA oL oW oB oV oF oG eL eW eB eV eF eG
  go_enter Tryz.func26, Tryz.ntmps26
  go_wp2_with fail
  go_loopw [3] (fun iv wr => ∃ i : Nat, i ≤ a.L.hs.length ∧ iv = .int .i64 i ∧ Hid (Keeps (fun _ => False) w wr)) (fun iv _ => a.L.hs.length - (intOf iv).toNat)
  case atStart => exact ⟨0, Nat.zero_le _, rfl, Keeps.refl _ _⟩
  case round =>
    obtain ⟨i, hi, rfl, HK⟩ := hrel
    have rL := ((unhide HK).cell (o := 0) hb id).trans qL
    have rW := ((unhide HK).cell (o := 1) hb id).trans qW
    by_cases hlt : i < a.L.hs.length
    · obtain ⟨x, y, l, hx, hy, hl, hlx, hly⟩ := (unhide HA).pL.at (unhide HA).sack (fun p hp => List.mem_append_right _ (List.mem_append_right _ hp)) hlt
      obtain ⟨xo, xc, rfl⟩ := hlx.form
      obtain ⟨yo, yc, rfl⟩ := hly.form
      obtain ⟨g, _, ee, _, _⟩ := (unhide OL).form (by omega)
      simp at ee
      obtain ⟨rfl, rfl⟩ := ee
      obtain ⟨g2, _, ee, _, _⟩ := (unhide OW).form (by omega)
      simp at ee
      obtain ⟨rfl, rfl⟩ := ee
      have d0 := own_at (own_keepF (unhide OL) (unhide HK)) hx
      have d1 := own_at (own_keepF (unhide OW) (unhide HK)) hy
      have i1 : (i : Int) < (a.L.hs.length : Int) := by omega
      have i2 : (i : Int) < (a.W.hs.length : Int) := by omega
      have i3 : (0 : Int) ≤ (i : Int) := by omega
      have i4 : i < a.W.hs.length := by omega
      have HC := hide (fun (W : World) (hk : Keeps (fun _ => False) w W) => eqVals_same W (.slice xo l.length xc) (.slice yo l.length yc) l (show ValsAt W _ l from hlx.keepF hk) (show ValsAt W _ l from hly.keepF hk) (Nat.le_trans hl (by decide)))
      clear hlx hly hx hy
      go_wp2_with fail
      go_region_with (go_at_call 19; refine (unhide HC _ (unhide HK).drew).mono ?_; rintro e w9 ⟨rfl, hk9⟩; have HK9 := hide ((unhide HK).drew.trans hk9); clear hk9)
      all_goals
        go_wp2_with fail
        go_roundw
        case rel => exact ⟨i + 1, by omega, by go_num, HK9⟩
        case measure => simp [intOf]; omega
    · have i1 : ¬ (i : Int) < (a.L.hs.length : Int) := by omega
      go_wp2_with fail
      go_loopw [5] (fun iv wr => ∃ i : Nat, i ≤ a.B.hs.length ∧ iv = .int .i64 i ∧ Hid (Keeps (fun _ => False) w wr)) (fun iv _ => a.B.hs.length - (intOf iv).toNat)
      case atStart => exact ⟨0, Nat.zero_le _, rfl, unhide HK⟩
      case round =>
        clear HK rL rW
        obtain ⟨i, hi, rfl, HK⟩ := hrel
        have rB := ((unhide HK).cell (o := 2) hb id).trans qB
        have rV := ((unhide HK).cell (o := 3) hb id).trans qV
        by_cases hlt : i < a.B.hs.length
        · obtain ⟨x, y, l, hx, hy, hl, hlx, hly⟩ := (unhide HA).pB.at (unhide HA).sack (fun p hp => List.mem_append_right _ (List.mem_append_right _ hp)) hlt
          obtain ⟨xo, xc, rfl⟩ := hlx.form
          obtain ⟨yo, yc, rfl⟩ := hly.form
          obtain ⟨g, _, ee, _, _⟩ := (unhide OB).form (by omega)
          simp at ee
          obtain ⟨rfl, rfl⟩ := ee
          obtain ⟨g2, _, ee, _, _⟩ := (unhide OV).form (by omega)
          simp at ee
          obtain ⟨rfl, rfl⟩ := ee
          have d0 := own_at (own_keepF (unhide OB) (unhide HK)) hx
          have d1 := own_at (own_keepF (unhide OV) (unhide HK)) hy
          have i1 : (i : Int) < (a.B.hs.length : Int) := by omega
          have i2 : (i : Int) < (a.V.hs.length : Int) := by omega
          have i3 : (0 : Int) ≤ (i : Int) := by omega
          have i4 : i < a.V.hs.length := by omega
          have HC := hide (fun (W : World) (hk : Keeps (fun _ => False) w W) => eqBytes_same W (.slice xo l.length xc) (.slice yo l.length yc) l (show BytesAt W _ l from hlx.keepF hk) (show BytesAt W _ l from hly.keepF hk) (Nat.le_trans hl (by decide)))
          clear hlx hly hx hy
          go_wp2_with fail
          go_region_with (go_at_call 20; refine (unhide HC _ (unhide HK).drew).mono ?_; rintro e w9 ⟨rfl, hk9⟩; have HK9 := hide ((unhide HK).drew.trans hk9); clear hk9)
          all_goals
            go_wp2_with fail
            go_roundw
            case rel => exact ⟨i + 1, by omega, by go_num, HK9⟩
            case measure => simp [intOf]; omega
        · have i1 : ¬ (i : Int) < (a.B.hs.length : Int) := by omega
          go_wp2_with fail
          go_loopw [7] (fun iv wr => ∃ i : Nat, i ≤ a.F.hs.length ∧ iv = .int .i64 i ∧ Hid (Keeps (fun _ => False) w wr)) (fun iv _ => a.F.hs.length - (intOf iv).toNat)
          case atStart => exact ⟨0, Nat.zero_le _, rfl, unhide HK⟩
          case round =>
            clear HK rB rV
            obtain ⟨i, hi, rfl, HK⟩ := hrel
            have rF := ((unhide HK).cell (o := 4) hb id).trans qF
            have rG := ((unhide HK).cell (o := 5) hb id).trans qG
            by_cases hlt : i < a.F.hs.length
            · obtain ⟨x, y, l, hx, hy, hl, hlx, hly⟩ := (unhide HA).pF.at (unhide HA).sack (fun p hp => List.mem_append_right _ (List.mem_append_right _ hp)) hlt
              obtain ⟨xo, xc, rfl⟩ := hlx.form
              obtain ⟨yo, yc, rfl⟩ := hly.form
              obtain ⟨g, _, ee, _, _⟩ := (unhide OF).form (by omega)
              simp at ee
              obtain ⟨rfl, rfl⟩ := ee
              obtain ⟨g2, _, ee, _, _⟩ := (unhide OG).form (by omega)
              simp at ee
              obtain ⟨rfl, rfl⟩ := ee
              have d0 := own_at (own_keepF (unhide OF) (unhide HK)) hx
              have d1 := own_at (own_keepF (unhide OG) (unhide HK)) hy
              have i1 : (i : Int) < (a.F.hs.length : Int) := by omega
              have i2 : (i : Int) < (a.G.hs.length : Int) := by omega
              have i3 : (0 : Int) ≤ (i : Int) := by omega
              have i4 : i < a.G.hs.length := by omega
              have HC := hide (fun (W : World) (hk : Keeps (fun _ => False) w W) => eqSchema_same W (.slice xo l.length xc) (.slice yo l.length yc) l (show FldsAt W _ l from hlx.keepF hk) (show FldsAt W _ l from hly.keepF hk) (Nat.le_trans hl (by decide)))
              clear hlx hly hx hy
              go_wp2_with fail
              go_region_with (go_at_call 21; refine (unhide HC _ (unhide HK).drew).mono ?_; rintro e w9 ⟨rfl, hk9⟩; have HK9 := hide ((unhide HK).drew.trans hk9); clear hk9)
              all_goals
                go_wp2_with fail
                go_roundw
                case rel => exact ⟨i + 1, by omega, by go_num, HK9⟩
                case measure => simp [intOf]; omega
            · have i1 : ¬ (i : Int) < (a.F.hs.length : Int) := by omega
              go_wp2_with fail
              go_ret
              exact ⟨rfl, unhide HK⟩
end Go.Proofs.YtklkhegeeglfbaaGreatDoor
