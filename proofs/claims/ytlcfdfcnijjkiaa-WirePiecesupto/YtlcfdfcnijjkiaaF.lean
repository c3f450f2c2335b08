import Derived.Test.YtlcfdfcnijjkiaaE
import Derived.Deep.RegionLaw
namespace Go.Proofs.Ytlcfdfcnijjkiaa
open Go.RowKit Go.Maps

/-- A splitter, and what it holds back. -/
structure Spl (w : World) (B sb : Nat) (rv : Value) (r : Txt) (bb : Bool) : Prop where
  box : w.heap[sb]? = some (.cells #[rv, .bool bb] 37 (0, 0))
  row : BtAt w B rv r
theorem Spl.form {w : World} {B sb : Nat} {rv : Value} {r : Txt} {bb : Bool} (h : Spl w B sb rv r bb) : ∃ ao cap, rv = .slice ao r.length cap := (rowAt_own h.row).form
theorem Spl.bytes {w : World} {B sb : Nat} {rv : Value} {r : Txt} {bb : Bool} (h : Spl w B sb rv r bb) : BytesAt w rv r := rowAt_own h.row
theorem Spl.drewN {w : World} {B sb : Nat} {rv : Value} {r : Txt} {bb : Bool} (h : Spl w B sb rv r bb) (n : Nat) : Spl (w.drewN n) B sb rv r bb :=
  ⟨by rw [(drewN_os w n).2.2.2]; exact h.box, h.row.keepF (keeps_drewN w n)⟩
theorem Spl.len {w : World} {B sb : Nat} {rv : Value} {r : Txt} {bb : Bool} (h : Spl w B sb rv r bb) (h4 : 4 ≤ r.length) : Calls Try.prog 17 #[.pointer (some ⟨sb, 0, none⟩)] w fun e w' => e = .returned (.int .i64 (lenP r : Int)) ∧ ∃ n, w' = w.drewN n := by
  obtain ⟨g, cap, rfl, _⟩ := h.row.form (by omega)
  exact length_v w sb g _ cap bb r h.box h.bytes h4
theorem apart_sb {w : World} {B sb : Nat} {rv : Value} {r : Txt} {bb : Bool} (h : Spl w B sb rv r bb) : rv.ownBlock ≠ some sb := by
  intro e
  obtain ⟨_, c, hc⟩ := own_typed h.row e
  rw [h.box] at hc
  simp at hc

theorem bs_ones (l : Txt) : ∀ u ∈ bs l, u.oneCell' = true := by
  intro u hu
  unfold bs at hu
  obtain ⟨c, _, rfl⟩ := List.mem_map.1 hu
  rfl
theorem ret_slice {a a' : Option Addr} {n n' c c' : Nat} (h1 : a = a') (h2 : n = n') (h3 : c = c') : Ending.returned (.slice a n c) = .returned (.slice a' n' c') := by rw [h1, h2, h3]
/-- What an append has laid. -/
structure LaidF (B : Nat) (r p : Txt) (w w5 : World) (rv : Value) (H g cap' : Nat) : Prop where
  own : w5.ownsRow B 5 1 (.slice (some ⟨g, 0, none⟩) (r.length + takeP r p) cap') (r.length + takeP r p) (bs r ++ bs (p.take (takeP r p)))
  grew : w.grownBy w5 rv.ownBlock
  at_ : rv.ownBlock = some g ∨ g = H
/-- What stands ahead of a step's append. -/
structure AheadF (w : World) (B sb : Nat) (rv : Value) (r p : Txt) (b off : Nat) : Prop where
  spl : Spl w B sb rv r false
  own : w.drew.ownsRow B 5 1 rv r.length (bs r)
  len : (bs (p.take (takeP r p))).length = takeP r p * 1
  news : ∀ j u, (bs (p.take (takeP r p)))[j]? = some u → w.drew.cell? ((⟨b, off, none⟩ : Addr).add j) = some u
  pos : 0 < takeP r p
  m1 : r.length + takeP r p ≤ maxLen
  m2 : (r.length + takeP r p) * 1 ≤ 140737488355328
  base : B ≤ w.drew.heap.size
theorem AheadF.mk2 {w : World} {B sb : Nat} {rv : Value} {r p : Txt} {b off cap : Nat} (hS : Spl w B sb rv r false) (hB : B ≤ w.heap.size) (hW : Waits r) (hp : BytesAt w (.slice (some ⟨b, off, none⟩) p.length cap) p) (h0 : 0 < p.length) (hr : r.length ≤ 32768) (hl : p.length ≤ 1073741824) : AheadF w B sb rv r p b off := by
  have hT : takeP r p ≤ p.length := by unfold takeP; omega
  refine ⟨hS, (hS.drewN 1).row, by rw [bs_length, List.length_take]; omega, fun j u hj => ?_, take_pos hW h0, by unfold maxLen; omega, by omega, hB⟩
  rw [bs_get] at hj
  have hjl : j < p.length := by
    rcases Nat.lt_or_ge j p.length with h | h
    · exact h
    · rw [List.getElem?_eq_none (by rw [List.length_take]; omega)] at hj
      cases hj
  obtain ⟨b', off', cap', e, _, hc⟩ := hp.cells h0
  simp at e
  obtain ⟨⟨rfl, rfl⟩, rfl⟩ := e
  rw [List.getElem?_take] at hj
  split at hj
  · cases hk : p[j]? with
    | none => rw [hk] at hj; cases hj
    | some c =>
      rw [hk] at hj
      simp at hj
      rw [Addr.add_lit, ← hj]
      exact hc j c hk
  · cases hj
theorem AheadF.goes {w w5 : World} {B sb : Nat} {rv : Value} {r p : Txt} {b off : Nat} (h : AheadF w B sb rv r p b off) (hg : w.drew.grownBy w5 rv.ownBlock) : w5.cell? ⟨sb, 0, none⟩ = some rv ∧ w5.frozen? ⟨sb, 0, none⟩ = false := by
  have hlt := lt_of_block h.spl.box
  have hb : w5.heap[sb]? = some (.cells #[rv, .bool false] 37 (0, 0)) := (hg.block sb hlt (fun e => apart_sb h.spl e.symm)).trans h.spl.box
  exact ⟨by rw [cell_of_blk hb]; rfl, frozen_of_blk hb 0⟩
theorem AheadF.ends {w w5 : World} {B sb g cap' : Nat} {rv : Value} {r p : Txt} {b off : Nat} (h : AheadF w B sb rv r p b off) (hL : LaidF B r p w.drew w5 rv w.heap.size g cap') :
    Spl (w5.setCell ⟨sb, 0, none⟩ (.slice (some ⟨g, 0, none⟩) (r.length + takeP r p) cap')) B sb (.slice (some ⟨g, 0, none⟩) (r.length + takeP r p) cap') (r ++ p.take (takeP r p)) false ∧ (rv.ownBlock = some g ∨ w.heap.size ≤ g) ∧
      Keeps (fun q => q = sb ∨ rv.ownBlock = some q) w (w5.setCell ⟨sb, 0, none⟩ (.slice (some ⟨g, 0, none⟩) (r.length + takeP r p) cap')) := by
  have hlt := lt_of_block h.spl.box
  have hb : w5.heap[sb]? = some (.cells #[rv, .bool false] 37 (0, 0)) := (hL.grew.block sb hlt (fun e => apart_sb h.spl e.symm)).trans h.spl.box
  have hlen : (r ++ p.take (takeP r p)).length = r.length + takeP r p := by
    have := h.len
    rw [bs_length] at this
    rw [List.length_append]
    omega
  refine ⟨⟨?_, ?_⟩, hL.at_.imp id (fun e => by omega), ?_⟩
  · rw [heap_setCell_at hb]
    rfl
  · unfold BtAt
    rw [hlen, bs_app]
    refine ownsRow_kept hL.own (keeps_set w5 sb 0 _) (fun q e e2 => ?_)
    subst e2
    obtain ⟨_, c, hc⟩ := own_typed hL.own e
    rw [hb] at hc
    simp at hc
  · exact Keeps.trans ((((Keeps.refl _ w).drewN 1)).grown hL.grew (fun q e _ => Or.inr e)) ((keeps_set w5 sb 0 _).mono (fun q _ e => Or.inl e))

set_option maxRecDepth 100000 in
set_option maxHeartbeats 1000000 in
/-- Of a piece what the next part lacks. -/
theorem fill_v (w : World) (B sb : Nat) (rv : Value) (r p : Txt) (b off cap : Nat) (hS : Spl w B sb rv r false) (hB : B ≤ w.heap.size) (hW : Waits r) (hp : BytesAt w (.slice (some ⟨b, off, none⟩) p.length cap) p) (h0 : 0 < p.length) (hr : r.length ≤ 32768) (hl : p.length ≤ 1073741824) :
    Calls Try.prog 13 #[.pointer (some ⟨sb, 0, none⟩), .slice (some ⟨b, off, none⟩) p.length cap] w fun e w' => ∃ g c ao', e = .returned (.slice ao' (p.drop (takeP r p)).length (cap - takeP r p)) ∧ (takeP r p < p.length → ao' = some ⟨b, off + takeP r p, none⟩) ∧
      Spl w' B sb (.slice (some ⟨g, 0, none⟩) (r.length + takeP r p) c) (r ++ p.take (takeP r p)) false ∧ (rv.ownBlock = some g ∨ w.heap.size ≤ g) ∧ Keeps (fun q => q = sb ∨ rv.ownBlock = some q) w w' := by
  obtain ⟨i1, hi, hz0, hz1, hz2⟩ := info_parts Try.info5
  obtain ⟨ao, rc, rfl⟩ := hS.form
  have p0 := cell_of_blk hS.box 0
  simp at p0
  have hT : takeP r p ≤ p.length := by unfold takeP; omega
  have hT0 := take_pos hW h0
  have hpc : p.length ≤ cap := RowAt.room hp _ _ _ rfl
  have j0 : (takeP r p : Int) ≤ (cap : Int) := by omega
  have j1 : (0 : Int) ≤ (takeP r p : Int) := by omega
  have j2 : (takeP r p : Int) ≤ (p.length : Int) := by omega
  by_cases h4 : r.length < 4
  · have i0 : ¬ (r.length : Int) ≥ 4 := by omega
    have HE1 : Hid ((4 : Int) - (r.length : Int) ≤ (p.length : Int) → (4 : Int) - (r.length : Int) = (takeP r p : Int)) := by intro _; unfold takeP wantP; rw [if_pos h4]; omega
    have HE2 : Hid ((p.length : Int) < (4 : Int) - (r.length : Int) → (p.length : Int) = (takeP r p : Int)) := by intro _; unfold takeP wantP; rw [if_pos h4]; omega
    have HA := hide (AheadF.mk2 hS hB hW hp h0 hr hl)
    clear hS hB hW hp h0 hr hl
    go_enter Try.func13, Try.ntmps13
    go_wp2_with fail
    all_goals first | rw [(unhide HE1) (by assumption)] | rw [(unhide HE2) (by assumption)]
    all_goals
      go_region_law (first
        | (refine step_append_lies _ (by rfl) _ _ _ (by rfl) B 5 i1 _ 1 1 Try.underlying27 hi hz0 hz1 hz2 rfl (by omega) (.slice ao r.length rc) r.length (bs r) (by rfl) (unhide HA).own ⟨b, off, none⟩ (takeP r p) cap (bs (p.take (takeP r p))) (by rfl) (unhide HA).len (unhide HA).news (bs_ones _) (unhide HA).pos (unhide HA).m1 (unhide HA).m2 (unhide HA).base w.heap.size (by rfl) ?_; intro g cap' w5 hown2 hgrow hat hlt2
           obtain ⟨p5, f5⟩ := (unhide HA).goes hgrow
           have HG := hide (⟨hown2, hgrow, hat⟩ : LaidF B r p w.drew w5 (.slice ao r.length rc) w.heap.size g cap')
           clear hown2 hgrow hat))
      all_goals
        go_wp2_with fail
        all_goals
          go_ret
          obtain ⟨h1, h2, h3⟩ := (unhide HA).ends (unhide HG)
          first
            | exact ⟨g, cap', _, ret_slice rfl rfl rfl, fun _ => rfl, h1, h2, h3⟩
            | exact ⟨g, cap', _, ret_slice rfl rfl rfl, fun h => by (exfalso; omega), h1, h2, h3⟩
            | exact ⟨g, cap', _, ret_slice rfl rfl (by omega), fun h => by (exfalso; omega), h1, h2, h3⟩
  · have i0 : (r.length : Int) ≥ 4 := by omega
    have HE1 : Hid ((lenP r : Int) - (r.length : Int) ≤ (p.length : Int) → (lenP r : Int) - (r.length : Int) = (takeP r p : Int)) := by intro _; have := want_lt hW; unfold takeP; unfold wantP at *; rw [if_neg h4] at *; omega
    have HE2 : Hid ((p.length : Int) < (lenP r : Int) - (r.length : Int) → (p.length : Int) = (takeP r p : Int)) := by intro _; have := want_lt hW; unfold takeP; unfold wantP at *; rw [if_neg h4] at *; omega
    have HL2 : Hid (lenP r ≤ 32768) := by
      show _ ≤ _
      rcases hW with h | ⟨_, h, _⟩ <;> omega
    have HQ := hide (hS.len (by omega))
    have HAN := hide (fun n : Nat => AheadF.mk2 (hS.drewN n) (by rw [(drewN_os w n).2.2.2]; exact hB) hW (hp.keepF (keeps_drewN w n)) h0 hr hl)
    clear hS hB hW hp h0
    go_enter Try.func13, Try.ntmps13
    go_wp2_with fail
    refine (unhide HQ).mono ?_
    rintro e w' ⟨rfl, n, rfl⟩
    have HA := hide ((unhide HAN) n)
    have hL2 := unhide HL2
    have p0 : (w.drewN n).cell? ⟨sb, 0, none⟩ = some (.slice ao r.length rc) := by simpa using p0
    have HK := hide (keeps_drewN w n)
    have HZ : Hid ((w.drewN n).heap.size = w.heap.size) := by show _ = _; rw [(drewN_os w n).2.2.2]
    clear HAN HQ
    generalize w.drewN n = W at *
    go_wp2_with fail
    all_goals first | rw [(unhide HE1) (by assumption)] | rw [(unhide HE2) (by assumption)]
    all_goals
      go_region_law (first
        | (refine step_append_lies _ (by rfl) _ _ _ (by rfl) B 5 i1 _ 1 1 Try.underlying27 hi hz0 hz1 hz2 rfl (by omega) (.slice ao r.length rc) r.length (bs r) (by rfl) (unhide HA).own ⟨b, off, none⟩ (takeP r p) cap (bs (p.take (takeP r p))) (by rfl) (unhide HA).len (unhide HA).news (bs_ones _) (unhide HA).pos (unhide HA).m1 (unhide HA).m2 (unhide HA).base W.heap.size (by rfl) ?_; intro g cap' w5 hown2 hgrow hat hlt2
           obtain ⟨p5, f5⟩ := (unhide HA).goes hgrow
           have HG := hide (⟨hown2, hgrow, hat⟩ : LaidF B r p W.drew w5 (.slice ao r.length rc) W.heap.size g cap')
           clear hown2 hgrow hat))
      all_goals
        go_wp2_with fail
        all_goals
          go_ret
          obtain ⟨h1, h2, h3⟩ := (unhide HA).ends (unhide HG)
          first
            | exact ⟨g, cap', _, ret_slice rfl rfl rfl, fun _ => rfl, h1, (by rw [← unhide HZ]; exact h2), (unhide HK).any.trans h3⟩
            | exact ⟨g, cap', _, ret_slice rfl rfl rfl, fun h => by (exfalso; omega), h1, (by rw [← unhide HZ]; exact h2), (unhide HK).any.trans h3⟩
            | exact ⟨g, cap', _, ret_slice rfl rfl (by omega), fun h => by (exfalso; omega), h1, (by rw [← unhide HZ]; exact h2), (unhide HK).any.trans h3⟩

set_option maxRecDepth 100000 in
set_option maxHeartbeats 1000000 in
/-- What comes of a step. -/
theorem next_wait (w : World) (B sb : Nat) (rv : Value) (r : Txt) (hS : Spl w B sb rv r false) (h : r.length < 4 ∨ (4 ≤ r.length ∧ ¬ (lenP r < 14 ∨ 32768 < lenP r) ∧ r.length < lenP r)) :
    Calls Try.prog 14 #[.pointer (some ⟨sb, 0, none⟩)] w fun e w' => e = .returned (.tuple #[.slice none 0 0, .bool false]) ∧ ∃ n, w' = w.drewN n := by
  obtain ⟨ao, cap, rfl⟩ := hS.form
  have p0 := cell_of_blk hS.box 0
  simp at p0
  rcases h with h | ⟨h4, hb, hl⟩
  · have i0 : (r.length : Int) < 4 := by omega
    clear hS
    go_enter Try.func14, Try.ntmps14
    go_wp2_with fail
    go_ret2
    exact ⟨rfl, 0, rfl⟩
  · have i0 : ¬ (r.length : Int) < 4 := by omega
    have i1 : ¬ (lenP r : Int) < 14 := by omega
    have i2 : ¬ (lenP r : Int) > 32768 := by omega
    have i3 : (r.length : Int) < (lenP r : Int) := by omega
    have HQ := hide (hS.len h4)
    clear hS h4 hb hl
    go_enter Try.func14, Try.ntmps14
    go_wp2_with fail
    refine (unhide HQ).mono ?_
    rintro e w' ⟨rfl, n, rfl⟩
    go_wp2_with fail
    go_ret2
    exact ⟨rfl, n, rfl⟩
set_option maxRecDepth 100000 in
set_option maxHeartbeats 1000000 in
theorem next_bad (w : World) (B sb : Nat) (rv : Value) (r : Txt) (hS : Spl w B sb rv r false) (h4 : 4 ≤ r.length) (hb : lenP r < 14 ∨ 32768 < lenP r) :
    Calls Try.prog 14 #[.pointer (some ⟨sb, 0, none⟩)] w fun e w' => e = .returned (.tuple #[.slice none 0 0, .bool false]) ∧ Spl w' B sb (.slice none 0 0) [] true ∧ Keeps (fun q => q = sb) w w' := by
  obtain ⟨ao, cap, rfl⟩ := hS.form
  have p0 := cell_of_blk hS.box 0
  have p1 := cell_of_blk hS.box 1
  have f0 := frozen_of_blk hS.box 0
  have f1 := frozen_of_blk hS.box 1
  simp at p0 p1
  have i0 : ¬ (r.length : Int) < 4 := by omega
  have HQ := hide (hS.len h4)
  have HS := hide hS
  have HB := hide hb
  clear hS hb
  go_enter Try.func14, Try.ntmps14
  go_wp2_with fail
  refine (unhide HQ).mono ?_
  rintro e w' ⟨rfl, n, rfl⟩
  have HE : Hid (Spl (((w.drewN n).setCell ⟨sb, 0, none⟩ (.slice none 0 0)).setCell ⟨sb, 1, none⟩ (.bool true)) B sb (.slice none 0 0) [] true ∧ Keeps (fun q => q = sb) w (((w.drewN n).setCell ⟨sb, 0, none⟩ (.slice none 0 0)).setCell ⟨sb, 1, none⟩ (.bool true))) := by
    have hS := (unhide HS).drewN n
    refine ⟨⟨?_, World.ownsRow_nil _ _ 5 1⟩, ((keeps_drewN w n).any.trans (keeps_set _ _ _ _)).trans (keeps_set _ _ _ _)⟩
    rw [heap_setCell_at (heap_setCell_at hS.box _) _]
    rfl
  by_cases hb1 : (lenP r : Int) < 14
  · go_wp2_with fail
    go_ret2
    exact ⟨rfl, unhide HE⟩
  · have hb2 : (lenP r : Int) > 32768 := by have := unhide HB; omega
    go_wp2_with fail
    go_ret2
    exact ⟨rfl, unhide HE⟩
set_option maxRecDepth 100000 in
set_option maxHeartbeats 1000000 in
theorem next_part (w : World) (B sb : Nat) (rv : Value) (r : Txt) (hS : Spl w B sb rv r false) (h4 : 4 ≤ r.length) (hb : ¬ (lenP r < 14 ∨ 32768 < lenP r)) (hl : r.length = lenP r) :
    Calls Try.prog 14 #[.pointer (some ⟨sb, 0, none⟩)] w fun e w' => e = .returned (.tuple #[rv, .bool true]) ∧ Spl w' B sb (.slice none 0 0) [] false ∧ Keeps (fun q => q = sb) w w' := by
  obtain ⟨ao, cap, rfl⟩ := hS.form
  have p0 := cell_of_blk hS.box 0
  have f0 := frozen_of_blk hS.box 0
  simp at p0
  have i0 : ¬ (r.length : Int) < 4 := by omega
  have i1 : ¬ (lenP r : Int) < 14 := by omega
  have i2 : ¬ (lenP r : Int) > 32768 := by omega
  have i3 : ¬ (r.length : Int) < (lenP r : Int) := by omega
  have HQ := hide (hS.len h4)
  have HS := hide hS
  clear hS hb hl
  go_enter Try.func14, Try.ntmps14
  go_wp2_with fail
  refine (unhide HQ).mono ?_
  rintro e w' ⟨rfl, n, rfl⟩
  have HE : Hid (Spl ((w.drewN n).setCell ⟨sb, 0, none⟩ (.slice none 0 0)) B sb (.slice none 0 0) [] false ∧ Keeps (fun q => q = sb) w ((w.drewN n).setCell ⟨sb, 0, none⟩ (.slice none 0 0))) := by
    have hS := (unhide HS).drewN n
    refine ⟨⟨?_, World.ownsRow_nil _ _ 5 1⟩, (keeps_drewN w n).any.trans (keeps_set _ _ _ _)⟩
    rw [heap_setCell_at hS.box _]
    rfl
  go_wp2_with fail
  go_ret2
  exact ⟨rfl, unhide HE⟩
end Go.Proofs.Ytlcfdfcnijjkiaa
