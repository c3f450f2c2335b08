import Derived.Test.YtjmbcelkhiopeaaRg
import Derived.Test.YtjmbcelkhiopeaaP
import Derived.BigQuiet
namespace Go.Proofs.Ytjmbcelkhiopeaa
open Go.RowKit Go.Maps
attribute [local go_sem ↓] Go.wp_at_zero Go.wp_at_succ

def RS.imgL (R : RS) (k : Nat) : List Int := (List.range k).flatMap (fun a => R.behindL a R.firm)
theorem imgL_succ (R : RS) (k : Nat) : R.imgL (k + 1) = R.imgL k ++ R.behindL k R.firm := by simp [RS.imgL, List.range_succ]
theorem bs_app (a b : List Int) : bs (a ++ b) = bs a ++ bs b := by simp [bs]

theorem lastL_some (log : List LW) (a : Nat) : ∀ n x, lastL log a n = some x → x ∈ log ∧ x.sec = a
  | 0, x, h => by simp [lastL] at h
  | n + 1, x, h => by
    unfold lastL at h
    split at h
    · rename_i y hy
      split at h
      · simp at h; subst h; exact ⟨List.mem_of_getElem? hy, by assumption⟩
      · exact lastL_some log a n x h
    · exact lastL_some log a n x h

theorem behindL_length {w : World} {B : Nat} {R : RS} (h : RefAt w B R) (a n : Nat) (ha : a < R.secs) : (R.behindL a n).length = R.size := by
  unfold RS.behindL
  split
  · rename_i x hx
    exact (h.each x (lastL_some _ _ _ _ hx).1).1
  · exact secB_length h a ha

set_option maxRecDepth 100000 in
set_option maxHeartbeats 2000000 in
theorem refImage_any (w : World) (B : Nat) (R : RS) (h : RefAt w B R) (hll : R.log.length ≤ 4294967295) :
    Calls Try.prog 53 #[.pointer (some ⟨R.D, 0, none⟩)] w fun e w' => ∃ v, e = .returned v ∧ w'.ownsRow w.heap.size 5 1 v (R.secs * R.size) (bs (R.imgL R.secs)) ∧ Keeps (fun _ => False) w w' := by
  obtain ⟨i0, hi, hz0, hz1, hz2⟩ := info_parts Try.info5
  have c0 : w.cell? ⟨R.D, 0, none⟩ = some (.int .i64 R.secs) := cell_of_blk h.blk 0
  have c4 : w.cell? ⟨R.D, 4, none⟩ = some (.int .i64 R.firm) := cell_of_blk h.blk 4
  have hDl := lt_of_block h.blk
  have hs2 := h.secs2
  have hz := h.size2
  have hz' := h.size1
  have HI0 : Hid (w.ownsRow w.heap.size 5 1 (.slice none 0 0) (0 * R.size) (bs (R.imgL 0))) := by
    show w.ownsRow w.heap.size 5 1 (.slice none 0 0) (0 * R.size) (bs (R.imgL 0))
    rw [Nat.zero_mul]
    simpa [bs, RS.imgL] using World.ownsRow_nil w w.heap.size 5 1
  have H := hide h
  clear h
  go_enter Try.func53, Try.ntmps53
  go_wp2_with fail
  go_loopw [3, 4] (fun l i wr => ∃ k : Nat, k ≤ R.secs ∧ i = .int .i64 k ∧ wr.ownsRow w.heap.size 5 1 l (k * R.size) (bs (R.imgL k)) ∧ Keeps (fun _ => False) w wr) (fun _ i _ => R.secs - (intOf i).toNat)
  case atStart => exact ⟨0, Nat.zero_le _, rfl, unhide HI0, Keeps.refl _ _⟩
  case round =>
    obtain ⟨k, hk, rfl, hown, hkeep⟩ := hrel
    clear HI0
    have d0 := (hkeep.cell (o := 0) hDl id).trans c0
    have d4 := (hkeep.cell (o := 4) hDl id).trans c4
    have HO := hide hown
    have HK := hide hkeep
    have hwz := hkeep.size
    by_cases hlt : k < R.secs
    · have HBH := hide (behind_any wr B R ((unhide H).keepF hkeep) k R.firm hlt (unhide H).firm hll)
      have hlen := behindL_length (unhide H) k R.firm hlt
      have HLEN := hide hlen
      have hmul : k * R.size + R.size ≤ 16777216 := by
        have := Nat.mul_le_mul (show k + 1 ≤ 16384 by omega) hz
        rw [Nat.add_mul] at this; omega
      have HMUL := hide hmul
      clear hown hkeep hlen hmul
      go_wp2_with fail
      refine (unhide HBH).mono ?_
      rintro e w1 ⟨v', rfl, hrow, hk1⟩
      obtain ⟨vg, vc, rfl, hvg, hvl⟩ := hrow.form (by omega)
      have HR1 := hide (ownsRow_kept (unhide HO) hk1 (fun _ _ => id))
      have HCL := hide (hrow.cells (g := vg) rfl)
      have HK1 := hide hk1
      have hsz : w.heap.size ≤ w1.heap.size := Nat.le_trans hwz hk1.size
      clear hrow hk1 hvg hvl HBH
      go_wp2_with (at_builtin; refine wpList_append_lies _ rfl _ _ _ rfl w.heap.size 5 i0 _ 1 1 Try.underlying32 hi hz0 hz1 hz2 rfl (by omega) u3 (k * R.size) (bs (R.imgL k)) rfl (unhide HR1) ⟨vg, 0, none⟩ R.size vc (bs (R.behindL k R.firm)) rfl (by rw [bs_length, unhide HLEN, Nat.mul_one]) (unhide HCL) (bs_one _) (by omega) (by have := unhide HMUL; unfold maxLen; omega) (by have := unhide HMUL; omega) hsz w1.heap.size rfl ?_; intro g cap w2 hown2 hgrow hat hlt2)
      go_roundw
      case rel =>
        refine ⟨k + 1, by omega, by go_num, ?_, ((unhide HK).trans (unhide HK1)).grown hgrow (fun q e hq => by have := ((unhide HO).lt q e).1; omega)⟩
        rw [imgL_succ, bs_app, Nat.add_mul, Nat.one_mul]
        exact hown2
      case measure => simp [intOf]; omega
    · obtain rfl : k = R.secs := by omega
      clear hown hkeep
      go_wp2
      go_ret
      exact ⟨_, rfl, unhide HO, unhide HK⟩

/-- The document's disk over an image. -/
def imgRS (D n s : Nat) (bv : Value) (l : List Int) : RS := ⟨D, n, s, bv, l, .slice none 0 0, [], 0, -1, false, 0, 0, 0⟩

theorem imgRS_at {w w1 : World} {n s : Nat} {v' : Value} {l : List Int} (hl : l.length = n * s) (h1 : 1 ≤ n) (h2 : n ≤ 16384) (h3 : 32 ≤ s) (h4 : s ≤ 1024) (hrow : w1.ownsRow w.heap.size 5 1 v' (n * s) (bs l)) (hk : Keeps (fun _ => False) w w1) :
    RefAt (w1.alloc (.cells (imgRS w1.heap.size n s v' l).cells 103)) w.heap.size (imgRS w1.heap.size n s v' l) :=
  ⟨heap_alloc_new w1 _, Or.inr (hrow.alloc _), hl, World.ownsRow_nil _ _ _ _, fun x hx => (by cases hx), Nat.le_refl _, hk.size, h1, h2, h3, h4⟩

set_option maxRecDepth 100000 in
set_option maxHeartbeats 1000000 in
theorem refFromImage_ok (w : World) (v : Value) (n s : Nat) (l : List Int) (hl : l.length = n * s) (h1 : 1 ≤ n) (h2 : n ≤ 16384) (h3 : 32 ≤ s) (h4 : s ≤ 1024) (hR : Reads w v l) (hb : ∀ b off n c, v = .slice (some ⟨b, off, none⟩) n c → 0 < l.length → b < w.heap.size) :
    Calls Try.prog 46 #[v, .int .i64 s] w fun e w' => ∃ R : RS, e = .returned (.tuple #[.pointer (some ⟨R.D, 0, none⟩), .int .i64 0]) ∧ RefAt w' w.heap.size R ∧ Keeps (fun _ => False) w w' ∧ R = imgRS R.D n s R.bv l ∧ w.heap.size ≤ R.D := by
  have hns : n * s ≤ 16777216 := Nat.le_trans (Nat.mul_le_mul h2 h4) (by decide)
  have hpos : 0 < n * s := Nat.mul_pos (by omega) (by omega)
  obtain ⟨ao, cap, rfl⟩ := hR.form
  have hcp := copyBytes_any w _ l hR hb (by omega)
  obtain ⟨N, hNe⟩ : ∃ N, n * s = N := ⟨_, rfl⟩
  have hdiv : ((N : Int)) / (s : Int) = (n : Int) := by rw [← hNe, ← Int.natCast_ediv, Nat.mul_div_cancel n (by omega)]
  have hmod : ((N : Int)) % (s : Int) = 0 := by rw [← hNe, ← Int.natCast_emod, Nat.mul_mod_left]; rfl
  have hs0 : ((s : Int) == 0) = false := beq_eq_false_iff_ne.2 (by omega)
  have hlN : l.length = N := by rw [hl, hNe]
  rw [hlN] at hcp ⊢
  have HCP := hide hcp
  have HL := hide hl
  have HN := hide hNe
  rw [hNe] at hns hpos
  clear hcp hl hR hb hNe hlN
  go_enter Try.func46, Try.ntmps46
  go_wp2_with fail
  refine (unhide HCP).mono ?_
  rintro e w1 ⟨v', rfl, hrow, hk1⟩
  rw [← unhide HN] at hrow
  have HD := hide (imgRS_at (unhide HL) h1 h2 h3 h4 hrow hk1)
  obtain ⟨vg, vc, rfl, hvg, hvl⟩ := hrow.form (by rw [unhide HN]; exact hpos)
  have HK := hide hk1
  have hz := hk1.size
  clear hrow hk1 hvg hvl HCP
  go_wp2
  go_ret2
  exact ⟨_, rfl, unhide HD, (unhide HK).alloc _, rfl, hz⟩

theorem takeB_eq {a b : List Bool} {k : Nat} (h : a.take k = b.take k) {x : Bool} (ha : a[k]? = some x) (hb : b[k]? = some x) : a.take (k + 1) = b.take (k + 1) := by
  rw [List.take_add_one, List.take_add_one, ha, hb, h]

set_option maxRecDepth 100000 in
set_option maxHeartbeats 1000000 in
theorem eqBools_any (w : World) (va vb : Value) (la lb : List Bool) (ha : Bools w va la) (hb : Bools w vb lb) (hla : la.length ≤ maxLen) :
    Calls Try.prog 60 #[va, vb] w fun e w' => e = .returned (.bool (decide (la = lb))) ∧ ∃ n, w' = w.drewN n := by
  obtain ⟨ao, capa, rfl⟩ := ha.form
  obtain ⟨bo, capb, rfl⟩ := hb.form
  unfold maxLen at hla
  by_cases hlen : la.length = lb.length
  · have hne : ((la.length : Int) != (lb.length : Int)) = false := by simp [hlen]
    have HA := hide ha
    have HB := hide hb
    have HL := hide hlen
    clear ha hb hlen
    go_enter Try.func60, Try.ntmps60
    go_wp2
    go_loopw [5] (fun i wr => ∃ k : Nat, k ≤ la.length ∧ i = .int .i64 k ∧ la.take k = lb.take k ∧ ∃ n, wr = w.drewN n) (fun i _ => la.length - (intOf i).toNat)
    case atStart => exact ⟨0, Nat.zero_le _, rfl, rfl, 0, rfl⟩
    case round =>
      obtain ⟨k, hk, rfl, htk, n, rfl⟩ := hrel
      have HT := hide htk
      clear htk
      by_cases hlt : k < la.length
      · obtain ⟨b1, o1, c1, e1, -, hc1⟩ := (unhide HA).cells (by omega)
        obtain ⟨b2, o2, c2, e2, -, hc2⟩ := (unhide HB).cells (by have := unhide HL; omega)
        simp at e1 e2
        obtain ⟨rfl, rfl⟩ := e1
        obtain ⟨rfl, rfl⟩ := e2
        have hltb : k < lb.length := by have := unhide HL; omega
        have q1 := hc1 k _ (List.getElem?_eq_getElem hlt)
        have q2 := hc2 k _ (List.getElem?_eq_getElem hltb)
        have i1 : (k : Int) < (la.length : Int) := by omega
        have i2 : (k : Int) < (lb.length : Int) := by omega
        have HX := hide (show la[k]? = some la[k] from List.getElem?_eq_getElem hlt)
        have HY := hide (show lb[k]? = some lb[k] from List.getElem?_eq_getElem hltb)
        generalize la[k] = x at q1 HX
        generalize lb[k] = y at q2 HY
        clear hc1 hc2
        go_wp2_with fail
        go_quiet (fail)
        go_wp2
        · rename_i hq
          go_ret
          refine ⟨ret_bool ?_, n + nq, by simp⟩
          symm
          rw [decide_eq_false_iff_not]
          intro e
          have h1 := unhide HX
          have h2 := unhide HY
          rw [e, h2] at h1
          simp at h1 hq
          exact hq h1.symm
        · rename_i hq
          have hxy : x = y := by simpa using hq
          subst hxy
          go_roundw
          case rel => exact ⟨k + 1, by omega, by go_num, takeB_eq (unhide HT) (unhide HX) (unhide HY), _, rfl⟩
          case measure => simp [intOf]; omega
      · have HF := hide (show la = lb by
          have h1 := unhide HT
          rw [List.take_of_length_le (by omega), List.take_of_length_le (by have := unhide HL; omega)] at h1
          exact h1)
        go_wp2
        go_ret
        exact ⟨ret_bool (by symm; rw [decide_eq_true_iff]; exact unhide HF), _, rfl⟩
  · have hne : ((la.length : Int) != (lb.length : Int)) = true := by rw [bne_iff_ne]; omega
    have HL := hide hlen
    clear hlen
    go_enter Try.func60, Try.ntmps60
    go_wp2
    go_ret
    exact ⟨ret_bool (by symm; rw [decide_eq_false_iff_not]; intro e; exact unhide HL (by rw [e])), 0, rfl⟩

end Go.Proofs.Ytjmbcelkhiopeaa
