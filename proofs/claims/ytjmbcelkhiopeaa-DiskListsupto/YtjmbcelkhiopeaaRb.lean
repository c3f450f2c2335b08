import Derived.Test.YtjmbcelkhiopeaaRa
namespace Go.Proofs.Ytjmbcelkhiopeaa
open Go.RowKit Go.Maps
attribute [local go_sem ↓] Go.wp_at_zero Go.wp_at_succ

theorem RefAt.own_lt {w : World} {B : Nat} {R : RS} (h : RefAt w B R) : ∀ k, R.own k → k < w.heap.size := by
  intro k hk
  rcases hk with rfl | hk
  · exact lt_of_block h.blk
  · exact (h.row.lt k hk).2

theorem RefAt.keepF {w w' : World} {B : Nat} {R : RS} (h : RefAt w B R) (hk : Keeps (fun _ => False) w w') : RefAt w' B R := h.kept hk (fun _ _ => id) (fun _ _ => id) (fun _ _ _ _ => id)

def secB (R : RS) (a : Nat) : List Int := secOf R.size R.base a

theorem secB_get {w : World} {B : Nat} {R : RS} (h : RefAt w B R) (a j : Nat) (ha : a < R.secs) (hj : j < R.size) : ∃ x, R.base[a * R.size + j]? = some x ∧ (secB R a)[j]? = some x := by
  have hfit := sec_fits (size := R.size) ha
  have hl := h.blen
  refine ⟨R.base[a * R.size + j]'(by omega), List.getElem?_eq_getElem _, ?_⟩
  unfold secB secOf
  rw [List.getElem?_take, if_pos hj, List.getElem?_drop]
  exact List.getElem?_eq_getElem _

theorem secB_length {w : World} {B : Nat} {R : RS} (h : RefAt w B R) (a : Nat) (ha : a < R.secs) : (secB R a).length = R.size := by
  have hfit := sec_fits (size := R.size) ha
  have hl := h.blen
  simp [secB, secOf]; omega

theorem eql_nil (W : World) (a : Option Addr) (l c : Nat) : (binOp .eql 32 (.slice a l c) (.slice none 0 0)).run Try.prog W = .ok (.bool a.isNone) W := by
  simp only [binOp]
  simp [run_equal_slice_nil W 32 5 a l c Try.underlying32]

set_option maxRecDepth 100000 in
set_option maxHeartbeats 2000000 in
theorem first_any (w : World) (B : Nat) (R : RS) (h : RefAt w B R) (a : Nat) (ha : a < R.secs) :
    Calls Try.prog 70 #[.pointer (some ⟨R.D, 0, none⟩), .int .i64 a] w fun e w' => ∃ v', e = .returned v' ∧ w'.ownsRow w.heap.size 5 1 v' R.size (bs (secB R a)) ∧ Keeps (fun _ => False) w w' := by
  obtain ⟨i0, hi, hz0, hz1, hz2⟩ := info_parts Try.info5
  have hz := h.size2
  have hz' := h.size1
  have hsl := secB_length h a ha
  have c1 : w.cell? ⟨R.D, 1, none⟩ = some (.int .i64 R.size) := by rw [cell_of_blk h.blk]; rfl
  have c2 : w.cell? ⟨R.D, 2, none⟩ = some R.bv := by rw [cell_of_blk h.blk]; rfl
  have hDl := lt_of_block h.blk
  obtain ⟨o, ho⟩ : ∃ o, a * R.size = o := ⟨_, rfl⟩
  have hnn : R.secs * R.size ≤ 16777216 := Nat.le_trans (Nat.mul_le_mul h.secs2 h.size2) (by decide)
  have hfit := sec_fits (size := R.size) ha
  rw [ho] at hfit
  have hmul : (a : Int) * (R.size : Int) = (o : Int) := by rw [← Int.natCast_mul, ho]
  have HO' := hide ho
  have H := hide h
  have HSL := hide hsl
  obtain ⟨N, hNe⟩ : ∃ N, R.secs * R.size = N := ⟨_, rfl⟩
  have HNE := hide hNe
  rw [hNe] at hnn hfit
  clear h ho hsl hNe
  go_enter Try.func70, Try.ntmps70
  go_wp2
  go_loopw [5, 6] (fun b i wr => ∃ k : Nat, k ≤ R.size ∧ i = .int .i64 k ∧ wr.ownsRow w.heap.size 5 1 b k (bs ((secB R a).take k)) ∧ Keeps (fun _ => False) w wr) (fun _ i _ => R.size - (intOf i).toNat)
  case atStart => exact ⟨0, Nat.zero_le _, rfl, by simpa [bs] using World.ownsRow_nil w w.heap.size 5 1, Keeps.refl _ _⟩
  case round =>
    obtain ⟨k, hk, rfl, hown, hkeep⟩ := hrel
    have d1 := (hkeep.cell (o := 1) hDl id).trans c1
    have d2 := (hkeep.cell (o := 2) hDl id).trans c2
    have HO := hide hown
    have HK := hide hkeep
    have hwz := hkeep.size
    clear hown hkeep
    by_cases hlt : k < R.size
    · obtain ⟨x, hx1, hx2⟩ := secB_get (unhide H) a k ha hlt
      have HX := hide hx2
      rcases (unhide H).base with ⟨hbv, hbase⟩ | hrow
      · have hx0 : x = 0 := by
          rw [hbase, List.getElem?_replicate] at hx1
          split at hx1
          · simpa using hx1.symm
          · cases hx1
        subst hx0
        rw [hbv] at d2
        have hnone : ∀ W : World, (binOp .eql 32 (.slice none 0 0) (.slice none 0 0)).run Try.prog W = .ok (.bool true) W := fun W => eql_nil W none 0 0
        clear hx1 hx2 hbv hbase
        go_wp2_with (at_builtin; refine wpList_append_lies _ rfl _ _ _ rfl w.heap.size 5 i0 _ 1 1 Try.underlying32 hi hz0 hz1 hz2 rfl (by omega) u5 k (bs ((secB R a).take k)) rfl ((unhide HO).alloc _) ⟨wr.heap.size, 0, none⟩ 1 1 [.int .u8 0] rfl rfl (World.news_of_block (cs := #[.int .u8 0]) (t := 5) (fr := (0, 0)) (heap_alloc_new wr _)) (by simp [Value.oneCell']) (by omega) (by unfold maxLen; omega) (by omega) (by simp; omega) (wr.heap.size + 1) (by simp) ?_; intro g cap w1 hown1 hgrow hat hlt1)
        go_roundw
        case rel =>
          refine ⟨k + 1, by omega, by go_num, ?_, ((unhide HK).alloc _).grown hgrow (fun q e hq => by have := ((unhide HO).lt q e).1; omega)⟩
          rw [take_snoc _ _ _ (unhide HX)]
          simpa [bs] using hown1
        case measure => simp [intOf]; omega
      · rw [unhide HNE] at hrow
        obtain ⟨bg, bc, hbv, hbg, hbl⟩ := hrow.form (by omega)
        have hcell := hrow.cells (g := bg) (by rw [hbv]; rfl) (o + k) (.int .u8 x) (by rw [bs_get, ← unhide HO', hx1]; rfl)
        rw [Addr.add_lit, Nat.zero_add] at hcell
        rw [hbv] at d2
        have p0 := ((unhide HK).cell (o := o + k) hbl id).trans hcell
        have i1 : (o : Int) + (k : Int) < (N : Int) := by omega
        have i2 : (0 : Int) ≤ (o : Int) + (k : Int) := by omega
        have wo : IntKind.i64.wrap (o : Int) = (o : Int) := by rw [IntWalk.i64_left]; exact IntWalk.wrap64_in _ (by omega)
        have wok : IntKind.i64.wrap ((o : Int) + (k : Int)) = (o : Int) + (k : Int) := by rw [IntWalk.i64_left]; exact IntWalk.wrap64_in _ (by omega)
        have hsome : ∀ W : World, (binOp .eql 32 (.slice (some ⟨bg, 0, none⟩) N bc) (.slice none 0 0)).run Try.prog W = .ok (.bool false) W := fun W => eql_nil W (some ⟨bg, 0, none⟩) N bc
        clear hx1 hx2 hbv hrow hcell
        have p0' : wr.cell? ⟨bg, ((o : Int) + (k : Int)).toNat, none⟩ = some (.int .u8 x) := by rw [show ((o : Int) + (k : Int)).toNat = o + k by omega]; exact p0
        clear p0
        have hneD : u5.ownBlock ≠ some R.D := fun e => by have := ((unhide HO).lt _ e).1; omega
        have hneB : u5.ownBlock ≠ some bg := fun e => by have := ((unhide HO).lt _ e).1; omega
        have hDw : R.D < wr.heap.size := by omega
        have hBw : bg < wr.heap.size := by omega
        go_wp2_with fail
        go_region_held3 (fun w' => w'.cell? ⟨R.D, 1, none⟩ = some (.int .i64 R.size) ∧ w'.cell? ⟨R.D, 2, none⟩ = some (.slice (some ⟨bg, 0, none⟩) N bc) ∧ w'.cell? ⟨bg, ((o : Int) + (k : Int)).toNat, none⟩ = some (.int .u8 x))
          (first
            | (go_keep; done)
            | (go_split_ands
               refine ⟨?_, ?_, ?_⟩
               · (rw [hgrow.cell_far _ (by simp; omega) (Ne.symm hneD)]; assumption)
               · (rw [hgrow.cell_far _ (by simp; omega) (Ne.symm hneD)]; assumption)
               · (rw [hgrow.cell_far _ (by simp; omega) (Ne.symm hneB)]; assumption)))
          ((refine step_append_lies _ (by rfl) _ _ _ (by rfl) w.heap.size 5 i0 _ 1 1 Try.underlying32 hi hz0 hz1 hz2 rfl (by omega) u5 k (bs ((secB R a).take k)) (by rfl) (((unhide HO).alloc _).drew)
              ⟨wr.heap.size, 0, none⟩ 1 1 [.int .u8 x] (by rfl) (by rfl) (World.news_of_block (cs := #[.int .u8 x]) (t := 5) (fr := (0, 0)) (by exact heap_alloc_new wr _)) (by simp [Value.oneCell'])
              (by omega) (by unfold maxLen; omega) (by omega) (by simp; omega) (wr.heap.size + 1) (by simp) ?_; intro g cap w1 hown1 hgrow hat hlt1))
        go_wp2
        go_roundw
        case rel =>
          refine ⟨k + 1, by omega, by go_num, ?_, (((unhide HK).alloc _).drew).grown hgrow (fun q e hq => by have := ((unhide HO).lt q e).1; omega)⟩
          rw [take_snoc _ _ _ (unhide HX)]
          simpa [bs] using hown1
        case measure => simp [intOf]; omega
    · obtain rfl : k = R.size := by omega
      go_wp2
      go_ret
      refine ⟨_, rfl, ?_, unhide HK⟩
      have := unhide HO
      rwa [List.take_of_length_le (by rw [unhide HSL]; exact Nat.le_refl _)] at this

end Go.Proofs.Ytjmbcelkhiopeaa
