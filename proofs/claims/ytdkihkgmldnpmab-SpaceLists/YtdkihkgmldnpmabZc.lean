import Derived.Test.YtdkihkgmldnpmabZb
namespace Go.Proofs.Ytdkihkgmldnpmab
open Go.RowKit Go.Maps

theorem TriBk.lower {w : World} {B C t : Nat} {T : TR} {b : Bk} (h : TriBk w B t T b) (hC : C ≤ B) : TriBk w C t T b :=
  ⟨⟨h.tri.blk, ownsRow_lower h.tri.r1 hC, ownsRow_lower h.tri.r2 hC, ownsRow_lower h.tri.r3 hC, h.tri.d12, h.tri.d13, h.tri.d23, Nat.le_trans hC h.tri.lo, h.tri.t4⟩, h.ln, h.lm, h.ll, h.n1, h.n2⟩

/-- What is put into a place: a fresh pair, or none. -/
def Fresh (w w' : World) (B : Nat) (s : Slot) : Prop := Keeps (fun _ => False) w w' ∧ ∀ a b, s = some (a, b) → Duo w' B a b ∧ ∀ k, foot a b k → w.heap.size ≤ k

theorem fresh_some {w w3 w4 : World} {B n : Nat} {b : Bk} {T : TR} (hB : B ≤ w.heap.size) (hn : b.n = n) (h1 : SpaceAt w3 w.heap.size ((newSP w.heap.size n).put b)) (k1 : Keeps (fun _ => False) w w3) (h2 : TriBk w4 w3.heap.size 73 T b) (k2 : Keeps (fun _ => False) w3 w4) :
    Fresh w w4 B (some ((newSP w.heap.size n).put b, T)) := by
  refine ⟨k1.trans k2, fun a c e => ?_⟩
  simp at e
  obtain ⟨rfl, rfl⟩ := e
  refine ⟨⟨(h1.keepF k2).lower hB, ?_⟩, fun k hk => ?_⟩
  · rw [SP.put_bk _ _ hn]
    exact h2.lower (Nat.le_trans hB k1.size)
  · rcases hk with hk | hk
    · exact (newSP_has (B := w.heap.size) (n := n) hk).1
    · exact Nat.le_trans k1.size (h2.has_lo k hk)

/-- A pair of calls that makes a place's new pair. -/
def Made (w : World) (B fp fr : Nat) (xp xr : Array Value) : Prop :=
  ∃ ev : Int, Calls Try.prog fp xp w fun e w1 => ∃ pp, e = .returned (.tuple #[.pointer pp, .int .i64 ev]) ∧ Keeps (fun _ => False) w w1 ∧ Calls Try.prog fr xr w1 fun e w2 => ∃ rp, e = .returned (.tuple #[.pointer rp, .int .i64 ev]) ∧ ∃ s : Slot, slotP s = .pointer pp ∧ slotR s = .pointer rp ∧ Fresh w w2 B s

theorem made_new (w : World) (B : Nat) (hB : B ≤ w.heap.size) (n : Int) : Made w B 24 28 #[.int .i64 n] #[.int .i64 n] := by
  by_cases h : n < 1 ∨ 2048 < n
  · refine ⟨1, (new_no w n h).mono ?_⟩
    rintro e w1 ⟨rfl, rfl⟩
    refine ⟨_, rfl, Keeps.refl _ _, (rnew_no w1 n h).mono ?_⟩
    rintro e w2 ⟨rfl, rfl⟩
    exact ⟨_, rfl, none, rfl, rfl, Keeps.refl _ _, fun _ _ e => by cases e⟩
  · obtain ⟨m, rfl⟩ := Int.eq_ofNat_of_zero_le (show 0 ≤ n by omega)
    refine ⟨0, (new_yes w m (by omega) (by omega)).mono ?_⟩
    rintro e w1 ⟨rfl, h1, _, k1⟩
    refine ⟨_, rfl, k1, (rnew_yes w1 m (by omega) (by omega)).mono ?_⟩
    rintro e w2 ⟨T, rfl, h2, k2⟩
    exact ⟨_, rfl, _, rfl, rfl, fresh_some (b := newBk m) hB rfl h1 k1 h2 k2⟩

theorem made_load (w : World) (B : Nat) (hB : B ≤ w.heap.size) (n : Int) (v v' : Value) (l : List Int) (hb : ∀ x ∈ l, 0 ≤ x ∧ x ≤ 255) (h1 : Cells w v (bs l)) (h2 : Cells w v' (bs l)) : Made w B 10 11 #[.int .i64 n, v] #[.int .i64 n, v'] := by
  by_cases h : n < 1 ∨ 2048 < n
  · refine ⟨1, (load_arg w n v h).mono ?_⟩
    rintro e w1 ⟨rfl, rfl⟩
    refine ⟨_, rfl, Keeps.refl _ _, (rload_arg w1 n v' h).mono ?_⟩
    rintro e w2 ⟨rfl, rfl⟩
    exact ⟨_, rfl, none, rfl, rfl, Keeps.refl _ _, fun _ _ e => by cases e⟩
  · obtain ⟨m, rfl⟩ := Int.eq_ofNat_of_zero_le (show 0 ≤ n by omega)
    by_cases hl : l.length = nb m
    · by_cases hh : ∃ i, m ≤ i ∧ i < 8 * l.length ∧ bitI l i = true
      · refine ⟨31, (load_fit w m (by omega) (by omega) v l h1 hl).mono ?_⟩
        rintro e w1 ⟨k1, ⟨hno, _⟩ | ⟨_, rfl⟩⟩
        · obtain ⟨i, a, b, c⟩ := hh; rw [hno i a b] at c; cases c
        refine ⟨_, rfl, k1, (rload_fit w1 m (by omega) (by omega) v' l (h2.keepF k1) hb hl).mono ?_⟩
        rintro e w2 ⟨k2, ⟨hno, _⟩ | ⟨_, rfl⟩⟩
        · obtain ⟨i, a, b, c⟩ := hh; rw [hno i a b] at c; cases c
        exact ⟨_, rfl, none, rfl, rfl, k1.trans k2, fun _ _ e => by cases e⟩
      · refine ⟨0, (load_fit w m (by omega) (by omega) v l h1 hl).mono ?_⟩
        rintro e w1 ⟨k1, ⟨_, rfl, hs⟩ | ⟨hx, _⟩⟩
        case inr => exact absurd hx hh
        refine ⟨_, rfl, k1, (rload_fit w1 m (by omega) (by omega) v' l (h2.keepF k1) hb hl).mono ?_⟩
        rintro e w2 ⟨k2, ⟨_, T, rfl, hT⟩ | ⟨hx, _⟩⟩
        case inr => exact absurd hx hh
        exact ⟨_, rfl, _, rfl, rfl, fresh_some (b := bkOf m (unpack m l)) hB rfl hs k1 hT k2⟩
    · obtain ⟨ao, cap, rfl⟩ := h1.form
      obtain ⟨bo, bap, rfl⟩ := h2.form
      rw [bs_length] at *
      refine ⟨12, (load_size w m (by omega) (by omega) ao l.length cap hl).mono ?_⟩
      rintro e w1 ⟨rfl, k1⟩
      refine ⟨_, rfl, k1, (rload_size w1 m (by omega) (by omega) bo l.length bap hl).mono ?_⟩
      rintro e w2 ⟨rfl, k2⟩
      exact ⟨_, rfl, none, rfl, rfl, k1.trans k2, fun _ _ e => by cases e⟩

set_option maxRecDepth 100000 in
set_option maxHeartbeats 2000000 in
theorem makes_new (w : World) (V B : Nat) (st : Nat → Slot) (t : Trio w V B st) (hB : B ≤ w.heap.size) (o : OpA) (hO : OpAt w B o) (hkd : o.kind = 1) :
    Calls Try.prog 35 #[.pointer (some ⟨V, 0, none⟩), .agg o.cells] w fun e w' => e = .returned (.bool true) ∧ ∃ st', Trio w' V B st' ∧ Keeps (fun k => k = V) w w' ∧ Grows w st st' := by
  obtain ⟨wh, kd, a, bv, bytes⟩ := o
  simp only at hkd
  subst hkd
  obtain ⟨bo, bc, hbv⟩ := hO.bits.form
  simp only [bs_length] at hbv
  subst hbv
  simp only [OpA.cells]
  obtain ⟨i, hi, hi3⟩ := mod3 wh
  obtain ⟨w1, hw1⟩ : ∃ w1, w1 = w.alloc (.cells #[.int .i64 wh, .int .i64 1, .int .i64 a, .slice bo bytes.length bc] 39) := ⟨_, rfl⟩
  have hb1 : w1.heap[w.heap.size]? = some (.cells #[.int .i64 wh, .int .i64 1, .int .i64 a, .slice bo bytes.length bc] 39 (0, 0)) := by rw [hw1]; exact heap_alloc_new w _
  have hk1 : Keeps (fun _ => False) w w1 := by rw [hw1]; exact (Keeps.refl _ _).alloc _
  have t1 := t.keep hk1
  obtain ⟨ev, hmade⟩ := made_new w1 B (Nat.le_trans hB hk1.size) a
  have hwho := who_any wh w1
  rw [hi] at hwho
  have HWH := hide hwho
  have HM := hide hmade
  have c0 := cell_of_blk hb1 0
  have c1 := cell_of_blk hb1 1
  have c2 := cell_of_blk hb1 2
  simp at c0 c1 c2
  have hi0 : (0 : Int) ≤ (i : Int) := by omega
  have hi3' : (i : Int) < 3 := by omega
  have HB1 := hide hb1
  have HW1 := hide hw1
  have HK1 := hide hk1
  have HT1 := hide t1
  clear t hO hb1 hw1 hk1 t1 hwho hmade hi
  go_enter Try.func35, Try.ntmps35
  go_wp2_with fail
  rw [← unhide HW1]
  refine (unhide HWH).mono ?_; rintro e w1 ⟨rfl, rfl⟩
  go_wp2_with fail
  refine (unhide HM).mono ?_
  rintro e w3 ⟨pp, rfl, hk3, hc3⟩
  have HC3 := hide hc3
  have d2 := (hk3.cell (o := 2) (lt_of_block (unhide HB1)) id).trans c2
  clear hc3 hk3
  go_wp2_with fail
  refine (unhide HC3).mono ?_
  rintro e w4 ⟨rp, rfl, s, hsp, hsr, hfr⟩
  have hst := (unhide HT1).store i hi3 s hfr.1 hfr.2
  have HS := hide hst.1
  have HSK := hide ((unhide HK1).any.trans hst.2)
  have HGR := hide (grows_put (st := st) (i := i) (unhide HK1).size (fun x y e => (hfr.2 x y e).2))
  have hTV := (unhide HT1).keep hfr.1
  obtain ⟨pv, rv⟩ := slot_cells hTV i hi3
  have fv : ∀ j, w4.frozen? ⟨V, j, none⟩ = false := frozen_of_blk hTV.blk
  clear hst hTV hfr HC3 HM c0 c1 c2 d2
  rcases s with _ | ⟨sa, sb⟩
  all_goals
    simp only [slotP, slotR, Option.map_none, Option.map_some] at hsp hsr HS HSK
    simp only [Value.pointer.injEq] at hsp hsr
    subst hsp hsr
    go_wp2
    go_ret
    exact ⟨ret_bool (by first | rfl | simp), _, unhide HS, unhide HSK, unhide HGR⟩

end Go.Proofs.Ytdkihkgmldnpmab
