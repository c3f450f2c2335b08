import Derived.Test.YtjmbcelkhiopeaaRn
namespace Go.Proofs.Ytjmbcelkhiopeaa
open Go.RowKit Go.Maps
attribute [local go_sem ↓] Go.wp_at_zero Go.wp_at_succ

/-- One step of a script. -/
structure OpA where
  who : Int
  kind : Int
  a : Int
  b : Int
  bv : Value
  kv : Value
  bytes : List Int
  keep : List Bool

def OpA.cells (o : OpA) : Array Value := #[.int .i64 o.who, .int .i64 o.kind, .int .i64 o.a, .int .i64 o.b, o.bv, o.kv]

structure OpAt (w : World) (B : Nat) (o : OpA) : Prop where
  bytes : Reads w o.bv o.bytes
  lt : ∀ b off n c, o.bv = .slice (some ⟨b, off, none⟩) n c → 0 < o.bytes.length → b < B
  keep : Bools w o.kv o.keep
  klt : ∀ b off n c, o.kv = .slice (some ⟨b, off, none⟩) n c → 0 < o.keep.length → b < B
  blen : o.bytes.length ≤ 140737488351232
  klen : o.keep.length ≤ 140737488351232

theorem OpAt.kept {w w' : World} {B : Nat} {o : OpA} (h : OpAt w B o) (hB : B ≤ w.heap.size) (hk : Keeps (fun k => B ≤ k) w w') : OpAt w' B o := by
  refine ⟨⟨h.bytes.form, fun h0 => ?_⟩, h.lt, ⟨h.keep.form, fun h0 => ?_⟩, h.klt, h.blen, h.klen⟩
  · obtain ⟨b, off, cap, e, hc⟩ := h.bytes.cells h0
    have hb := h.lt _ _ _ _ e h0
    exact ⟨b, off, cap, e, fun j x hx => (hk.cell (by omega) (by omega)).trans (hc j x hx)⟩
  · obtain ⟨b, off, cap, e, hb', hc⟩ := h.keep.cells h0
    have hb := h.klt _ _ _ _ e h0
    exact ⟨b, off, cap, e, Nat.lt_of_lt_of_le hb' hk.size, fun j x hx => (hk.cell (by omega) (by omega)).trans (hc j x hx)⟩

theorem OpAt.keepF {w w' : World} {B : Nat} {o : OpA} (h : OpAt w B o) (hB : B ≤ w.heap.size) (hk : Keeps (fun _ => False) w w') : OpAt w' B o := h.kept hB (hk.mono (fun _ _ f => f.elim))

theorem OpAt.copy {w : World} {B : Nat} {o : OpA} (h : OpAt w B o) (hB : B ≤ w.heap.size) :
    Calls Try.prog 61 #[o.bv] w fun e w' => ∃ v', e = .returned v' ∧ w'.ownsRow w.heap.size 5 1 v' o.bytes.length (bs o.bytes) ∧ Keeps (fun _ => False) w w' :=
  copyBytes_any w _ _ h.bytes (fun b off n c e h0 => Nat.lt_of_lt_of_le (h.lt b off n c e h0) hB) (by have := h.blen; omega)

theorem RefAt.foot_lo {w : World} {B : Nat} {R : RS} (h : RefAt w B R) {k : Nat} (hk : R.foot k) : B ≤ k := by
  rcases hk with (hk | hk) | hk | ⟨x, hx, hk⟩
  · rw [hk]; exact h.lo
  · exact (h.row.lt k hk).1
  · rcases h.base with ⟨e, _⟩ | hr
    · rw [e] at hk; simp [Value.ownBlock] at hk
    · exact (hr.lt k hk).1
  · exact ((h.each x hx).2.2.lt k hk).1

/-- Two fresh disks make a pair. -/
theorem duo_fresh {w1 w2 : World} {N0 B N : Nat} {S : DS} {R : RS} (hB : B ≤ N0) (hp : DiskAt w1 N0 S) (hws : S.ws = []) (hk : Keeps (fun _ => False) w1 w2) (hr : RefAt w2 w1.heap.size R) (hz : N0 ≤ w1.heap.size) (e : Rel S R) (bd : Bnd N S R) :
    Duo w2 B N S R ∧ ∀ k, S.foot k ∨ R.foot k → N0 ≤ k := by
  refine ⟨⟨(hp.keepF hk).lower hB, hr.lower (by omega), e, fun k h h' => ?_, bd⟩, ?_⟩
  · have := hp.foot_lt h
    have := hr.foot_lo h'
    omega
  · rintro k ((h | ⟨x, hx, _⟩) | h)
    · exact hp.own_lo k h
    · rw [hws] at hx; cases hx
    · exact Nat.le_trans hz (hr.foot_lo h)

theorem vcells_set (st : Nat → Slot) (i : Nat) (hi : i < 3) (s : Slot) : ((vcells st).setIfInBounds i (slotP s)).setIfInBounds (3 + i) (slotR s) = vcells (setSlot st i s) := by
  obtain rfl | rfl | rfl : i = 0 ∨ i = 1 ∨ i = 2 := by omega
  all_goals simp [vcells, setSlot]

theorem Trio.store {X : Nat → Prop} {w w3 : World} {V B N N' : Nat} {st : Nat → Slot} (t : Trio w X V B N st) (i : Nat) (hi : i < 3) (s : Slot) (hN : N ≤ N') (hk : Keeps (fun _ => False) w w3) (d : ∀ S R, s = some (S, R) → Duo w3 B N' S R ∧ ∀ k, S.foot k ∨ R.foot k → w.heap.size ≤ k) :
    Trio ((w3.setCell ⟨V, i, none⟩ (slotP s)).setCell ⟨V, 3 + i, none⟩ (slotR s)) X V B N' (setSlot st i s) ∧ Keeps (fun k => k = V) w ((w3.setCell ⟨V, i, none⟩ (slotP s)).setCell ⟨V, 3 + i, none⟩ (slotR s)) := by
  have hK := (kD w3 V i (slotP s)).trans (kD _ V (3 + i) (slotR s))
  have hb : w3.heap[V]? = some (.cells (vcells st) 73 (0, 0)) := (t.keep hk).blk
  refine ⟨t.put i s hN hk d hK ?_, (hk.mono (fun _ _ f => f.elim)).trans hK⟩
  rw [heap_setCell_at (heap_setCell_at hb _) _, vcells_set st i hi s]

/-- The bytes that were copied and those that were handed in are the same. -/
theorem same_bytes {w w2 W : World} {V B : Nat} {o : OpA} {v' : Value} {b' : Nat} (hV : B ≤ V) (hO : OpAt w B o) (hB : B ≤ w.heap.size) (hkW : Keeps (fun k => k = V) w W) (hrow : w2.ownsRow b' 5 1 v' o.bytes.length (bs o.bytes)) (hVb : V < b') (hk2 : Keeps (fun k => k = V) w2 W) :
    Calls Try.prog 28 #[v', o.bv] W fun e w' => e = .returned (.bool true) ∧ ∃ n, w' = W.drewN n := by
  have h1 := (row_reads (ownsRow_kept hrow hk2 (fun b hb e => by have := (hrow.lt b hb).1; omega))).1
  have h2 := (hO.kept hB (hkW.mono (fun k _ e => by omega))).bytes
  refine (eqBytes_any W v' o.bv o.bytes o.bytes h1 h2 (by have := hO.blen; unfold maxLen; omega)).mono ?_
  rintro e w' ⟨rfl, h⟩
  exact ⟨by simp, h⟩

set_option maxRecDepth 100000 in
set_option maxHeartbeats 2000000 in
theorem makes_new {X : Nat → Prop} (w : World) (V B N : Nat) (st : Nat → Slot) (t : Trio w X V B N st) (hV : B ≤ V) (hB : B ≤ w.heap.size) (o : OpA) (hO : OpAt w B o) (hkd : o.kind = 1) :
    Calls Try.prog 56 #[.pointer (some ⟨V, 0, none⟩), .agg o.cells] w fun e w' => e = .returned (.bool true) ∧ ∃ st', Trio w' X V B N st' ∧ Keeps (fun k => k = V) w w' := by
  obtain ⟨wh, kd, a, b, bv, kv, bytes, keep⟩ := o
  simp only at hkd
  subst hkd
  obtain ⟨bo, bc, hbv⟩ := hO.bytes.form
  obtain ⟨ko, kc, hkv⟩ := hO.keep.form
  simp only at hbv hkv
  subst hbv hkv
  simp only [OpA.cells]
  have HT := hide t
  have HO := hide hO
  obtain ⟨w1, hw1⟩ : ∃ w1, w1 = w.alloc (.cells #[.int .i64 wh, .int .i64 1, .int .i64 a, .int .i64 b, .slice bo bytes.length bc, .slice ko keep.length kc] 81) := ⟨_, rfl⟩
  have hb1 : w1.heap[w.heap.size]? = some (.cells #[.int .i64 wh, .int .i64 1, .int .i64 a, .int .i64 b, .slice bo bytes.length bc, .slice ko keep.length kc] 81 (0, 0)) := by rw [hw1]; exact heap_alloc_new w _
  have hk1 : Keeps (fun _ => False) w w1 := by rw [hw1]; exact (Keeps.refl _ _).alloc _
  have HCP := hide ((hO.keepF hB hk1).copy (Nat.le_trans hB hk1.size))
  simp only at HCP
  have HB1 := hide hb1
  have HW1 := hide hw1
  have HK1 := hide hk1
  clear t hO hb1 hw1 hk1
  go_enter Try.func56, Try.ntmps56
  go_wp2_with (first | (go_at_call 45; refine (who_any _ _).mono ?_; rintro e w' ⟨rfl, rfl⟩) | fail)
  rw [← unhide HW1]
  refine (unhide HCP).mono ?_
  rintro e w2 ⟨v', rfl, hrow, hk2⟩
  obtain ⟨vo, vc, rfl⟩ : ∃ vo vc, v' = .slice vo bytes.length vc := by
    rcases hrow.2 with ⟨hv, hn⟩ | ⟨g, cap, cur, hv, _⟩
    · exact ⟨none, 0, by rw [hv, hn]⟩
    · exact ⟨_, _, hv⟩
  have hb2 := (hk2.block _ (lt_of_block (unhide HB1)) id).trans (unhide HB1)
  have c1 := cell_of_blk hb2 1
  have c2 := cell_of_blk hb2 2
  have c3 := cell_of_blk hb2 3
  have c4 := cell_of_blk hb2 4
  simp at c1 c2 c3 c4
  obtain ⟨i, hi, hi3⟩ : ∃ i : Nat, wh % 3 = (i : Int) ∧ i < 3 := ⟨(wh % 3).toNat, by omega, by omega⟩
  rw [hi]
  have hi0 : (0 : Int) ≤ (i : Int) := by omega
  have hi3' : (i : Int) < 3 := by omega
  have HK2 := hide ((unhide HK1).trans hk2)
  have HK2' : Hid (Keeps (fun k => k = V) w w2) := (unhide HK2).mono (fun _ _ f => f.elim)
  have HROW := hide hrow
  have HB2 := hide hb2
  have HT2 := hide ((unhide HT).keep (unhide HK2))
  have HO2 := hide ((unhide HO).keepF hB (unhide HK2))
  have fv : ∀ j, w2.frozen? ⟨V, j, none⟩ = false := frozen_of_blk (unhide HT2).blk
  have pv : w2.cell? ⟨V, i, none⟩ = some (slotP (st i)) := by
    rw [cell_of_blk (unhide HT2).blk]
    obtain rfl | rfl | rfl : i = 0 ∨ i = 1 ∨ i = 2 := by omega
    all_goals rfl
  have rv : w2.cell? ⟨V, 3 + i, none⟩ = some (slotR (st i)) := by
    rw [cell_of_blk (unhide HT2).blk]
    obtain rfl | rfl | rfl : i = 0 ∨ i = 1 ∨ i = 2 := by omega
    all_goals rfl
  have hVlt := lt_of_block (unhide HT2).blk
  have hVw := lt_of_block (unhide HT).blk
  have hVw1 : V < w1.heap.size := Nat.lt_of_lt_of_le hVw (unhide HK1).size
  have hne1 : w.heap.size ≠ V := by omega
  have hne2 : V ≠ w.heap.size := by omega
  have hz2 := (unhide HK2).size
  clear hrow hk2 hb2 HCP HW1 HT hi HO HK1 HB1
  by_cases hv : 1 ≤ a ∧ a ≤ 16384 ∧ 32 ≤ b ∧ b ≤ 1024
  · obtain ⟨h1, h2, h3, h4⟩ := hv
    obtain ⟨n, rfl⟩ := Int.eq_ofNat_of_zero_le (show 0 ≤ a by omega)
    obtain ⟨s, rfl⟩ := Int.eq_ofNat_of_zero_le (show 0 ≤ b by omega)
    obtain ⟨w3, hw3⟩ : ∃ w3, w3 = ((w2.alloc (.cells (bs (List.replicate (n * s) 0)).toArray 5)).alloc (.map #[] 0)).alloc (.cells (dcells n s (.slice (some ⟨w2.heap.size, 0, none⟩) (n * s) (n * s)) (.slice none 0 0) (w2.heap.size + 1) (-1) false 0 0 0) 89) := ⟨_, rfl⟩
    have hk3 : Keeps (fun _ => False) w2 w3 := by rw [hw3]; exact (((Keeps.refl _ _).alloc _).alloc _).alloc _
    have hd3 := new_at w2 n s (by omega) (by omega) (by omega) (by omega)
    have hn3 := new_yes n s w2 (by omega) (by omega) (by omega) (by omega)
    rw [← hw3] at hd3 hn3
    have HN1 := hide hn3
    have HN2 := hide (refNew_yes n s w3 (by omega) (by omega) (by omega) (by omega))
    have HD3 := hide hd3
    have HK3 := hide hk3
    have hb3 := (hk3.block _ (lt_of_block (unhide HB2)) id).trans (unhide HB2)
    have g2 := cell_of_blk hb3 2
    have g3 := cell_of_blk hb3 3
    have g4 := cell_of_blk hb3 4
    simp at g2 g3 g4
    have hlw : w.heap.size < w2.heap.size := lt_of_block (unhide HB2)
    clear hw3 hk3 hd3 hn3 h1 h2 h3 h4 hb3
    go_wp2_with fail
    refine (unhide HN1).mono ?_
    rintro e w' ⟨rfl, h⟩; subst w'
    go_wp2_with fail
    refine (unhide HN2).mono ?_
    rintro e w4 ⟨rfl, hr4, hk4⟩
    have hk24 := (unhide HK3).trans hk4
    have hduo := duo_fresh (N := N) (Nat.le_trans hB hz2) (unhide HD3) rfl hk4 hr4 (unhide HK3).size (Rel.new _ _ _ n s _) ⟨Nat.zero_le _, Nat.zero_le _, ⟨Int.le_refl _, by simp [newDS]⟩, ⟨Int.le_refl _, by simp [newDS]⟩, ⟨Int.le_refl _, by simp [newDS]⟩, by simp [newDS]⟩
    have hst := (unhide HT2).store i hi3 (some (newDS w2.heap.size n s, newRS w3.heap.size n s)) (Nat.le_refl _) hk24 (fun S R h => by cases h; exact hduo)
    have HS := hide hst.1
    have HSK := hide ((unhide HK2').trans hst.2)
    have HE := hide (same_bytes hV (unhide HO2) (Nat.le_trans hB hz2) hst.2 (ownsRow_kept (unhide HROW) hk24 (fun _ _ => id)) hVw1 ((kD _ V i _).trans (kD _ V (3 + i) _)))
    simp only [slotP, slotR, Option.map_some, newDS, newRS] at HS HSK HE
    have hb4 := (hk24.block _ (lt_of_block (unhide HB2)) id).trans (unhide HB2)
    have k4 := cell_of_blk hb4 4
    simp at k4
    have fv4 : ∀ j, w4.frozen? ⟨V, j, none⟩ = false := frozen_of_blk ((unhide HT2).keep hk24).blk
    have pv4 := (hk24.cell hVlt id).trans pv
    have rv4 := (hk24.cell hVlt id).trans rv
    have hVlt4 := Nat.lt_of_lt_of_le hVlt hk24.size
    clear hst hduo hr4 hk4 hk24 hb4
    go_wp2_with fail
    refine (unhide HE).mono ?_
    rintro e w'' ⟨rfl, n', rfl⟩
    go_wp2
    go_ret
    exact ⟨rfl, _, (unhide HS).keep (keeps_drewN _ n'), (unhide HSK).trans ((keeps_drewN _ n').mono (fun _ _ f => f.elim))⟩
  · have HN1 := hide (new_no a b w2 hv)
    have HN2 := hide (refNew_no a b w2 hv)
    clear hv
    have hst := (unhide HT2).store i hi3 none (Nat.le_refl _) (Keeps.refl _ w2) (fun _ _ h => by cases h)
    have HS := hide hst.1
    have HSK := hide ((unhide HK2').trans hst.2)
    have HE := hide (same_bytes hV (unhide HO2) (Nat.le_trans hB hz2) hst.2 (unhide HROW) hVw1 ((kD w2 V i (slotP none)).trans (kD _ V (3 + i) (slotR none))))
    simp only [slotP, slotR, Option.map_none] at HS HSK HE
    clear hst
    go_wp2_with fail
    refine (unhide HN1).mono ?_
    rintro e w' ⟨rfl, h⟩; subst w'
    go_wp2_with fail
    refine (unhide HN2).mono ?_
    rintro e w' ⟨rfl, h⟩; subst w'
    go_wp2_with fail
    refine (unhide HE).mono ?_
    rintro e w'' ⟨rfl, n, rfl⟩
    go_wp2
    go_ret
    exact ⟨rfl, _, (unhide HS).keep (keeps_drewN _ n), (unhide HSK).trans ((keeps_drewN _ n).mono (fun _ _ f => f.elim))⟩

end Go.Proofs.Ytjmbcelkhiopeaa
