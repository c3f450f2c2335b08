import Derived.Test.YtdkihkgmldnpmabZa
import Derived.Test.YtdkihkgmldnpmabG
namespace Go.Proofs.Ytdkihkgmldnpmab
open Go.RowKit Go.Maps

structure OpA where
  who : Int
  kind : Int
  n : Int
  bv : Value
  bytes : List Int
def OpA.cells (o : OpA) : Array Value := #[.int .i64 o.who, .int .i64 o.kind, .int .i64 o.n, o.bv]

structure OpAt (w : World) (B : Nat) (o : OpA) : Prop where
  bits : Cells w o.bv (bs o.bytes)
  blk : ∀ b off n c, o.bv = .slice (some ⟨b, off, none⟩) n c → 0 < o.bytes.length → b < B
  rng : ∀ x ∈ o.bytes, 0 ≤ x ∧ x ≤ 255
  len : o.bytes.length ≤ 140737488355328

theorem OpAt.kept {w w' : World} {B : Nat} {o : OpA} (h : OpAt w B o) {F : Nat → Prop} (hk : Keeps F w w') (hF : ∀ k, F k → B ≤ k) : OpAt w' B o := by
  refine ⟨⟨h.bits.form, fun h0 => ?_⟩, h.blk, h.rng, h.len⟩
  obtain ⟨b, off, cap, e, hb, hc⟩ := h.bits.cells h0
  have hlt := h.blk b off _ _ e (by rw [bs_length] at h0; exact h0)
  refine ⟨b, off, cap, e, Nat.lt_of_lt_of_le hb hk.size, fun j x hx => ?_⟩
  rw [hk.cell hb (fun f => by have := hF b f; omega)]
  exact hc j x hx

set_option maxRecDepth 100000 in
set_option maxHeartbeats 2000000 in
theorem asks_any (w : World) (V B : Nat) (st : Nat → Slot) (t : Trio w V B st) (o : OpA) (hO : OpAt w B o) :
    Calls Try.prog 45 #[.pointer (some ⟨V, 0, none⟩), .agg o.cells] w fun e w' => e = .returned (.bool true) ∧ Trio w' V B st ∧ Keeps (fun _ => False) w w' := by
  obtain ⟨wh, kd, a, bv, bytes⟩ := o
  obtain ⟨bo, bc, hbv⟩ := hO.bits.form
  simp only [bs_length] at hbv
  subst hbv
  simp only [OpA.cells]
  obtain ⟨i, hi, hi3⟩ := mod3 wh
  have HT := hide t
  obtain ⟨w1, hw1⟩ : ∃ w1, w1 = w.alloc (.cells #[.int .i64 wh, .int .i64 kd, .int .i64 a, .slice bo bytes.length bc] 39) := ⟨_, rfl⟩
  have hb1 : w1.heap[w.heap.size]? = some (.cells #[.int .i64 wh, .int .i64 kd, .int .i64 a, .slice bo bytes.length bc] 39 (0, 0)) := by rw [hw1]; exact heap_alloc_new w _
  have hk1 : Keeps (fun _ => False) w w1 := by rw [hw1]; exact (Keeps.refl _ _).alloc _
  have t1 := t.keep hk1
  have c0 := cell_of_blk hb1 0
  have c1 := cell_of_blk hb1 1
  simp at c0 c1
  obtain ⟨pv, rv⟩ := slot_cells t1 i hi3
  obtain ⟨pp, hpp⟩ : ∃ pp, slotP (st i) = .pointer pp := ⟨_, rfl⟩
  obtain ⟨rp, hrp⟩ : ∃ rp, slotR (st i) = .pointer rp := ⟨_, rfl⟩
  rw [hpp] at pv
  rw [hrp] at rv
  have hi0 : (0 : Int) ≤ (i : Int) := by omega
  have hi3' : (i : Int) < 3 := by omega
  have HW1 := hide hw1
  have HK1 := hide hk1
  have HT1 := hide t1
  have HPP := hide hpp
  have HRP := hide hrp
  have hwho := who_any wh
  rw [hi] at hwho
  have HWH := hide hwho
  clear t hO hb1 hw1 hk1 t1 hwho hi hpp hrp
  go_enter Try.func45, Try.ntmps45
  go_wp2_with fail
  rw [← unhide HW1]
  go_region_held3 (fun w' => w'.cell? ⟨w.heap.size, 0, none⟩ = some (.int .i64 wh) ∧ w'.cell? ⟨V, i, none⟩ = some (.pointer pp))
    (go_keep)
    (first | (go_at_call 8; refine (unhide HWH _).mono ?_; rintro e wa ⟨rfl, rfl⟩))
  go_wp2_with fail
  go_region_held3 (fun w' => w'.cell? ⟨w.heap.size, 0, none⟩ = some (.int .i64 wh) ∧ w'.cell? ⟨V, 3 + i, none⟩ = some (.pointer rp))
    (go_keep)
    (first | (go_at_call 8; refine (unhide HWH _).mono ?_; rintro e wa ⟨rfl, rfl⟩))
  have t2 := (unhide HT1).keep (Keeps.refl _ w1).drew.drew
  have HT2 := hide t2
  have HK2 := hide ((unhide HK1).trans (Keeps.refl _ w1).drew.drew)
  by_cases h8 : kd = 8
  · subst h8
    obtain ⟨l, hl, hp⟩ := look_used t2 i
    rw [unhide HPP, unhide HRP] at hp
    have HP := hide hp
    clear hp t2
    go_wp2_with fail
    refine (unhide HP).mono ?_
    rintro e w3 ⟨v, rfl, hc3⟩
    have HC3 := hide hc3
    clear hc3 HP
    go_wp2_with fail
    refine (unhide HC3).mono ?_
    rintro e w4 ⟨v2, rfl, h1, h2, hk4⟩
    have HE := hide (eqInts_any w4 v v2 l l h1 h2 (by unfold maxLen; omega))
    rw [decide_eq_true rfl] at HE
    have HK4 := hide hk4
    clear h1 h2 hk4 HC3
    go_wp2_with fail
    refine (unhide HE).mono ?_
    rintro e w5 ⟨rfl, n, rfl⟩
    go_wp2
    go_ret
    exact ⟨rfl, ((unhide HT2).keep (unhide HK4)).keep (keeps_drewN _ n), ((unhide HK2).trans (unhide HK4)).drewN n⟩
  · have h8' : (kd == 8) = false := beq_eq_false_iff_ne.2 h8
    clear h8
    by_cases h9 : kd = 9
    · subst h9
      obtain ⟨a, hp⟩ := look_left t2 i
      rw [unhide HPP, unhide HRP] at hp
      have HP := hide hp
      clear hp t2
      go_wp2_with fail
      refine (unhide HP).mono ?_
      rintro e w3 ⟨rfl, hc3⟩
      have HC3 := hide hc3
      clear hc3 HP
      go_wp2_with fail
      refine (unhide HC3).mono ?_
      rintro e w4 ⟨rfl, hk4⟩
      have HK4 := hide hk4
      clear hk4 HC3
      go_wp2
      go_ret
      exact ⟨ret_bool (by first | rfl | simp), (unhide HT2).keep (unhide HK4), (unhide HK2).trans (unhide HK4)⟩
    · have h9' : (kd == 9) = false := beq_eq_false_iff_ne.2 h9
      clear h9
      obtain ⟨l, hl, hp⟩ := look_bits t2 i
      rw [unhide HPP, unhide HRP] at hp
      have HP := hide hp
      clear hp t2
      go_wp2_with fail
      refine (unhide HP).mono ?_
      rintro e w3 ⟨v, rfl, hc3⟩
      have HC3 := hide hc3
      clear hc3 HP
      go_wp2_with fail
      refine (unhide HC3).mono ?_
      rintro e w4 ⟨v2, rfl, h1, h2, hk4⟩
      have HE := hide (eqBytes_any w4 v v2 l l h1 h2 (by unfold maxLen; omega))
      rw [decide_eq_true rfl] at HE
      have HK4 := hide hk4
      clear h1 h2 hk4 HC3
      go_wp2_with fail
      refine (unhide HE).mono ?_
      rintro e w5 ⟨rfl, n, rfl⟩
      go_wp2
      go_ret
      exact ⟨rfl, ((unhide HT2).keep (unhide HK4)).keep (keeps_drewN _ n), ((unhide HK2).trans (unhide HK4)).drewN n⟩

end Go.Proofs.Ytdkihkgmldnpmab
