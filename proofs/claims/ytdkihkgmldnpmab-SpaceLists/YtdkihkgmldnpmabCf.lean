import Derived.Test.YtdkihkgmldnpmabCe
namespace Go.Proofs.Ytdkihkgmldnpmab
open Go.RowKit Go.Maps

theorem listed_any (w : World) (V B : Nat) (st : Nat → Slot) (b : Book) (h : LI w V B st b) (hB : B ≤ w.heap.size) (hn : b.n ≤ 8589934592) (o : OpA) (hO : OpAt w B o) (hlen : o.bytes.length ≤ 140737488351232) :
    Calls Try.prog 5 #[.pointer (some ⟨V, 0, none⟩), .pointer (some ⟨b.K, 0, none⟩), .agg o.cells] w fun e w' => e = .returned (.bool true) ∧ ∃ st' b', LI w' V B st' b' ∧ b'.K = b.K ∧ b'.n ≤ b.n + 1 ∧ Keeps (fun k => B ≤ k) w w' := by
  by_cases hkd : o.kind = 2
  · exact listed_load w V B st b h hB hn o hO hlen hkd
  · exact listed_asks w V B st b h hB hn o hO hkd

theorem li_new (w : World) (B : Nat) (hB : B ≤ w.heap.size) : LI ((w.alloc (.cells (vcells fun _ => none) 30)).alloc (.cells #[.slice none 0 0, .slice none 0 0, .slice none 0 0, .slice none 0 0, .int .i64 0] 35)) w.heap.size B (fun _ => none)
    ⟨w.heap.size + 1, .slice none 0 0, .slice none 0 0, .slice none 0 0, .slice none 0 0, [], [], [], [], 0, fun _ => False⟩ := by
  have h1 : (w.alloc (.cells (vcells fun _ => none) 30)).heap.size = w.heap.size + 1 := by simp
  refine ⟨(trio_new w B hB).keep ((Keeps.refl _ _).alloc _), ⟨?_, by show B ≤ w.heap.size + 1; omega, by simpa using World.ownsRow_nil _ B 51 1, by simpa using World.ownsRow_nil _ B 51 1, by simpa using World.ownsRow_nil _ B 37 1, by simpa using World.ownsRow_nil _ B 37 1, fun k h => by simp [Value.ownBlock] at h, fun k h => by simp [Value.ownBlock] at h, rfl, rfl, by simp, by simp, fun k h => h.elim, fun i p q hp => by simp at hp, fun i p q hp => by simp at hp⟩, fun i x h => h.elim⟩
  have := heap_alloc_new (w.alloc (.cells (vcells fun _ => none) 30)) (.cells #[.slice none 0 0, .slice none 0 0, .slice none 0 0, .slice none 0 0, .int .i64 0] 35)
  rw [h1] at this
  exact this

set_option maxRecDepth 100000 in
set_option maxHeartbeats 8000000 in
theorem lists_any (w : World) (v : Value) (ops : List OpA) (hS : Script w w.heap.size v ops) (hlen : ops.length ≤ 2147483647) :
    Calls Try.prog 3 #[v] w fun e w' => e = .returned (.bool true) ∧ Below w.heap.size w w' := by
  obtain ⟨ao, cap, rfl⟩ := hS.form
  have HS := hide hS
  have hN : decide ((2147483647 : Int) < (ops.length : Int)) = false := by simp; omega
  obtain ⟨w1, hw1⟩ : ∃ w1, w1 = (w.alloc (.cells (vcells fun _ => none) 30)).alloc (.cells #[.slice none 0 0, .slice none 0 0, .slice none 0 0, .slice none 0 0, .int .i64 0] 35) := ⟨_, rfl⟩
  have l1 := li_new w w.heap.size (Nat.le_refl _)
  rw [← hw1] at l1
  have hk1 : Keeps (fun x => w.heap.size ≤ x) w w1 := by rw [hw1]; exact ((Keeps.refl _ _).alloc _).alloc _
  simp only [vcells, slotP, slotR, Option.map_none] at hw1
  have HW1 := hide hw1
  have HL1 := hide l1
  have HK1 := hide hk1
  clear hS hw1 l1 hk1
  go_enter Try.func3, Try.ntmps3
  go_wp2_with fail
  refine (long_any _ _).mono ?_
  rintro e w ⟨rfl, rfl⟩
  go_wp2_with fail
  rw [← unhide HW1]
  go_loopw [5] (fun iv wr => ∃ (i : Nat) (st : Nat → Slot) (b : Book), i ≤ ops.length ∧ iv = .int .i64 i ∧ LI wr w.heap.size w.heap.size st b ∧ b.K = w.heap.size + 1 ∧ b.n ≤ i ∧ Keeps (fun x => w.heap.size ≤ x) w wr) (fun iv _ => ops.length - (intOf iv).toNat)
  case atStart => exact ⟨0, _, _, Nat.zero_le _, rfl, unhide HL1, rfl, Nat.le_refl _, unhide HK1⟩
  case round =>
    obtain ⟨i, st, b, hi, rfl, hL, hKK, hbn, hKp⟩ := hrel
    by_cases hlt : i < ops.length
    · obtain ⟨g, off, cap', e1, hbB, hblt, hc⟩ := ((unhide HS).kept hKp).cells (by omega)
      simp at e1
      obtain ⟨rfl, rfl⟩ := e1
      obtain ⟨o, ho⟩ : ∃ o, ops[i]? = some o := ⟨_, List.getElem?_eq_getElem hlt⟩
      obtain ⟨hO, hOl⟩ := ((unhide HS).kept hKp).each o (List.mem_of_getElem? ho)
      obtain ⟨d0, d1, d2, d3⟩ := hc i o ho
      have i1 : (i : Int) < (ops.length : Int) := by omega
      have i0 : (0 : Int) ≤ (i : Int) := by omega
      have HC := hide (listed_any wr w.heap.size w.heap.size st b hL hKp.size (by omega) o hO hOl)
      rw [hKK] at HC
      obtain ⟨wh, kd, a, bv, bytes⟩ := o
      obtain ⟨bo, bc, hbv⟩ := hO.bits.form
      simp only [bs_length] at hbv d0 d1 d2 d3
      subst hbv
      simp only [OpA.cells] at HC
      have HKp := hide hKp
      clear hc ho hO hL hKp hKK
      go_wp2_with fail
      refine (unhide HC).mono ?_
      rintro e w3 ⟨rfl, st', b', l3, hK3, hb3, hk3⟩
      have HW := hide (whole_any w3 w.heap.size b' l3.k (by omega))
      rw [hK3] at HW
      have HL3 := hide l3
      have HK3 := hide ((unhide HKp).trans hk3)
      have HKK3 := hide hK3
      clear l3 hk3 hK3 HC d0 d1 d2 d3
      go_wp2_with fail
      refine (unhide HW).mono ?_
      rintro e w4 ⟨rfl, q, rfl⟩
      have HL4 := hide ((unhide HL3).keep (keeps_drewN w3 q))
      have HK4 := hide ((unhide HK3).trans (keeps_drewN w3 q).any)
      clear HW
      generalize w3.drewN q = w5 at *
      go_wp2
      go_roundw
      case rel => exact ⟨i + 1, st', b', by omega, by go_num, unhide HL4, unhide HKK3, by omega, unhide HK4⟩
      case measure => simp [intOf]; omega
    · obtain rfl : i = ops.length := by omega
      clear hlt hi
      have HT := hide (strewn_any wr w.heap.size _ ops ((unhide HS).kept hKp) hKp.size hlen)
      have HKp := hide hKp
      clear hL hKp hKK
      go_wp2_with fail
      refine (unhide HT).mono ?_
      rintro e w3 ⟨rfl, hk3⟩
      have HB := hide (((unhide HKp).trans hk3).below (Nat.le_refl _) (fun _ h => h))
      clear hk3 HT
      go_wp2
      go_ret
      exact ⟨rfl, unhide HB⟩

set_option maxRecDepth 100000 in
theorem lists_long (w : World) (ao : Option Addr) (len cap : Nat) (hl : 2147483647 < len) :
    Calls Try.prog 3 #[.slice ao len cap] w fun e w' => e = .returned (.bool true) ∧ Below w.heap.size w w' := by
  have hN : decide ((2147483647 : Int) < (len : Int)) = true := by simp; omega
  go_enter Try.func3, Try.ntmps3
  go_wp2_with fail
  refine (long_any _ _).mono ?_
  rintro e w2 ⟨rfl, rfl⟩
  go_wp2
  go_ret
  exact ⟨rfl, Below.refl _ _⟩

theorem spaceLists_walk (w : World) (ao : Option Addr) (len cap : Nat) (ops : List OpA) (hS : Script w w.heap.size (.slice ao len cap) ops) (hl : ops.length = len) :
    Calls Try.prog 3 #[.slice ao len cap] w fun e w' => e = .returned (.bool true) ∧ Below w.heap.size w w' := by
  by_cases hlong : len ≤ 2147483647
  · exact lists_any w _ ops hS (by omega)
  · exact lists_long w ao len cap (by omega)

end Go.Proofs.Ytdkihkgmldnpmab
