import Derived.Test.YtdkihkgmldnpmabX
namespace Go.Proofs.Ytdkihkgmldnpmab
open Go.RowKit Go.Maps

set_option maxRecDepth 100000 in
set_option maxHeartbeats 400000 in
theorem rnew_no (w : World) (n : Int) (h : n < 1 ∨ 2048 < n) :
    Calls Try.prog 28 #[.int .i64 n] w fun e w' => e = .returned (.tuple #[.pointer none, .int .i64 1]) ∧ w' = w := by
  by_cases h1 : n < 1
  · go_enter Try.func28, Try.ntmps28
    go_wp2
    go_ret2
    exact ⟨rfl, rfl⟩
  · have h2 : 2048 < n := by omega
    go_enter Try.func28, Try.ntmps28
    go_wp2
    go_ret2
    exact ⟨rfl, rfl⟩

set_option maxRecDepth 100000 in
set_option maxHeartbeats 400000 in
theorem rload_arg (w : World) (n : Int) (v : Value) (h : n < 1 ∨ 2048 < n) :
    Calls Try.prog 11 #[.int .i64 n, v] w fun e w' => e = .returned (.tuple #[.pointer none, .int .i64 1]) ∧ w' = w := by
  have HN := hide (rnew_no w n h)
  clear h
  go_enter Try.func11, Try.ntmps11
  go_wp2_with fail
  refine (unhide HN).mono ?_
  rintro e w ⟨rfl, rfl⟩
  go_wp2
  go_ret2
  exact ⟨rfl, rfl⟩

set_option maxRecDepth 100000 in
set_option maxHeartbeats 400000 in
theorem rload_size (w : World) (n : Nat) (h1 : 1 ≤ n) (h2 : n ≤ 2048) (ao : Option Addr) (len cap : Nat) (hl : len ≠ nb n) :
    Calls Try.prog 11 #[.int .i64 n, .slice ao len cap] w fun e w' => e = .returned (.tuple #[.pointer none, .int .i64 12]) ∧ Keeps (fun _ => False) w w' := by
  have HN := hide (rnew_yes w n h1 h2)
  have hne : ((len : Int) != ((n : Int) + 7) / 8) = true := by rw [bne_iff_ne]; unfold nb at hl; omega
  clear hl
  go_enter Try.func11, Try.ntmps11
  go_wp2_with fail
  refine (unhide HN).mono ?_
  rintro e w1 ⟨T, rfl, -, hk⟩
  have HK := hide hk
  clear hk
  go_wp2
  go_ret2
  exact ⟨rfl, unhide HK⟩

theorem unpTo_set (n : Nat) (l : List Int) (k : Nat) (hk : k < n) : unpTo n l (k + 1) = (unpTo n l k).set k (bitI l k) := by
  cases h : bitI l k with
  | true => exact unpTo_yes n l k h hk
  | false =>
    rw [unpTo_no n l k h]
    apply List.ext_getElem?
    intro i
    rw [List.getElem?_set]
    by_cases e : k = i
    · subst e; simp [unpTo, hk]
    · rw [if_neg e]

def bkOf (n : Nat) (f : List Bool) : Bk := ⟨n, f, f, f⟩

set_option maxRecDepth 100000 in
set_option maxHeartbeats 2000000 in
theorem rload_fit (w : World) (n : Nat) (h1 : 1 ≤ n) (h2 : n ≤ 2048) (v : Value) (l : List Int) (hR : Cells w v (bs l)) (hb : ∀ x ∈ l, 0 ≤ x ∧ x ≤ 255) (hl : l.length = nb n) :
    Calls Try.prog 11 #[.int .i64 n, v] w fun e w' => Keeps (fun _ => False) w w' ∧
      (((∀ i, n ≤ i → i < 8 * l.length → bitI l i = false) ∧ ∃ T : TR, e = .returned (.tuple #[.pointer (some ⟨T.V, 0, none⟩), .int .i64 0]) ∧ TriBk w' w.heap.size 73 T (bkOf n (unpack n l))) ∨
       ((∃ i, n ≤ i ∧ i < 8 * l.length ∧ bitI l i = true) ∧ e = .returned (.tuple #[.pointer none, .int .i64 31]))) := by
  have HN := hide (rnew_yes w n h1 h2)
  have hm : nb n ≤ 256 := by unfold nb; omega
  have hnm : n ≤ 8 * nb n := by unfold nb; omega
  have hq : (((nb n : Nat) : Int) != ((n : Int) + 7) / 8) = false := by simp [nb]
  have HB := hide hb
  have HL := hide hl
  have HR := hide hR
  obtain ⟨ao, cap, rfl⟩ := hR.form
  rw [bs_length, hl] at HR ⊢
  clear hR hb hl
  generalize hmn : nb n = m at *
  clear hmn
  go_enter Try.func11, Try.ntmps11
  go_wp2_with fail
  refine (unhide HN).mono ?_
  rintro e w1 ⟨T, rfl, hT1, hk1⟩
  have HT1 := hide hT1
  have HK1 := hide hk1
  have HR1 := hide ((unhide HR).keepF hk1)
  clear hT1 hk1
  go_wp2
  clear hq
  go_loop [8, 9] (fun i _ => ∃ k : Nat, n ≤ k ∧ k ≤ 8 * m ∧ i = .int .i64 k ∧ (∀ i, n ≤ i → i < k → bitI l i = false)) (fun i _ => 8 * m - (intOf i).toNat)
  case atStart => exact ⟨n, Nat.le_refl _, hnm, rfl, fun _ _ h => by omega⟩
  case round =>
    obtain ⟨k, hnk, hk, rfl, hno⟩ := hrel
    have HNO := hide hno
    clear hno
    by_cases hlt : k < 8 * m
    · have hk8 : k / 8 < l.length := by have := unhide HL; omega
      have HBI := hide (rbit_any w1 _ l (unhide HR1) (unhide HB) k hk8 (by have := unhide HL; omega))
      have HLT := hide hlt
      have i4 : (k : Int) < 8 * (m : Int) := by omega
      clear hk8
      cases hbit : bitI l k with
      | true =>
        rw [hbit] at HBI
        have HBT := hide hbit
        clear hbit
        go_wp2_with fail
        refine (unhide HBI).mono ?_; rintro e w1 ⟨rfl, rfl⟩
        go_wp2
        go_ret2
        exact ⟨unhide HK1, Or.inr ⟨⟨k, hnk, by have := unhide HL; omega, unhide HBT⟩, rfl⟩⟩
      | false =>
        rw [hbit] at HBI
        have HBT := hide hbit
        clear hbit
        go_wp2_with fail
        refine (unhide HBI).mono ?_; rintro e w1 ⟨rfl, rfl⟩
        go_wp2
        go_round
        case rel =>
          refine ⟨k + 1, by omega, by omega, by go_num, fun i h3 h4 => ?_⟩
          by_cases e : i = k
          · rw [e]; exact unhide HBT
          · exact unhide HNO i h3 (by omega)
        case measure => simp [intOf]; omega
    · have e : k = 8 * m := by omega
      subst e
      have HALL : Hid (∀ i, n ≤ i → i < 8 * l.length → bitI l i = false) := fun i h3 h4 => unhide HNO i h3 (by have := unhide HL; omega)
      clear HNO
      go_wp2
      go_loopw [10] (fun i wr => ∃ k : Nat, k ≤ n ∧ i = .int .i64 k ∧ TriBk wr w.heap.size 73 T ⟨n, unpTo n l k, List.replicate n false, List.replicate n false⟩ ∧ Keeps (fun _ => False) w wr ∧ Cells wr (.slice ao m cap) (bs l)) (fun i _ => n - (intOf i).toNat)
      case atStart => exact ⟨0, Nat.zero_le _, rfl, by rw [unpTo_zero]; exact unhide HT1, unhide HK1, unhide HR1⟩
      case round =>
        obtain ⟨k, hk, rfl, hT, hK, hC⟩ := hrel
        have HT := hide hT
        have HK := hide hK
        have HC := hide hC
        have c0 := hT.c0
        simp only at c0
        clear hT hK hC
        by_cases hlt : k < n
        · have hk8 : k / 8 < l.length := by have := unhide HL; omega
          have HBI := hide (rbit_any wr.drew _ l ((unhide HC).drewN 1) (unhide HB) k hk8 (by have := unhide HL; omega))
          have HTD := hide ((unhide HT).keepF (keeps_drewN wr 1))
          have p0 := (unhide HT).e1 (i := k) hlt
          simp only at p0
          have f0 := (unhide HT).f1 k
          have HSET := hide (unpTo_set n l k hlt)
          have i3 : (k : Int) < (n : Int) := by omega
          have i4 : (0 : Int) ≤ (k : Int) := by omega
          have HTU := hide ((unhide HT).turn k (bitI l k))
          generalize bitI l k = bt at *
          clear hk8
          go_wp2_with fail
          go_region_law (first
            | (go_simp; go_at_call 29; refine (unhide HBI).mono ?_; rintro e wa ⟨rfl, rfl⟩))
          all_goals
            go_wp2
            go_roundw
            case rel =>
              have hk3 : Keeps T.has wr (wr.setCell ⟨T.g1, k, none⟩ (.bool bt)) := (unhide HTU).2
              refine ⟨k + 1, by omega, by go_num, ?_, ?_, ?_⟩
              · rw [unhide HSET]; exact (unhide HTU).1.keepF (keeps_drewN _ 1)
              · exact ((unhide HK).then hk3 (fun i hi e => by have := (unhide HT).has_lo i e; omega)).drew
              · refine ((unhide HC).kept hk3 (fun q e1 e2 => ?_)).drewN 1
                have h6 := (unhide HT).has_lo q e2
                by_cases h0 : 0 < (bs l).length
                · obtain ⟨b', off', c', e', hlt', _⟩ := (unhide HR).cells h0
                  rw [e'] at e1
                  simp [Value.ownBlock] at e1
                  omega
                · rw [bs_length] at h0
                  have := unhide HL
                  omega
            case measure => simp [intOf]; omega
        · have e : k = n := by omega
          rw [e, unpTo_all n l n (Nat.le_refl _)] at HT
          have H1 := hide (copied_now (unhide HT) 1 (Or.inl rfl))
          simp only [if_true] at H1
          clear e
          go_wp2_with fail
          refine (unhide H1).mono ?_
          rintro e w2 ⟨g, cp, rfl, hg, ⟨x, hx⟩, hfz, hk2, hT2⟩
          have HK2 := hide ((unhide HK).then hk2 (fun i hi e => by have := (unhide HT).has_lo i e; omega))
          have HT2 := hide hT2
          have d0 := hT2.c0
          have H2 := hide (copied_now hT2 2 (Or.inr rfl))
          simp only [show ((2 : Nat) = 1) = False from by simp, if_false] at H2 d0
          clear hk2 hT2 hg
          go_wp2_with fail
          refine (unhide H2).mono ?_
          rintro e w3 ⟨g3, cp3, rfl, hg3, ⟨x3, hx3⟩, hfz3, hk3, hT3⟩
          have HK3 := hide ((unhide HK2).then hk3 (fun i hi e => by have := (unhide HT2).has_lo i e; omega))
          have HT3 := hide hT3
          clear hk3 hT3 hg3
          go_wp2
          go_ret2
          exact ⟨unhide HK3, Or.inl ⟨fun i h3 h4 => unhide HALL i h3 (by have := unhide HL; omega), ⟨T.V, T.g1, T.c1, g, cp, g3, cp3⟩, rfl, unhide HT3⟩⟩

end Go.Proofs.Ytdkihkgmldnpmab
