import Derived.Test.YtdkihkgmldnpmabE
namespace Go.Proofs.Ytdkihkgmldnpmab
open Go.RowKit Go.Maps

set_option maxRecDepth 100000 in
set_option maxHeartbeats 1000000 in
theorem copyBytes_any (w : World) (v : Value) (l : List Int) (hR : Cells w v (bs l)) (hl : l.length ≤ 140737488355328) :
    Calls Try.prog 9 #[v] w fun e w' => ∃ v', e = .returned v' ∧ w'.ownsRow w.heap.size 5 1 v' l.length (bs l) ∧ Keeps (fun _ => False) w w' := by
  obtain ⟨i0, hi, hz0, hz1, hz2⟩ := info_parts Try.info5
  obtain ⟨ao, cap, rfl⟩ := hR.form
  have HR := hide hR
  have HL := hide hl
  have hl' : l.length ≤ 9223372036854775807 := by omega
  clear hR hl
  simp only [bs_length] at *
  go_enter Try.func9, Try.ntmps9
  go_wp2
  go_loopw [3, 4] (fun o i wr => ∃ k : Nat, k ≤ l.length ∧ i = .int .i64 k ∧ wr.ownsRow w.heap.size 5 1 o k (bs (l.take k)) ∧ Keeps (fun _ => False) w wr) (fun _ i _ => l.length - (intOf i).toNat)
  case atStart => exact ⟨0, Nat.zero_le _, rfl, by simpa [bs] using World.ownsRow_nil w w.heap.size 5 1, Keeps.refl _ _⟩
  case round =>
    obtain ⟨k, hk, rfl, hown, hkeep⟩ := hrel
    have HO := hide hown
    have HK := hide hkeep
    clear hown hkeep
    by_cases hlt : k < l.length
    · obtain ⟨b, off, c, e1, hblt, hc⟩ := (unhide HR).cells (by rw [bs_length]; omega)
      simp [bs_length] at e1
      obtain ⟨rfl, rfl⟩ := e1
      obtain ⟨x, hx⟩ : ∃ x, l[k]? = some x := ⟨_, List.getElem?_eq_getElem hlt⟩
      have p0 := ((unhide HK).cell (o := off + k) hblt id).trans (hc k (.int .u8 x) (by rw [bs_get, hx]; rfl))
      have HX := hide hx
      have i1 : (k : Int) < (l.length : Int) := by omega
      have i0' : (0 : Int) ≤ (k : Int) := by omega
      clear hc hx
      go_wp2_with (at_builtin; refine wpList_append_lies _ rfl _ _ _ rfl w.heap.size 5 i0 _ 1 1 Try.underlying37 hi hz0 hz1 hz2 rfl (by omega) u3 k (bs (l.take k)) rfl ((unhide HO).alloc _) ⟨wr.heap.size, 0, none⟩ 1 1 [.int .u8 x] rfl rfl (World.news_of_block (cs := #[.int .u8 x]) (t := 5) (fr := (0, 0)) (heap_alloc_new wr _)) (by simp [Value.oneCell']) (by omega) (by unfold maxLen; omega) (by have := unhide HL; omega) (by have := (unhide HK).size; simp; omega) (wr.heap.size + 1) (by simp) ?_; intro g cap w1 hown1 hgrow hat hlt1)
      go_roundw
      case rel =>
        refine ⟨k + 1, by omega, by go_num, ?_, ((unhide HK).alloc _).grown hgrow (fun q e hq => by have := ((unhide HO).lt q e).1; omega)⟩
        rw [take_snoc _ _ _ (unhide HX)]
        simpa [bs] using hown1
      case measure => simp [intOf]; omega
    · go_wp2
      go_ret
      obtain rfl : k = l.length := by omega
      refine ⟨_, rfl, ?_, unhide HK⟩
      have := unhide HO
      rwa [List.take_length] at this

theorem take_succ_eq {a b : List Int} {k : Nat} (h : a.take k = b.take k) {x : Int} (ha : a[k]? = some x) (hb : b[k]? = some x) : a.take (k + 1) = b.take (k + 1) := by
  rw [take_snoc _ _ _ ha, take_snoc _ _ _ hb, h]

set_option maxRecDepth 100000 in
set_option maxHeartbeats 1000000 in
theorem eqBytes_any (w : World) (va vb : Value) (la lb : List Int) (ha : Cells w va (bs la)) (hb : Cells w vb (bs lb)) (hla : la.length ≤ maxLen) :
    Calls Try.prog 12 #[va, vb] w fun e w' => e = .returned (.bool (decide (la = lb))) ∧ ∃ n, w' = w.drewN n := by
  obtain ⟨ao, capa, rfl⟩ := ha.form
  obtain ⟨bo, capb, rfl⟩ := hb.form
  unfold maxLen at hla
  simp only [bs_length] at *
  by_cases hlen : la.length = lb.length
  · have hne : ((la.length : Int) != (lb.length : Int)) = false := by simp [hlen]
    have HA := hide ha
    have HB := hide hb
    have HL := hide hlen
    clear ha hb hlen
    go_enter Try.func12, Try.ntmps12
    go_wp2
    go_loopw [5] (fun i wr => ∃ k : Nat, k ≤ la.length ∧ i = .int .i64 k ∧ la.take k = lb.take k ∧ ∃ n, wr = w.drewN n) (fun i _ => la.length - (intOf i).toNat)
    case atStart => exact ⟨0, Nat.zero_le _, rfl, rfl, 0, rfl⟩
    case round =>
      obtain ⟨k, hk, rfl, htk, n, rfl⟩ := hrel
      have HT := hide htk
      clear htk
      by_cases hlt : k < la.length
      · have hltb : k < lb.length := by have := unhide HL; omega
        obtain ⟨b1, o1, c1, e1, _, hc1⟩ := (unhide HA).cells (by rw [bs_length]; omega)
        obtain ⟨b2, o2, c2, e2, _, hc2⟩ := (unhide HB).cells (by rw [bs_length]; omega)
        simp [bs_length] at e1 e2
        obtain ⟨rfl, rfl⟩ := e1
        obtain ⟨rfl, rfl⟩ := e2
        have q1 := hc1 k (.int .u8 la[k]) (by rw [bs_get, List.getElem?_eq_getElem hlt]; rfl)
        have q2 := hc2 k (.int .u8 lb[k]) (by rw [bs_get, List.getElem?_eq_getElem hltb]; rfl)
        have i1 : (k : Int) < (la.length : Int) := by omega
        have i2 : (k : Int) < (lb.length : Int) := by omega
        have HX := hide (show la[k]? = some la[k] from List.getElem?_eq_getElem hlt)
        have HY := hide (show lb[k]? = some lb[k] from List.getElem?_eq_getElem hltb)
        generalize la[k] = x at q1 HX
        generalize lb[k] = y at q2 HY
        clear hc1 hc2
        go_wp2_with fail
        go_quiet (fail)
        by_cases hxy : x = y
        · subst hxy
          go_wp2
          go_roundw
          case rel => exact ⟨k + 1, by omega, by go_num, take_succ_eq (unhide HT) (unhide HX) (unhide HY), _, rfl⟩
          case measure => simp [intOf]; omega
        · have hb' : (x != y) = true := by rw [bne_iff_ne]; exact hxy
          have HN := hide hxy
          clear hxy
          go_wp2
          go_ret
          refine ⟨ret_bool ?_, n + nq, by simp⟩
          symm
          rw [decide_eq_false_iff_not]
          intro e
          have h1 := unhide HX
          have h2 := unhide HY
          rw [e, h2] at h1
          exact unhide HN (by simpa using h1.symm)
      · have HF := hide (show la = lb by
          have h1 := unhide HT
          rw [List.take_of_length_le (by omega), List.take_of_length_le (by have := unhide HL; omega)] at h1
          exact h1)
        go_wp2
        go_ret
        exact ⟨ret_bool (by symm; rw [decide_eq_true_iff]; exact unhide HF), _, rfl⟩
  · have hne : ((la.length : Int) != (lb.length : Int)) = true := by rw [bne_iff_ne]; omega
    have HL := hide hlen
    clear hlen
    go_enter Try.func12, Try.ntmps12
    go_wp2
    go_ret
    exact ⟨ret_bool (by symm; rw [decide_eq_false_iff_not]; intro e; exact unhide HL (by rw [e])), 0, rfl⟩

set_option maxHeartbeats 400000 in
theorem long_any (n : Int) (w : World) :
    Calls Try.prog 4 #[.int .i64 n] w fun e w' => e = .returned (.bool (decide (2147483647 < n))) ∧ w' = w := by
  go_enter Try.func4, Try.ntmps4
  go_wp2
  go_ret
  exact ⟨rfl, rfl⟩

def unpTo (n : Nat) (l : List Int) (k : Nat) : List Bool := (List.range n).map fun i => decide (i < k) && bitI l i
theorem unpTo_zero (n : Nat) (l : List Int) : unpTo n l 0 = List.replicate n false := by
  apply List.ext_getElem?
  intro i
  by_cases h : i < n <;> simp [unpTo, h]
theorem unpTo_length (n : Nat) (l : List Int) (k : Nat) : (unpTo n l k).length = n := by simp [unpTo]
theorem unpTo_all (n : Nat) (l : List Int) (k : Nat) (h : n ≤ k) : unpTo n l k = unpack n l := by
  unfold unpTo unpack
  apply List.map_congr_left
  intro i hi
  have := List.mem_range.1 hi
  simp; omega
theorem unpTo_no (n : Nat) (l : List Int) (k : Nat) (h : bitI l k = false) : unpTo n l (k + 1) = unpTo n l k := by
  unfold unpTo
  apply List.map_congr_left
  intro i _
  by_cases e : i = k
  · subst e; simp [h]
  · congr 1
    simp; omega
theorem unpTo_yes (n : Nat) (l : List Int) (k : Nat) (h : bitI l k = true) (hk : k < n) : unpTo n l (k + 1) = (unpTo n l k).set k true := by
  apply List.ext_getElem?
  intro i
  rw [List.getElem?_set]
  by_cases e : k = i
  · subst e; simp [unpTo, hk, h]
  · rw [if_neg e]
    by_cases hi : i < n
    · simp [unpTo, hi]
      congr 1
      simp; omega
    · rw [List.getElem?_eq_none (by rw [unpTo_length]; omega), List.getElem?_eq_none (by rw [unpTo_length]; omega)]

set_option maxRecDepth 100000 in
set_option maxHeartbeats 400000 in
theorem load_arg (w : World) (n : Int) (v : Value) (h : n < 1 ∨ 2048 < n) :
    Calls Try.prog 10 #[.int .i64 n, v] w fun e w' => e = .returned (.tuple #[.pointer none, .int .i64 1]) ∧ w' = w := by
  have HN := hide (new_no w n h)
  clear h
  go_enter Try.func10, Try.ntmps10
  go_wp2_with fail
  refine (unhide HN).mono ?_
  rintro e w1 ⟨rfl, rfl⟩
  go_wp2
  go_ret2
  exact ⟨rfl, rfl⟩

set_option maxRecDepth 100000 in
set_option maxHeartbeats 400000 in
theorem load_size (w : World) (n : Nat) (h1 : 1 ≤ n) (h2 : n ≤ 2048) (ao : Option Addr) (len cap : Nat) (hl : len ≠ nb n) :
    Calls Try.prog 10 #[.int .i64 n, .slice ao len cap] w fun e w' => e = .returned (.tuple #[.pointer none, .int .i64 12]) ∧ Keeps (fun _ => False) w w' := by
  have HN := hide (new_yes w n h1 h2)
  have hne : ((len : Int) != ((nb n : Nat) : Int)) = true := by rw [bne_iff_ne]; omega
  clear hl
  go_enter Try.func10, Try.ntmps10
  go_wp2_with fail
  refine (unhide HN).mono ?_
  rintro e w1 ⟨rfl, hs, hz, hk⟩
  have k1 := hs.c1
  have k2 := hs.now.c1
  simp only [newSP] at k1 k2
  have HK := hide hk
  clear hs hz hk
  generalize nb n = m at *
  go_wp2
  go_ret2
  exact ⟨rfl, unhide HK⟩

def loadSP (B n : Nat) (l : List Int) (k : Nat) : SP := { newSP B n with now := unpTo n l k }
def loadedSP (B n : Nat) (f : List Bool) : SP := { newSP B n with now := f, mark := f, last := f }

set_option maxRecDepth 100000 in
set_option maxHeartbeats 1000000 in
theorem load_fit (w : World) (n : Nat) (h1 : 1 ≤ n) (h2 : n ≤ 2048) (v : Value) (l : List Int) (hR : Cells w v (bs l)) (hl : l.length = nb n) :
    Calls Try.prog 10 #[.int .i64 n, v] w fun e w' => Keeps (fun _ => False) w w' ∧
      (((∀ i, n ≤ i → i < 8 * l.length → bitI l i = false) ∧ e = .returned (.tuple #[.pointer (some ⟨w.heap.size + 6, 0, none⟩), .int .i64 0]) ∧ SpaceAt w' w.heap.size (loadedSP w.heap.size n (unpack n l))) ∨
       ((∃ i, n ≤ i ∧ i < 8 * l.length ∧ bitI l i = true) ∧ e = .returned (.tuple #[.pointer none, .int .i64 31]))) := by
  obtain ⟨ao, cap, rfl⟩ := hR.form
  have HN := hide (new_yes w n h1 h2)
  have HR := hide hR
  have hm : nb n ≤ 256 := by unfold nb; omega
  have hnm : n ≤ 8 * nb n := by unfold nb; omega
  have HL := hide hl
  rw [bs_length, hl]
  clear hR hl
  go_enter Try.func10, Try.ntmps10
  go_wp2_with fail
  refine (unhide HN).mono ?_
  rintro e w1 ⟨rfl, hs, hz, hk⟩
  have k1 := hs.c1
  have k2 := hs.now.c1
  simp only [newSP] at k1 k2
  have HS : Hid (SpaceAt w1 w.heap.size (loadSP w.heap.size n l 0)) := by
    have e : loadSP w.heap.size n l 0 = newSP w.heap.size n := by simp [loadSP, unpTo_zero, newSP]
    rw [e]; exact hs
  have HK := hide hk
  clear hs hz hk
  generalize hmn : nb n = m at *
  have HMN := hide hmn
  clear hmn
  go_wp2
  go_loopw [8, 31] (fun _ i wr => ∃ k : Nat, k ≤ 8 * m ∧ i = .int .i64 k ∧ (∀ i, n ≤ i → i < k → bitI l i = false) ∧ SpaceAt wr w.heap.size (loadSP w.heap.size n l k) ∧ Keeps (fun _ => False) w wr) (fun _ i _ => 8 * m - (intOf i).toNat)
  case atStart => exact ⟨0, Nat.zero_le _, rfl, fun _ _ h => by omega, unhide HS, unhide HK⟩
  case round =>
    obtain ⟨k, hk, rfl, hno, hsp, hkeep⟩ := hrel
    have HNO := hide hno
    have HSP := hide hsp
    have HKE := hide hkeep
    clear hno hsp hkeep
    by_cases hlt : k < 8 * m
    · have hk8 : k / 8 < m := by omega
      have hk8' : k / 8 < l.length := by have := unhide HL; omega
      obtain ⟨b, off, c, e1, hblt, hc⟩ := (unhide HR).cells (by rw [bs_length]; omega)
      simp [bs_length, unhide HL] at e1
      obtain ⟨rfl, rfl⟩ := e1
      have p0 := ((unhide HKE).cell (o := off + k / 8) hblt id).trans (hc (k / 8) (.int .u8 l[k / 8]) (by rw [bs_get, List.getElem?_eq_getElem hk8']; rfl))
      have HBI : Hid (bitI l k = decide (bits .and .u8 l[k / 8] (pw (k % 8)) ≠ 0)) := by
        show bitI l k = _
        unfold bitI
        rw [List.getElem?_eq_getElem hk8']
        rfl
      have HB := hide (bit_any k)
      have hq := quo8 k (by omega)
      have hq2 : (k : Int) / 8 = ((k / 8 : Nat) : Int) := by omega
      have i5 : (0 : Int) ≤ (k : Int) := by omega
      have i3 : ((k / 8 : Nat) : Int) < (m : Int) := by omega
      have i4 : (k : Int) < 8 * (m : Int) := by omega
      generalize l[k / 8] = x at p0 HBI
      generalize k / 8 = q at *
      generalize pw (k % 8) = p at *
      have c1 := (unhide HSP).c1
      simp only [loadSP, newSP] at c1
      clear hc
      by_cases hbit : bits .and .u8 x p = 0
      · have hbe : (bits .and .u8 x p == 0) = true := by rw [hbit]; rfl
        have hbf : bitI l k = false := by rw [unhide HBI, hbit]; rfl
        have HBF := hide hbf
        clear hbit hbf HBI
        go_wp2_with fail
        go_quiet ((go_at_call 25; exact Calls.quiet_of_same (unhide HB _)))
        go_wp2
        go_roundw
        case rel =>
          refine ⟨k + 1, by omega, by go_num, fun i h3 h4 => ?_, ?_, (unhide HKE).drewN nq⟩
          · by_cases e : i = k
            · rw [e]; exact unhide HBF
            · exact unhide HNO i h3 (by omega)
          · have h5 := (unhide HSP).drewN nq
            unfold loadSP at h5 ⊢
            rw [unpTo_no _ _ _ (unhide HBF)]
            exact h5
        case measure => simp [intOf]; omega
      · have hbe : (bits .and .u8 x p == 0) = false := by rw [beq_eq_false_iff_ne]; exact hbit
        have hbf : bitI l k = true := by rw [unhide HBI]; simpa using hbit
        have HBF := hide hbf
        clear hbit hbf HBI
        by_cases hkn : k < n
        · have HJ := hide (fun q => join_any _ _ _ _ _ ((unhide HSP).now.drewN q) k hkn)
          simp only [loadSP, newSP] at HJ
          go_wp2_with fail
          go_quiet ((go_at_call 25; exact Calls.quiet_of_same (unhide HB _)))
          go_wp2_with fail
          refine (unhide HJ _).mono ?_
          rintro e w2 ⟨rfl, hs2, hk2⟩
          have H2 := hide hs2
          have K2 := hide hk2
          clear hs2 hk2
          go_wp2
          go_roundw
          case rel =>
            have hk' : Keeps (fun q => q = w.heap.size) _ w2 := Keeps.trans ((Keeps.refl _ wr).drewN nq) (unhide K2)
            refine ⟨k + 1, by omega, by go_num, fun i h3 h4 => ?_, ?_, (unhide HKE).then hk' (fun i h3 h4 => by omega)⟩
            · exact unhide HNO i h3 (by omega)
            · have h5 := (unhide HSP).upd_now (f := (unpTo n l k).set k true) (unhide H2) hk'
              unfold loadSP at h5 ⊢
              rw [unpTo_yes _ _ _ (unhide HBF) hkn]
              exact h5
          case measure => simp [intOf]; omega
        · go_wp2_with fail
          go_quiet ((go_at_call 25; exact Calls.quiet_of_same (unhide HB _)))
          go_wp2
          go_ret2
          exact ⟨(unhide HKE).drewN nq, Or.inr ⟨⟨k, by omega, by have := unhide HMN; omega, unhide HBF⟩, rfl⟩⟩
    · have e : k = 8 * m := by omega
      have HE := hide e
      have HST := hide (settle_any wr w.heap.size _ (unhide HSP))
      simp only [loadSP, newSP] at HST
      clear e
      go_wp2_with fail
      refine (unhide HST).mono ?_
      rintro e w2 ⟨rfl, hs2, hk2⟩
      have H2 := hide hs2
      have K2 := hide hk2
      clear hs2 hk2
      go_wp2
      go_ret2
      have ek := unhide HE
      refine ⟨(unhide HKE).then (unhide K2) (fun i h3 h4 => by omega), Or.inl ⟨fun i h3 h4 => unhide HNO i h3 (by have := unhide HMN; omega), rfl, ?_⟩⟩
      have h5 := unhide H2
      rw [unpTo_all _ _ _ (by omega)] at h5
      exact h5

end Go.Proofs.Ytdkihkgmldnpmab
