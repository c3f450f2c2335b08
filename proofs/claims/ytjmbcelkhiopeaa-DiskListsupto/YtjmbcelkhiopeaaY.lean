import Derived.Test.YtjmbcelkhiopeaaX
namespace Go.Proofs.Ytjmbcelkhiopeaa
open Go.RowKit Go.Maps

def DS.redN (S : DS) (k : Nat) : DS := { S with r := S.r + k }
def liveL (S : DS) (k : Nat) : List Int := (List.range k).flatMap S.holdsAt
theorem liveL_succ (S : DS) (k : Nat) : liveL S (k + 1) = liveL S k ++ S.holdsAt k := by simp [liveL, List.range_succ]
theorem Try.info4 : (Try.prog.info? 4).map (fun i => (i.zero, i.size, i.bytes)) = some (some (.bool false), 1, 1) := by kernel_rfl
theorem bs_append (a b : List Int) : bs (a ++ b) = bs a ++ bs b := by simp [bs]

theorem liveL_length {w : World} {B : Nat} {S : DS} (h : DiskAt w B S) : ∀ k, k ≤ S.secs → (liveL S k).length = k * S.size
  | 0, _ => by simp [liveL]
  | k + 1, hk => by
    rw [liveL_succ, List.length_append, liveL_length h k (by omega), holdsAt_length h k (by omega), Nat.add_mul]; omega

structure LiveInv (w : World) (B : Nat) (S : DS) (k : Nat) (v : Value) (w' : World) : Prop where
  disk : DiskAt w' B (S.redN k)
  row : w'.ownsRow w.heap.size 5 1 v (k * S.size) (bs (liveL S k))
  keeps : Keeps (fun q => q = S.D) w w'

set_option maxRecDepth 100000 in
set_option maxHeartbeats 2000000 in
theorem live_any (w : World) (B : Nat) (S : DS) (h : DiskAt w B S) (hdead : S.dead = false) (hr1 : 0 ≤ S.r) (hr2 : S.r ≤ 1000000) :
    Calls Try.prog 29 #[.pointer (some ⟨S.D, 0, none⟩), .int .i64 S.secs] w fun e w' => ∃ v, e = .returned v ∧ LiveInv w B S S.secs v w' := by
  obtain ⟨i0, hi, hz0, hz1, hz2⟩ := info_parts Try.info5
  have hs2 := h.secs2
  have hz := h.size2
  have hz' := h.size1
  have e0 : S.redN 0 = S := by simp [DS.redN]
  have HI0 : Hid (LiveInv w B S 0 (.slice none 0 0) w) := ⟨by rw [e0]; exact h, by simpa [bs, liveL] using World.ownsRow_nil w w.heap.size 5 1, Keeps.refl _ _⟩
  clear e0
  have H := hide h
  clear h
  go_enter Try.func29, Try.ntmps29
  go_wp2
  go_loopw [5, 6] (fun l i wr => ∃ k : Nat, k ≤ S.secs ∧ i = .int .i64 k ∧ LiveInv w B S k l wr) (fun _ i _ => S.secs - (intOf i).toNat)
  case atStart => exact ⟨0, Nat.zero_le _, rfl, unhide HI0⟩
  case round =>
    obtain ⟨k, hk, rfl, hI⟩ := hrel
    clear HI0
    by_cases hlt : k < S.secs
    · have hrd := read_ok wr B (S.redN k) hI.disk k hlt hdead (by show 0 ≤ S.r + k; omega) (by show S.r + k ≤ _; omega)
      have HRD := hide hrd
      have HI := hide hI
      clear hrd hI
      go_wp2_with fail
      refine (unhide HRD).mono ?_
      rintro e w1 ⟨rfl, hd1, hk1, hb1⟩
      have hk1' : Keeps (fun q => q = S.D) wr w1 := hk1
      have hwz := (unhide HI).keeps.size
      have hrow1 : w1.ownsRow w.heap.size 5 1 u5 (k * S.size) (bs (liveL S k)) := by
        refine ⟨(unhide HI).row.1, ?_⟩
        rcases (unhide HI).row.2 with hn | ⟨g, cap, cur, hv, hb, hg, rest⟩
        · exact Or.inl hn
        · exact Or.inr ⟨g, cap, cur, hv, hb, by rw [hk1'.block g (lt_of_block hg) (by have := lt_of_block (unhide H).blk; omega)]; exact hg, rest⟩
      have hlen := holdsAt_length (unhide H) k hlt
      have hmul : k * S.size + S.size ≤ 16777216 := by
        have := Nat.mul_le_mul (show k + 1 ≤ 16384 by omega) hz
        rw [Nat.add_mul] at this; omega
      have hb1' : w1.heap[wr.heap.size]? = some (.cells (bs (S.holdsAt k)).toArray 5 (0, 0)) := hb1
      have HD1 := hide hd1
      have HK1 := hide hk1'
      have HROW := hide hrow1
      have HB1 := hide hb1'
      have HLEN := hide hlen
      have HMUL := hide hmul
      clear hd1 hk1 hk1' hrow1 hb1 hb1' hlen hmul
      have hsz : w.heap.size ≤ w1.heap.size := Nat.le_trans hwz (unhide HK1).size
      go_wp2_with (at_builtin; refine wpList_append_lies _ rfl _ _ _ rfl w.heap.size 5 i0 _ 1 1 Try.underlying32 hi hz0 hz1 hz2 rfl (by omega) u5 (k * S.size) (bs (liveL S k)) rfl (unhide HROW) ⟨wr.heap.size, 0, none⟩ S.size S.size (bs (S.holdsAt k)) rfl (by rw [bs_length, unhide HLEN, Nat.mul_one]) (World.news_of_block (cs := (bs (S.holdsAt k)).toArray) (t := 5) (fr := (0, 0)) (unhide HB1)) (bs_one _) (by omega) (by have := unhide HMUL; unfold maxLen; omega) (by have := unhide HMUL; omega) hsz w1.heap.size rfl ?_; intro g cap w2 hown2 hgrow hat hlt2)
      go_roundw
      case rel =>
        refine ⟨k + 1, by omega, by go_num, ?_, ?_, ?_⟩
        · have hkg : Keeps (fun q => u5.ownBlock = some q) w1 w2 := (Keeps.refl _ _).grown hgrow (fun q e _ => e)
          have hd2 := (unhide HD1).kept hkg (by
            intro q hq hF
            have h1 := ((unhide HROW).lt q hF).1
            have h2 := (unhide H).own_lt q hq
            omega) (by
            intro x hx hF
            have h1 := ((unhide HROW).lt _ hF).1
            have h2 := lt_of_block ((unhide H).each x hx).2.2.1
            omega)
          have e : (S.redN k).red = S.redN (k + 1) := by simp [DS.red, DS.redN]; omega
          rw [e] at hd2
          exact hd2
        · rw [liveL_succ, bs_append, Nat.add_mul, Nat.one_mul]
          exact hown2
        · refine ((unhide HI).keeps.trans (unhide HK1)).grown hgrow (fun q e hq => ?_)
          have := ((unhide HROW).lt q e).1
          omega
      case measure => simp [intOf]; omega
    · obtain rfl : k = S.secs := by omega
      have HI := hide hI
      clear hI
      go_wp2
      go_ret
      exact ⟨_, rfl, unhide HI⟩

theorem bools_of_row {w : World} {base n : Nat} {v : Value} (h : w.ownsRow base 4 1 v n ((List.replicate n true).map Value.bool)) : Bools w v (List.replicate n true) := by
  rcases h.2 with ⟨rfl, hn⟩ | ⟨g, cap, cur, rfl, hb, hg, _, _, _, ht⟩
  · subst hn
    exact ⟨⟨_, _, rfl⟩, fun h0 => by simp at h0⟩
  · refine ⟨⟨_, _, by simp; exact ⟨rfl, rfl⟩⟩, fun _ => ⟨g, 0, cap, by simp, lt_of_block hg, fun j x hx => ?_⟩⟩
    have := h.cells (g := g) rfl j (.bool x) (by rw [List.getElem?_map, hx]; rfl)
    rwa [Addr.add_lit] at this

set_option maxRecDepth 100000 in
set_option maxHeartbeats 1000000 in
theorem all_any (n : Nat) (w : World) (hn : n ≤ 4294967295) :
    Calls Try.prog 30 #[.int .i64 n] w fun e w' => ∃ v, e = .returned v ∧ w'.ownsRow w.heap.size 4 1 v n ((List.replicate n true).map Value.bool) ∧ Keeps (fun _ => False) w w' := by
  obtain ⟨i0, hi, hz0, hz1, hz2⟩ := info_parts Try.info4
  go_enter Try.func30, Try.ntmps30
  go_wp2
  go_loopw [3, 4] (fun l i wr => ∃ k : Nat, k ≤ n ∧ i = .int .i64 k ∧ wr.ownsRow w.heap.size 4 1 l k ((List.replicate k true).map Value.bool) ∧ Keeps (fun _ => False) w wr) (fun _ i _ => n - (intOf i).toNat)
  case atStart => exact ⟨0, Nat.zero_le _, rfl, by simpa using World.ownsRow_nil w w.heap.size 4 1, Keeps.refl _ _⟩
  case round =>
    obtain ⟨k, hk, rfl, hown, hkeep⟩ := hrel
    have HO := hide hown
    have HK := hide hkeep
    clear hown hkeep
    by_cases hlt : k < n
    · go_wp2_with (at_builtin; refine wpList_append_lies _ rfl _ _ _ rfl w.heap.size 4 i0 _ 1 1 Try.underlying51 hi hz0 hz1 hz2 rfl (by omega) u3 k ((List.replicate k true).map Value.bool) rfl ((unhide HO).alloc _) ⟨wr.heap.size, 0, none⟩ 1 1 [.bool true] rfl rfl (World.news_of_block (cs := #[.bool true]) (t := 4) (fr := (0, 0)) (heap_alloc_new wr _)) (by simp [Value.oneCell']) (by omega) (by unfold maxLen; omega) (by omega) (by have := (unhide HK).size; simp; omega) (wr.heap.size + 1) (by simp) ?_; intro g cap w1 hown1 hgrow hat hlt1)
      go_roundw
      case rel =>
        refine ⟨k + 1, by omega, by go_num, ?_, ((unhide HK).alloc _).grown hgrow (fun q e hq => by have := ((unhide HO).lt q e).1; omega)⟩
        rw [List.replicate_succ', List.map_append]
        exact hown1
      case measure => simp [intOf]; omega
    · go_wp2
      go_ret
      obtain rfl : k = n := by omega
      exact ⟨_, rfl, unhide HO, unhide HK⟩

set_option maxRecDepth 100000 in
set_option maxHeartbeats 1000000 in
theorem fromImage_ok (w : World) (b n s : Nat) (l : List Int) (hl : l.length = n * s) (h1 : 1 ≤ n) (h2 : n ≤ 16384) (h3 : 32 ≤ s) (h4 : s ≤ 1024) (cap : Nat) (hb : w.heap[b]? = some (.cells (bs l).toArray 5 (0, 0))) :
    Calls Try.prog 31 #[.slice (some ⟨b, 0, none⟩) (n * s) cap, .int .i64 s] w fun e w' => e = .returned (.tuple #[.pointer (some ⟨w.heap.size + 2, 0, none⟩), .int .i64 0]) ∧ Keeps (fun _ => False) w w' ∧ DiskAt w' w.heap.size (freshDS (w.heap.size + 2) w.heap.size (w.heap.size + 1) n s l) := by
  have hns : n * s ≤ 16777216 := Nat.le_trans (Nat.mul_le_mul h2 h4) (by decide)
  have hpos : 0 < n * s := Nat.mul_pos (by omega) (by omega)
  have hcp := copied_any b 0 (n * s) cap l w hl (lt_of_block hb) hns (fun j x hx => by rw [cell_of_blk hb]; simp [bs, hx])
  have hov := over_any w.heap.size (n * s) s (w.alloc (.cells (bs l).toArray 5)) h3 h4 hns
  rw [Nat.mul_div_cancel n (by omega)] at hov
  simp only [World.size_alloc] at hov
  obtain ⟨w3, hw3⟩ : ∃ w3, w3 = (((w.alloc (.cells (bs l).toArray 5)).alloc (.map #[] 0)).alloc (.cells (dcells n s (.slice (some ⟨w.heap.size, 0, none⟩) (n * s) (n * s)) (.slice none 0 0) (w.heap.size + 1) (-1) false 0 0 0) 89)) := ⟨_, rfl⟩
  rw [← hw3] at hov
  have hk3 : Keeps (fun _ => False) w w3 := by rw [hw3]; exact (((Keeps.refl _ _).alloc _).alloc _).alloc _
  have hd3 : DiskAt w3 w.heap.size (freshDS (w.heap.size + 2) w.heap.size (w.heap.size + 1) n s l) := by
    refine fresh_at _ _ _ _ _ _ ?_ ?_ hl ?_ (by omega) h1 h2 h3 h4
    · rw [hw3]
      have := heap_alloc_new ((w.alloc (.cells (bs l).toArray 5)).alloc (.map #[] 0)) (.cells (dcells n s (.slice (some ⟨w.heap.size, 0, none⟩) (n * s) (n * s)) (.slice none 0 0) (w.heap.size + 1) (-1) false 0 0 0) 89)
      rw [World.size_alloc, World.size_alloc] at this
      exact this
    · rw [hw3, Below.heap_alloc _ _ _ (by simp; omega), Below.heap_alloc _ _ _ (by simp)]
      exact heap_alloc_new w _
    · rw [hw3, Below.heap_alloc _ _ _ (by simp)]
      have := heap_alloc_new (w.alloc (.cells (bs l).toArray 5)) (.map #[] 0)
      rw [World.size_alloc] at this
      exact this
  have HCP := hide hcp
  have HOV := hide hov
  have HK := hide hk3
  have HD := hide hd3
  have hf : fitsB s = true := by simp [fitsB]; omega
  obtain ⟨N, hNe⟩ : ∃ N, n * s = N := ⟨_, rfl⟩
  have hdiv : ((N : Int)) / (s : Int) = (n : Int) := by rw [← hNe, ← Int.natCast_ediv, Nat.mul_div_cancel n (by omega)]
  have hmod : ((N : Int)) % (s : Int) = 0 := by rw [← hNe, ← Int.natCast_emod, Nat.mul_mod_left]; rfl
  rw [hNe] at HCP HOV hpos hns ⊢
  have hs0 : ((s : Int) == 0) = false := beq_eq_false_iff_ne.2 (by omega)
  have hl0 : ((N : Int) == 0) = false := beq_eq_false_iff_ne.2 (by omega)
  clear hcp hov hk3 hd3 hw3 hb hl hNe
  go_enter Try.func31, Try.ntmps31
  go_wp2_with fail
  refine (sizeFits_any _ _).mono ?_
  rintro e w1 ⟨rfl, rfl⟩
  go_wp2_with fail
  refine (unhide HCP).mono ?_
  rintro e w2 ⟨rfl, rfl⟩
  go_wp2_with fail
  refine (unhide HOV).mono ?_
  rintro e w4 ⟨rfl, rfl⟩
  go_wp2
  go_ret2
  exact ⟨rfl, unhide HK, unhide HD⟩

end Go.Proofs.Ytjmbcelkhiopeaa
