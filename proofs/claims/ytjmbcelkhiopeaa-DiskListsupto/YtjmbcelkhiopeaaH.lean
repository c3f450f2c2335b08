import Derived.Test.YtjmbcelkhiopeaaG
import Derived.BigQuiet
import Derived.Deep.QuietTactic
namespace Go.Proofs.Ytjmbcelkhiopeaa
open Go.RowKit Go.Maps

def textL (b : Int) (n : Nat) : List Int := (List.range n).map fun (i : Nat) => (b + (i : Int)) % 256
theorem textL_succ (b : Int) (n : Nat) : textL b (n + 1) = textL b n ++ [(b + (n : Int)) % 256] := by simp [textL, List.range_succ]
theorem textL_length (b : Int) (n : Nat) : (textL b n).length = n := by simp [textL]

set_option maxRecDepth 100000 in
set_option maxHeartbeats 1000000 in
theorem text_any (b : Int) (n : Nat) (w : World) (hn : n ≤ 1024) :
    Calls Try.prog 13 #[.int .u8 b, .int .i64 n] w fun e w' => ∃ v, e = .returned v ∧ w'.ownsRow w.heap.size 5 1 v n (bs (textL b n)) ∧ Keeps (fun _ => False) w w' := by
  obtain ⟨i0, hi, hz0, hz1, hz2⟩ := info_parts Try.info5
  go_enter Try.func13, Try.ntmps13
  go_wp2
  go_loopw [5, 6] (fun l i wr => ∃ k : Nat, k ≤ n ∧ i = .int .i64 k ∧ wr.ownsRow w.heap.size 5 1 l k (bs (textL b k)) ∧ Keeps (fun _ => False) w wr) (fun _ i _ => n - (intOf i).toNat)
  case atStart => exact ⟨0, Nat.zero_le _, rfl, by simpa [bs, textL] using World.ownsRow_nil w w.heap.size 5 1, Keeps.refl _ _⟩
  case round =>
    obtain ⟨k, hk, rfl, hown, hkeep⟩ := hrel
    have HO := hide hown
    have HK := hide hkeep
    clear hown hkeep
    by_cases hlt : k < n
    · go_wp2_with (at_builtin; refine wpList_append_lies _ rfl _ _ _ rfl w.heap.size 5 i0 _ 1 1 Try.underlying32 hi hz0 hz1 hz2 rfl (by omega) u5 k (bs (textL b k)) rfl ((unhide HO).alloc _) ⟨wr.heap.size, 0, none⟩ 1 1 [.int .u8 ((b + (k : Int)) % 256)] rfl rfl (World.news_of_block (cs := #[.int .u8 ((b + (k : Int)) % 256)]) (t := 5) (fr := (0, 0)) (heap_alloc_new wr _)) (by simp [Value.oneCell']) (by omega) (by unfold maxLen; omega) (by omega) (by have := (unhide HK).size; simp; omega) (wr.heap.size + 1) (by simp) ?_; intro g cap w1 hown1 hgrow hat hlt1)
      go_roundw
      case rel =>
        refine ⟨k + 1, by omega, by go_num, ?_, ((unhide HK).alloc _).grown hgrow (fun q e hq => by have := ((unhide HO).lt q e).1; omega)⟩
        rw [textL_succ]
        simpa [bs] using hown1
      case measure => simp [intOf]; omega
    · go_wp2
      go_ret
      obtain rfl : k = n := by omega
      exact ⟨_, rfl, unhide HO, unhide HK⟩


/-- A slice of bytes that reads as l. -/
structure Reads (w : World) (v : Value) (l : List Int) : Prop where
  form : ∃ ao cap, v = .slice ao l.length cap
  cells : 0 < l.length → ∃ b off cap, v = .slice (some ⟨b, off, none⟩) l.length cap ∧ ∀ j x, l[j]? = some x → w.cell? ⟨b, off + j, none⟩ = some (.int .u8 x)

theorem take_succ_eq {a b : List Int} {k : Nat} (h : a.take k = b.take k) {x : Int} (ha : a[k]? = some x) (hb : b[k]? = some x) : a.take (k + 1) = b.take (k + 1) := by
  rw [take_snoc _ _ _ ha, take_snoc _ _ _ hb, h]

set_option maxRecDepth 100000 in
set_option maxHeartbeats 1000000 in
theorem eqBytes_any (w : World) (va vb : Value) (la lb : List Int) (ha : Reads w va la) (hb : Reads w vb lb) (hla : la.length ≤ maxLen) :
    Calls Try.prog 28 #[va, vb] w fun e w' => e = .returned (.bool (decide (la = lb))) ∧ ∃ n, w' = w.drewN n := by
  obtain ⟨ao, capa, rfl⟩ := ha.form
  obtain ⟨bo, capb, rfl⟩ := hb.form
  unfold maxLen at hla
  by_cases hlen : la.length = lb.length
  · have hne : ((la.length : Int) != (lb.length : Int)) = false := by simp [hlen]
    have HA := hide ha
    have HB := hide hb
    have HL := hide hlen
    clear ha hb hlen
    go_enter Try.func28, Try.ntmps28
    go_wp2
    go_loopw [5] (fun i wr => ∃ k : Nat, k ≤ la.length ∧ i = .int .i64 k ∧ la.take k = lb.take k ∧ ∃ n, wr = w.drewN n) (fun i _ => la.length - (intOf i).toNat)
    case atStart => exact ⟨0, Nat.zero_le _, rfl, rfl, 0, rfl⟩
    case round =>
      obtain ⟨k, hk, rfl, htk, n, rfl⟩ := hrel
      have HT := hide htk
      clear htk
      by_cases hlt : k < la.length
      · obtain ⟨b1, o1, c1, e1, hc1⟩ := (unhide HA).cells (by omega)
        obtain ⟨b2, o2, c2, e2, hc2⟩ := (unhide HB).cells (by have := unhide HL; omega)
        simp at e1 e2
        obtain ⟨rfl, rfl⟩ := e1
        obtain ⟨rfl, rfl⟩ := e2
        have hltb : k < lb.length := by have := unhide HL; omega
        have q1 := hc1 k _ (List.getElem?_eq_getElem hlt)
        have q2 := hc2 k _ (List.getElem?_eq_getElem hltb)
        have i1 : (k : Int) < (la.length : Int) := by omega
        have i2 : (k : Int) < (lb.length : Int) := by omega
        have HX := hide (show la[k]? = some la[k] from List.getElem?_eq_getElem hlt)
        have HY := hide (show lb[k]? = some lb[k] from List.getElem?_eq_getElem hltb)
        generalize la[k] = x at q1 HX
        generalize lb[k] = y at q2 HY
        clear hc1 hc2
        go_wp2_with fail
        go_quiet (fail)
        by_cases hxy : x = y
        · subst hxy
          go_wp2
          go_roundw
          case rel => exact ⟨k + 1, by omega, by go_num, take_succ_eq (unhide HT) (unhide HX) (unhide HY), _, rfl⟩
          case measure => simp [intOf]; omega
        · have hb' : (x != y) = true := by rw [bne_iff_ne]; exact hxy
          have HN := hide hxy
          clear hxy
          go_wp2
          go_ret
          refine ⟨ret_bool ?_, n + nq, by simp⟩
          symm
          rw [decide_eq_false_iff_not]
          intro e
          have h1 := unhide HX
          have h2 := unhide HY
          rw [e, h2] at h1
          exact unhide HN (by simpa using h1.symm)
      · have HF := hide (show la = lb by
          have h1 := unhide HT
          rw [List.take_of_length_le (by omega), List.take_of_length_le (by have := unhide HL; omega)] at h1
          exact h1)
        go_wp2
        go_ret
        exact ⟨ret_bool (by symm; rw [decide_eq_true_iff]; exact unhide HF), _, rfl⟩
  · have hne : ((la.length : Int) != (lb.length : Int)) = true := by rw [bne_iff_ne]; omega
    have HL := hide hlen
    clear hlen
    go_enter Try.func28, Try.ntmps28
    go_wp2
    go_ret
    exact ⟨ret_bool (by symm; rw [decide_eq_false_iff_not]; intro e; exact unhide HL (by rw [e])), 0, rfl⟩

end Go.Proofs.Ytjmbcelkhiopeaa
