import Derived.Test.YtiinohibmcefkaaGreatDoorZzaa
import Derived.Test.YtiinohibmcefkaaGreatDoorZzac
import Derived.Test.YtiinohibmcefkaaGreatDoorZzat
import Derived.Test.YtiinohibmcefkaaGreatDoorZzad
import Derived.Test.YtiinohibmcefkaaGreatDoorZzay
import Derived.Test.YtiinohibmcefkaaGreatDoorZzbs
import Derived.Deep.AppendLies



namespace Go.Proofs.YtiinohibmcefkaaGreatDoor
open Go.RowKit Go.Maps

theorem vcs_setk {R Z : List ValA} {t : Int} : (vcs (R ++ zeroVal :: Z)).toArray.setIfInBounds (R.length * 3) (.int .i64 t) = (vcs (R ++ ⟨t, 0, []⟩ :: Z)).toArray := by
  have hv : ∀ y : ValA, vcs (R ++ y :: Z) = vcs R ++ (y.cs ++ vcs Z) := fun y => by simp [vcs]
  have hl := vcs_length R
  rw [hv, hv, ← hl]
  apply Array.ext'
  simp [ValA.cs, zeroVal]
def zeroTo (l : List FieldA) (k : Nat) : List ValA := zeros (l.take k) ++ List.replicate (l.length - k) zeroVal
theorem zeroTo_zero (l : List FieldA) : zeroTo l 0 = List.replicate l.length zeroVal := by simp [zeroTo, zeros]
theorem zeroTo_full (l : List FieldA) : zeroTo l l.length = zeros l := by simp [zeroTo]
theorem zeroTo_at {l : List FieldA} {k : Nat} {f : FieldA} (h : l[k]? = some f) : zeroTo l k = zeros (l.take k) ++ zeroVal :: List.replicate (l.length - (k + 1)) zeroVal ∧ zeroTo l (k + 1) = zeros (l.take k) ++ zeroV f :: List.replicate (l.length - (k + 1)) zeroVal := by
  have hl := get_lt h
  unfold zeroTo
  constructor
  · rw [show l.length - k = (l.length - (k + 1)) + 1 by omega, List.replicate_succ]
  · rw [take_snoc _ _ _ h, zeros_snoc, List.append_assoc]
    rfl
theorem zeros_take_len {l : List FieldA} {k : Nat} (h : k ≤ l.length) : (zeros (l.take k)).length = k := by rw [zeros_length, List.length_take, Nat.min_eq_left h]

set_option maxRecDepth 100000 in
set_option maxHeartbeats 2000000 in
theorem zero_v (l : List FieldA) (v : Value) (w : World) (h : FldsAt w v l) (hl8 : l.length ≤ 8) :
    Calls Tryz.prog 116 #[.agg #[v]] w fun e w' => ∃ g, e = .returned (.slice (some ⟨g, 0, none⟩) l.length l.length) ∧ w.heap.size ≤ g ∧ w'.heap[g]? = some (.cells (vcs (zeros l)).toArray 41 (0, 0)) ∧ Keeps (fun _ => False) w w' := by
  obtain ⟨ao, cap, rfl⟩ := RowAt.form h
  obtain ⟨HB, hb, hbc⟩ := boxed w #[.slice ao l.length cap] 24
  have hp := hbc 0 (.slice ao l.length cap) rfl
  have HF := hide (h.keepF (unhide HB))
  clear hbc h
  have hmk := run_mkv l.length (by omega) (w.alloc (.cells #[.slice ao l.length cap] 24))
  have HG := hide (heap_alloc_new (w.alloc (.cells #[.slice ao l.length cap] 24)) (.cells (vcs (List.replicate l.length zeroVal)).toArray 41))
  have HA : Hid (Keeps (fun q => w.heap.size + 1 ≤ q) (w.alloc (.cells #[.slice ao l.length cap] 24)) ((w.alloc (.cells #[.slice ao l.length cap] 24)).alloc (.cells (vcs (List.replicate l.length zeroVal)).toArray 41))) := (Keeps.refl _ _).alloc _
  have hS3 : (w.alloc (.cells #[.slice ao l.length cap] 24)).heap.size = w.heap.size + 1 := by simp
  have hS4 : w.heap.size + 1 < ((w.alloc (.cells #[.slice ao l.length cap] 24)).alloc (.cells (vcs (List.replicate l.length zeroVal)).toArray 41)).heap.size := by simp
  have hp4 := ((unhide HA).cell (o := 0) hb (by omega)).trans hp
  rw [hS3] at hmk HG
  have HS3 := hide hS3
  clear hS3
  go_enter Tryz.func116, Tryz.ntmps116
  go_wp2_with fail
  generalize (w.alloc (.cells #[.slice ao l.length cap] 24)).alloc (.cells (vcs (List.replicate l.length zeroVal)).toArray 41) = w4 at *
  generalize w.alloc (.cells #[.slice ao l.length cap] 24) = w3 at *
  clear hmk
  go_loopw [13] (fun i wr => ∃ (k : Nat), k ≤ l.length ∧ i = .int .i64 k ∧ Hid (wr.heap[w.heap.size + 1]? = some (.cells (vcs (zeroTo l k)).toArray 41 (0, 0))) ∧ Keeps (fun q => w.heap.size + 1 ≤ q) w4 wr) (fun i _ => l.length - (intOf i).toNat)
  case atStart => exact ⟨0, Nat.zero_le _, rfl, by show _ = _; rw [zeroTo_zero]; exact unhide HG, Keeps.refl _ _⟩
  case round =>
    obtain ⟨k, hk, rfl, HBk, hkp⟩ := hrel
    have HK := hide ((unhide HA).trans hkp)
    have HKP := hide hkp
    have hS5 : w.heap.size + 1 < wr.heap.size := Nat.lt_of_lt_of_le hS4 hkp.size
    clear hkp
    by_cases hlt : k < l.length
    · obtain ⟨f, hf⟩ : ∃ f, l[k]? = some f := ⟨_, List.getElem?_eq_getElem hlt⟩
      obtain ⟨b5, off5, c5, e5, hbl, hc⟩ := (unhide HF).cells (by omega)
      have hbl2 : ¬ w.heap.size + 1 ≤ b5 := by have := unhide HS3; omega
      simp at e5
      obtain ⟨rfl, rfl⟩ := e5
      have c0 := ((unhide HK).cell hbl hbl2).trans (hc k f hf).1
      have c1 := ((unhide HK).cell hbl hbl2).trans (hc k f hf).2.1
      have c2 := ((unhide HK).cell hbl hbl2).trans (hc k f hf).2.2
      have HZ := hide (zeroTo_at hf)
      have HKN := hide ((unhide HKP).alloc (.cells #[str f.name, .int .i64 f.type, .bool f.opt] 47))
      have HBN : (wr.alloc (.cells #[str f.name, .int .i64 f.type, .bool f.opt] 47)).heap[w.heap.size + 1]? = some (.cells (vcs (zeros (l.take k) ++ zeroVal :: List.replicate (l.length - (k + 1)) zeroVal)).toArray 41 (0, 0)) := by
        rw [← (unhide HZ).1]
        exact (Below.heap_alloc _ _ _ hS5).trans (unhide HBk)
      have HRL := hide (zeros_take_len hk)
      obtain ⟨d0, d1, d2, g0, g1, g2⟩ := cells3 HBN (unhide HRL)
      have HN := hide HBN
      have i5 : (k : Int) < (l.length : Int) := by omega
      have s0 : w.heap.size + 1 < (wr.alloc (.cells #[str f.name, .int .i64 f.type, .bool f.opt] 47)).heap.size := lt_of_block HBN
      clear hc hf HBN
      cases hfo : f.opt with
      | true =>
        rw [hfo] at c2 HKN HN d0 d1 d2 g0 g1 g2 s0
        have HE : Hid (zeroV f = zeroVal) := by show _ = _; unfold zeroV; rw [if_pos hfo]; rfl
        go_wp2_with fail
        go_roundw
        case rel => exact ⟨k + 1, by omega, by go_num, by show _ = _; rw [(unhide HZ).2, unhide HE]; exact unhide HN, unhide HKN⟩
        case measure => simp [intOf]; omega
      | false =>
        rw [hfo] at c2 HKN HN d0 d1 d2 g0 g1 g2 s0
        have HE : Hid (zeroV f = ⟨f.type, 0, []⟩) := by show _ = _; unfold zeroV; rw [if_neg (by simp [hfo])]
        go_wp2_with fail
        go_roundw
        case rel =>
          refine ⟨k + 1, by omega, by go_num, ?_, ((unhide HKP).then (keeps_set _ _ _ _) (fun i _ e => by omega)).alloc _⟩
          show _ = _
          rw [(unhide HZ).2, unhide HE, ← vcs_setk, unhide HRL, Below.heap_alloc _ _ _ (by simpa using hS5), ← (unhide HZ).1]
          exact heap_setCell_at (unhide HBk) _
        case measure => simp [intOf]; omega
    · obtain rfl : k = l.length := by omega
      go_wp2_with fail
      go_ret
      refine ⟨_, rfl, by omega, ?_, (unhide HB).narrow (F := fun q => w.heap.size + 1 ≤ q) (unhide HK) (fun q hq => by omega)⟩
      have := unhide HBk
      rw [zeroTo_full] at this
      exact this

set_option maxRecDepth 100000 in
theorem val_zero (l : List FieldA) (v : Value) (w : World) (hT : Types w) (h : FldsAt w v l) :
    Calls Tryz.prog 74 #[.agg #[v]] w fun e w' => ∃ v', e = .returned v' ∧ w'.ownsRow w.heap.size 41 3 v' (zeroB l).length (vcs (zeroB l)) ∧ Keeps (fun _ => False) w w' := by
  obtain ⟨ao, cap, rfl⟩ := RowAt.form h
  obtain ⟨HB, hb, hbc⟩ := boxed w #[.slice ao l.length cap] 24
  have hp := hbc 0 (.slice ao l.length cap) rfl
  have HF := hide (h.keepF (unhide HB))
  have HS := hide (checkSchema_v l _ _ (hT.keepF (unhide HB)) (unhide HF))
  clear hbc h hT
  go_enter Tryz.func74, Tryz.ntmps74
  go_wp2_with fail
  refine (unhide HS).mono ?_
  rintro e w2 ⟨rfl, hk2⟩
  have hp2 := (hk2.cell (o := 0) hb id).trans hp
  have HF2 := hide ((unhide HF).keepF hk2)
  have HB2 := hide ((unhide HB).trans hk2)
  clear HS HF HB hk2 hp
  rcases errS_eq l with ⟨hs, he⟩ | ⟨hs, he⟩
  · rw [he]
    have HZ : Hid (zeroB l = zeros l) := by show _ = _; simp [zeroB, hs]
    have HQ := hide (zero_v l _ _ (unhide HF2) (schemaB_len hs).2)
    have hl8 := (schemaB_len hs).2
    clear hs he
    go_wp2_with fail
    refine (unhide HQ).mono ?_
    rintro e w4 ⟨g, rfl, hg, hblk, hk4⟩
    have HG := hide hg
    have HBL := hide hblk
    have HK4 := hide hk4
    clear hg hblk hk4 HQ
    go_wp2_with fail
    go_ret
    refine ⟨_, rfl, ?_, (unhide HB2).trans (unhide HK4)⟩
    rw [unhide HZ]
    exact owns_vals (Nat.le_trans (unhide HB2).size (unhide HG)) (by omega) (zeros_length l) (unhide HBL)
  · rw [he]
    have HZ : Hid (zeroB l = []) := by show _ = _; simp [zeroB, hs]
    clear hs he
    go_wp2_with fail
    go_ret
    refine ⟨_, rfl, ?_, unhide HB2⟩
    rw [unhide HZ]
    exact World.ownsRow_nil _ w.heap.size 41 3
end Go.Proofs.YtiinohibmcefkaaGreatDoor
namespace Go.Proofs.YtiinohibmcefkaaGreatDoor
open Go.RowKit Go.Maps

theorem cl1 {w : World} {b : Nat} {c0 : Value} {t : TypeId} {fr : Nat × Nat} (h : w.heap[b]? = some (.cells #[c0] t fr)) : w.cell? ⟨b, 0, none⟩ = some c0 :=
  (cell_of_blk h _).trans rfl
theorem cl2 {w : World} {b : Nat} {c0 c1 : Value} {t : TypeId} {fr : Nat × Nat} (h : w.heap[b]? = some (.cells #[c0, c1] t fr)) : w.cell? ⟨b, 0, none⟩ = some c0 ∧ w.cell? ⟨b, 1, none⟩ = some c1 :=
  ⟨(cell_of_blk h _).trans rfl, (cell_of_blk h _).trans rfl⟩
theorem cl3 {w : World} {b : Nat} {c0 c1 c2 : Value} {t : TypeId} {fr : Nat × Nat} (h : w.heap[b]? = some (.cells #[c0, c1, c2] t fr)) : w.cell? ⟨b, 0, none⟩ = some c0 ∧ w.cell? ⟨b, 1, none⟩ = some c1 ∧ w.cell? ⟨b, 2, none⟩ = some c2 :=
  ⟨(cell_of_blk h _).trans rfl, (cell_of_blk h _).trans rfl, (cell_of_blk h _).trans rfl⟩
theorem cl4 {w : World} {b : Nat} {c0 c1 c2 c3 : Value} {t : TypeId} {fr : Nat × Nat} (h : w.heap[b]? = some (.cells #[c0, c1, c2, c3] t fr)) : w.cell? ⟨b, 0, none⟩ = some c0 ∧ w.cell? ⟨b, 1, none⟩ = some c1 ∧ w.cell? ⟨b, 2, none⟩ = some c2 ∧ w.cell? ⟨b, 3, none⟩ = some c3 :=
  ⟨(cell_of_blk h _).trans rfl, (cell_of_blk h _).trans rfl, (cell_of_blk h _).trans rfl, (cell_of_blk h _).trans rfl⟩
theorem blk_keep {W w1 : World} {b : Nat} {o : Obj} (h : W.heap[b]? = some o) (hk : Keeps (fun _ => False) W w1) : w1.heap[b]? = some o := (hk.block _ (lt_of_block h) id).trans h
theorem boxA4 (w : World) (a b c d : Array Value) (ta tb tc td : TypeId) : ∃ W, (((w.alloc (.cells a ta)).alloc (.cells b tb)).alloc (.cells c tc)).alloc (.cells d td) = W ∧ Keeps (fun _ => False) w W ∧ W.heap[w.heap.size]? = some (.cells a ta (0, 0)) ∧ W.heap[w.heap.size + 1]? = some (.cells b tb (0, 0)) ∧ W.heap[w.heap.size + 1 + 1]? = some (.cells c tc (0, 0)) ∧ W.heap[w.heap.size + 1 + 1 + 1]? = some (.cells d td (0, 0)) := by
  have k1 := kAlloc w (.cells a ta)
  have k2 := kAlloc (w.alloc (.cells a ta)) (.cells b tb)
  have k3 := kAlloc ((w.alloc (.cells a ta)).alloc (.cells b tb)) (.cells c tc)
  have k4 := kAlloc (((w.alloc (.cells a ta)).alloc (.cells b tb)).alloc (.cells c tc)) (.cells d td)
  have h1 := heap_alloc_new w (.cells a ta)
  have h2 := heap_alloc_new (w.alloc (.cells a ta)) (.cells b tb)
  have h3 := heap_alloc_new ((w.alloc (.cells a ta)).alloc (.cells b tb)) (.cells c tc)
  have h4 := heap_alloc_new (((w.alloc (.cells a ta)).alloc (.cells b tb)).alloc (.cells c tc)) (.cells d td)
  rw [show (w.alloc (.cells a ta)).heap.size = w.heap.size + 1 by simp] at h2
  rw [show ((w.alloc (.cells a ta)).alloc (.cells b tb)).heap.size = w.heap.size + 1 + 1 by simp] at h3
  rw [show (((w.alloc (.cells a ta)).alloc (.cells b tb)).alloc (.cells c tc)).heap.size = w.heap.size + 1 + 1 + 1 by simp] at h4
  exact ⟨_, rfl, ((k1.trans k2).trans k3).trans k4, blk_keep (blk_keep (blk_keep h1 k2) k3) k4, blk_keep (blk_keep h2 k3) k4, blk_keep h3 k4, h4⟩
theorem boxA2 (w : World) (a b : Array Value) (ta tb : TypeId) : ∃ W, (w.alloc (.cells a ta)).alloc (.cells b tb) = W ∧ Keeps (fun _ => False) w W ∧ W.heap[w.heap.size]? = some (.cells a ta (0, 0)) ∧ W.heap[w.heap.size + 1]? = some (.cells b tb (0, 0)) := by
  have k1 := kAlloc w (.cells a ta)
  have k2 := kAlloc (w.alloc (.cells a ta)) (.cells b tb)
  have h1 := heap_alloc_new w (.cells a ta)
  have h2 := heap_alloc_new (w.alloc (.cells a ta)) (.cells b tb)
  rw [show (w.alloc (.cells a ta)).heap.size = w.heap.size + 1 by simp] at h2
  exact ⟨_, rfl, k1.trans k2, blk_keep h1 k2, h2⟩
end Go.Proofs.YtiinohibmcefkaaGreatDoor
