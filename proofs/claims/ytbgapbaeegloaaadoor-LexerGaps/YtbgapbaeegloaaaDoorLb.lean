import Derived.Test.YtbgapbaeegloaaaDoorJb
import Derived.Test.YtbgapbaeegloaaaDoorPb
import Derived.Lib.LaidTab
namespace Go.Proofs.YtbgapbaeegloaaaDoor
open Go.RowKit Go.Maps Go.Sort

/-- The table of powers of ten stands as its text lays it. -/
def Pow (w : World) : Prop := Lib.TabIs Tryd.prog w "internal/strconv.uint64pow10" .u64 Lib.pow10Tab
theorem Pow.keepF {w w' : World} (h : Pow w) (k : Keeps (fun _ => False) w w') : Pow w' := by
  unfold Pow Lib.TabIs World.var? at h ⊢
  cases hg : Tryd.prog.globalNamed "internal/strconv.uint64pow10" with
  | none => simp [hg] at h
  | some g =>
    simp only [hg, Option.bind_some] at h ⊢
    have hlt : g < w.heap.size := by
      rcases Nat.lt_or_ge g w.heap.size with h' | h'
      · exact h'
      · simp [Array.getElem?_eq_none h'] at h
    rw [k.block g hlt id]
    exact h
theorem keeps_grow (w : World) (n : Nat) (os : Array Obj) : Keeps (fun _ => False) w (Go.Sort.grow (w.drewN n) os) := by
  obtain ⟨h1, h2, h3, h4⟩ := drewN_os w n
  refine ⟨h1, h2, h3, ?_, fun k hk _ => ?_⟩
  · unfold Go.Sort.grow; simp only [Array.size_append, h4]; omega
  · unfold Go.Sort.grow; simp only [h4]; exact Array.getElem?_append_left hk
/-- The digits of a number. -/
def decU (u : Nat) : Txt := if u = 0 then [48] else decN u
theorem dec_eq : ∀ u : Nat, 0 < u → Lib.decDigits u = decN u := by
  intro u
  induction u using Nat.strongRecOn with
  | ind u ih =>
    intro h
    rw [Lib.decDigits, decN_pos h]
    split
    · rename_i h10
      rw [show u / 10 = 0 by omega, decN_zero, show u % 10 = u by omega]
      rfl
    · rw [ih (u / 10) (by omega) (by omega)]
theorem dig_eq (u : Nat) : Lib.decDigits u = decU u := by
  unfold decU
  split
  · rename_i h; subst h; rw [Lib.decDigits]; rfl
  · exact dec_eq u (by omega)
theorem zero_row (w : World) (T : TypeId) (nd : Nat) (hs : nd ≤ 24) : Holds (fun (b : UInt8) => Value.int .u8 (b.toNat : Int)) (w.alloc (.cells Lib.zeros24 T)) w.heap.size 0 (Array.replicate nd (0 : UInt8)) := fun j hj => by
  have hj' : j < nd := by simpa using hj
  refine ⟨?_, World.frozen?_alloc_new _ _ _ _⟩
  rw [World.cell?_alloc_new, Lib.zeros24_at _ (by omega), getElem!_pos _ j hj]
  simp
theorem row_end (w : World) (o : Obj) (dk : Array UInt8) (k : Nat) : Keeps (fun _ => False) w ((putRow (fun (b : UInt8) => Value.int .u8 (b.toNat : Int)) (w.alloc o) w.heap.size 0 dk).drewN k) := by
  obtain ⟨os', _, e⟩ := putRow_grow_new (fun (b : UInt8) => Value.int .u8 (b.toNat : Int)) w #[o] w.heap.size 0 dk (Nat.le_refl _)
  rw [alloc_eq_grow, e]
  exact keeps_grow w k os'

set_option maxRecDepth 100000 in
set_option maxHeartbeats 2000000 in
theorem fmtIn_v (u : Nat) (hu64 : u < 18446744073709551616) (w : World) (hP : Pow w) :
    Calls Tryd.prog 36 #[.int .u64 u, .int .i64 10] w fun e w' => e = .returned (str (decU u)) ∧ Keeps (fun _ => False) w w' := by
  rw [← dig_eq]
  by_cases hs : u < 100
  · have HQ := hide (Tryd.internal_strconv_small u hs w)
    clear hP
    go_enter Tryd.func36, Tryd.ntmps36
    go_wp2_with (go_at_call 49; refine (unhide HQ).mono ?_; rintro e w' ⟨rfl, rfl⟩)
    go_ret
    exact ⟨rfl, Keeps.refl _ _⟩
  · have hu1 : 1 ≤ u := by omega
    have hnd20 : Lib.nDigits u ≤ 20 := by have := Lib.numDigits_eq u hu1 hu64; split at this <;> omega
    have hal : Tryd.prog.arrayLen 66 = 24 := by kernel_rfl
    have hel : Tryd.prog.elem 66 = 5 := by kernel_rfl
    have hsl : ∀ W, (Instr.sliceAt 66 (.pointer (some ⟨w.heap.size, 0, none⟩)) none (some (.int .i64 (Lib.nDigits u : Int))) none).run Tryd.prog W = .ok (.slice (some ⟨w.heap.size, 0, none⟩) (Lib.nDigits u) 24) W := fun W => by
      rw [run_sliceAt_array_h W 66 ⟨w.heap.size, 0, none⟩ (by kernel_rfl) .i64 (Lib.nDigits u : Int) (by omega) (by rw [hal]; omega), hal, hel]
      go_simp
    have hH0 := zero_row w 66 (Lib.nDigits u) (by omega)
    have hfmt := Tryd.internal_strconv_formatBase10 w.heap.size 0 24 u (Array.replicate (Lib.nDigits u) 0) (w.alloc (.cells Lib.zeros24 66)) hH0 (by rw [Array.size_replicate]; exact Lib.lt_pow_nDigits u) hu64 (by rw [Array.size_replicate]; omega)
    rw [Array.size_replicate] at hfmt
    have HH0 := hide hH0
    have HF := hide hfmt
    have HN := hide (Tryd.internal_strconv_numDigits u hu1 hu64 _ (Lib.tabIs_alloc hP (.cells Lib.zeros24 66)))
    clear hH0 hal hel hfmt hP
    go_enter Tryd.func36, Tryd.ntmps36
    go_wp2_with (go_at_call 50; refine (unhide HN).mono ?_; rintro e w' ⟨rfl, rfl⟩)
    refine (unhide HF).mono ?_
    rintro e w' ⟨rfl, k, v', dk, rfl, hF⟩
    have HK := hide (row_end w (.cells Lib.zeros24 66) dk k)
    have hcv : (convert 39 9 (.slice (some ⟨w.heap.size, 0, none⟩) (Lib.nDigits u) 24)).run Tryd.prog ((putRow (fun (b : UInt8) => Value.int .u8 (b.toNat : Int)) (w.alloc (.cells Lib.zeros24 66)) w.heap.size 0 dk).drewN k) = .ok (.string ⟨(Lib.decDigits u).toArray⟩) ((putRow (fun (b : UInt8) => Value.int .u8 (b.toNat : Int)) (w.alloc (.cells Lib.zeros24 66)) w.heap.size 0 dk).drewN k) := by
      have h := run_convert_bytes_back (P := Tryd.prog) ((putRow (fun (b : UInt8) => Value.int .u8 (b.toNat : Int)) (w.alloc (.cells Lib.zeros24 66)) w.heap.size 0 dk).drewN k) 39 9 5 ⟨w.heap.size, 0, none⟩ 24 (Lib.decDigits u) Tryd.underlying39 Tryd.underlying5 Tryd.underlying9 (fun j hj => by
        rw [Lib.row_is_numeral hF j hj, Lib.add_plain, World.cell?_drewN]
        exact cell?_putRow (fun (b : UInt8) => Value.int .u8 (b.toNat : Int)) _ w.heap.size 0 _ dk (unhide HH0) (by rw [hF.size, Array.size_replicate]) j (by rw [hF.size]; rw [Lib.decDigits_length] at hj; exact hj))
      rw [Lib.decDigits_length] at h
      exact h
    clear hF HF HN HH0
    generalize (putRow (fun (b : UInt8) => Value.int .u8 (b.toNat : Int)) (w.alloc (.cells Lib.zeros24 66)) w.heap.size 0 dk).drewN k = w2 at *
    go_wp2
    go_ret
    exact ⟨rfl, unhide HK⟩

set_option maxRecDepth 100000 in
theorem fmt_v (u : Nat) (hu64 : u < 18446744073709551616) (w : World) (hP : Pow w) :
    Calls Tryd.prog 23 #[.int .u64 u, .int .i64 10] w fun e w' => e = .returned (str (decU u)) ∧ Keeps (fun _ => False) w w' := by
  have HQ := hide (fmtIn_v u hu64 w hP)
  clear hP
  go_enter Tryd.func23, Tryd.ntmps23
  go_wp2_with fail
  refine (unhide HQ).mono ?_
  rintro e w' ⟨rfl, hk⟩
  have HK := hide hk
  clear hk
  go_wp2_with fail
  go_ret
  exact ⟨rfl, unhide HK⟩
end Go.Proofs.YtbgapbaeegloaaaDoor
