import Derived.Test.YtjmbcelkhiopeaaA
import Derived.Laws.CopyOwn
namespace Go.Proofs.Ytjmbcelkhiopeaa
open Go.RowKit

/-- Bytes as cells. -/
def bs (l : List Int) : List Value := l.map (Value.int .u8)
theorem bs_length (l : List Int) : (bs l).length = l.length := by simp [bs]
theorem bs_get (l : List Int) (j : Nat) : (bs l)[j]? = (l[j]?).map (Value.int .u8) := by simp [bs]
theorem bs_one (l : List Int) : ∀ v ∈ bs l, v.oneCell' = true := by
  intro v hv
  simp only [bs, List.mem_map] at hv
  obtain ⟨x, _, rfl⟩ := hv
  rfl

theorem Try.info5 : (Try.prog.info? 5).map (fun i => (i.zero, i.size, i.bytes)) = some (some (.int .u8 0), 1, 1) := by kernel_rfl
theorem Try.size5 : (Try.prog.info? 5).map (·.size) = some 1 := by kernel_rfl

theorem setRow_alloc (w : World) (X Y : Array Value) (t : TypeId) : (w.alloc (.cells X t)).setRow w.heap.size Y = w.alloc (.cells Y t) := by
  unfold World.setRow World.alloc
  congr 1
  apply Array.ext_getElem?
  intro i
  rw [Array.getElem?_modify]
  by_cases h : w.heap.size = i
  · subst h; simp
  · rw [if_neg h]; simp only [Array.getElem?_push]; rw [if_neg (by omega), if_neg (by omega)]

theorem run_mk (n : Nat) (hn : n ≤ 16777216) (w : World) : (Instr.makeSlice 32 (.int .i64 (n : Int)) (.int .i64 (n : Int))).run Try.prog w = .ok (.slice (some ⟨w.heap.size, 0, none⟩) n n) (w.alloc (.cells (madeCells (Value.int .u8 0).cells n) 5)) := by
  obtain ⟨i0, hi, hz0, hz1, hz2⟩ := info_parts Try.info5
  have h := run_make (P := Try.prog) w 32 5 i0 (.int .u8 0) Try.underlying32 hi hz0 .i64 .i64 (n : Int) (n : Int) (by omega) (by omega) (by rw [hz2]; omega) (by omega)
  rw [hz1] at h
  simpa using h

theorem run_cp (n cap b off : Nat) (l : List Int) (ty : TypeId) (w : World) (X : Array Value) (hX : X.size = n) (hl : l.length = n) (hb : b < w.heap.size)
    (hc : ∀ j x, l[j]? = some x → w.cell? ⟨b, off + j, none⟩ = some (.int .u8 x)) :
    (Builtin.copy_ #[32, 32] ty #[.slice (some ⟨w.heap.size, 0, none⟩) n n, .slice (some ⟨b, off, none⟩) n cap]).run Try.prog (w.alloc (.cells X 5)) = .ok (.int .i64 n) (w.alloc (.cells (bs l).toArray 5)) := by
  have h := run_copy_row (P := Try.prog) (w.alloc (.cells X 5)) 32 32 ty 5 w.heap.size 0 n n ⟨b, off, none⟩ n cap X 5 (bs l) Try.underlying32 Try.size5 (heap_alloc_new w _) (by simp [bs_length, hl])
    (by
      intro j v hv
      rw [bs_get] at hv
      obtain ⟨x, hx, rfl⟩ := Option.map_eq_some_iff.1 hv
      have hadd : (⟨b, off, none⟩ : Addr).add j = ⟨b, off + j, none⟩ := by unfold Addr.add; split <;> simp_all
      rw [hadd, World.cell?_alloc_past _ _ _ hb]
      exact hc j x hx)
    (by simp [bs_length, hl, hX]) (bs_one l)
  rw [h]
  have e : X.toList.take 0 ++ bs l ++ X.toList.drop (0 + (bs l).length) = bs l := by
    rw [List.drop_of_length_le (by simp [bs_length, hl, hX])]; simp
  rw [e, setRow_alloc, bs_length, hl]
  rfl

set_option maxHeartbeats 400000 in
theorem copied_any (b off n cap : Nat) (l : List Int) (w : World) (hl : l.length = n) (hb : b < w.heap.size) (hn : n ≤ 16777216)
    (hc : ∀ j x, l[j]? = some x → w.cell? ⟨b, off + j, none⟩ = some (.int .u8 x)) :
    Calls Try.prog 41 #[.slice (some ⟨b, off, none⟩) n cap] w fun e w' => e = .returned (.slice (some ⟨w.heap.size, 0, none⟩) n n) ∧ w' = w.alloc (.cells (bs l).toArray 5) := by
  have hmk := run_mk n hn w
  have hcp := fun ty => run_cp n cap b off l ty w _ (size_madeCells (Value.int .u8 0).cells n) hl hb hc
  generalize madeCells (Value.int .u8 0).cells n = X at hmk hcp
  clear hc hl hn
  go_enter Try.func41, Try.ntmps41
  go_wp2
  go_ret
  exact ⟨rfl, rfl⟩

/-- The ten cells of a disk. -/
def dcells (secs size : Nat) (dv wv : Value) (mb : Nat) (left : Int) (dead : Bool) (r wr f : Int) : Array Value :=
  #[.int .i64 secs, .int .i64 size, dv, wv, .map (some mb), .int .i64 left, .bool dead, .int .i64 r, .int .i64 wr, .int .i64 f]

theorem wrap_div (n s : Nat) (hn : n ≤ 16777216) : wrap64 ((n : Int) / (s : Int)) = ((n / s : Nat) : Int) := by
  have h := Nat.div_le_self n s
  rw [← Int.natCast_ediv]
  generalize n / s = q at *
  exact IntWalk.wrap64_in _ (by omega)

set_option maxHeartbeats 400000 in
theorem over_any (g n s : Nat) (w : World) (hs : 32 ≤ s) (hs' : s ≤ 1024) (hn : n ≤ 16777216) :
    Calls Try.prog 42 #[.slice (some ⟨g, 0, none⟩) n n, .int .i64 s] w fun e w' => e = .returned (.pointer (some ⟨w.heap.size + 1, 0, none⟩)) ∧
      w' = (w.alloc (.map #[] 0)).alloc (.cells (dcells (n / s) s (.slice (some ⟨g, 0, none⟩) n n) (.slice none 0 0) w.heap.size (-1) false 0 0 0) 89) := by
  have hmm := @run_makeMap Try.prog
  have h0 : ((s : Int) == 0) = false := by rw [beq_eq_false_iff_ne]; omega
  go_enter Try.func42, Try.ntmps42
  go_wp2
  go_ret
  refine ⟨rfl, ?_⟩
  rw [wrap_div n s hn]
  rfl

theorem toNat_mul (n s : Nat) : ((n : Int) * (s : Int)).toNat = n * s := by rw [← Int.natCast_mul, Int.toNat_natCast]

theorem made_zero (n : Nat) : (madeCells (Value.int .u8 0).cells n) = (bs (List.replicate n 0)).toArray := by
  unfold madeCells bs
  apply Array.ext
  · simp
  · intro i h1 h2
    simp [Value.cells, Nat.mod_one]

set_option maxRecDepth 100000 in
set_option maxHeartbeats 400000 in
theorem new_yes (n s : Nat) (w : World) (h1 : 1 ≤ n) (h2 : n ≤ 16384) (h3 : 32 ≤ s) (h4 : s ≤ 1024) :
    Calls Try.prog 36 #[.int .i64 n, .int .i64 s] w fun e w' => e = .returned (.tuple #[.pointer (some ⟨w.heap.size + 2, 0, none⟩), .int .i64 0]) ∧
      w' = ((w.alloc (.cells (bs (List.replicate (n * s) 0)).toArray 5)).alloc (.map #[] 0)).alloc (.cells (dcells n s (.slice (some ⟨w.heap.size, 0, none⟩) (n * s) (n * s)) (.slice none 0 0) (w.heap.size + 1) (-1) false 0 0 0) 89) := by
  have hns : n * s ≤ 16777216 := Nat.le_trans (Nat.mul_le_mul h2 h4) (by decide)
  have hmk := run_mk (n * s) hns w
  rw [made_zero] at hmk
  rw [Int.natCast_mul] at hmk
  have hw : wrap64 ((n : Int) * s) = (n : Int) * s := by
    rw [← Int.natCast_mul]; exact IntWalk.wrap64_in _ (by omega)
  have hov := over_any w.heap.size (n * s) s (w.alloc (.cells (bs (List.replicate (n * s) 0)).toArray 5)) h3 h4 hns
  rw [Nat.mul_div_cancel n (by omega)] at hov
  simp only [World.size_alloc] at hov
  generalize (bs (List.replicate (n * s) 0)).toArray = Z at hmk hov ⊢
  have HO := hide hov
  clear hov
  have hf : fitsB s = true := by simp [fitsB]; omega
  clear hns
  go_enter Try.func36, Try.ntmps36
  go_wp2_with fail
  refine (sizeFits_any _ _).mono ?_; rintro e w' ⟨rfl, rfl⟩
  go_wp2_with fail
  refine (unhide HO).mono ?_; rintro e w' ⟨rfl, rfl⟩
  go_wp2
  go_ret2
  exact ⟨rfl, rfl⟩

set_option maxHeartbeats 400000 in
theorem new_no (n s : Int) (w : World) (h : ¬ (1 ≤ n ∧ n ≤ 16384 ∧ 32 ≤ s ∧ s ≤ 1024)) :
    Calls Try.prog 36 #[.int .i64 n, .int .i64 s] w fun e w' => e = .returned (.tuple #[.pointer none, .int .i64 1]) ∧ w' = w := by
  by_cases h1 : n < 1
  · go_enter Try.func36, Try.ntmps36
    go_wp2
    go_ret2
    exact ⟨rfl, rfl⟩
  · by_cases h2 : 16384 < n
    · go_enter Try.func36, Try.ntmps36
      go_wp2
      go_ret2
      exact ⟨rfl, rfl⟩
    · have hf : fitsB s = false := by simp [fitsB]; omega
      go_enter Try.func36, Try.ntmps36
      go_wp2_with (go_at_call 43; refine (sizeFits_any _ _).mono ?_; rintro e w' ⟨rfl, rfl⟩)
      go_ret2
      exact ⟨rfl, rfl⟩
end Go.Proofs.Ytjmbcelkhiopeaa
