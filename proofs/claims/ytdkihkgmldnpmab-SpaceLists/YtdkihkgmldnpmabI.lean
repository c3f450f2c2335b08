import Derived.Test.YtdkihkgmldnpmabRows
import Derived.Test.YtdkihkgmldnpmabE
import Derived.ProofKit
import Derived.OpenShut
import Derived.ShutString
import Derived.ChangeOld
import Derived.Deep.Slices
import Derived.Deep.Strs
import Derived.SizedLaws
namespace Go.Proofs.Ytdkihkgmldnpmab
open Go.ChangeShapes Go.WideShapes Go.ChangeAt Go.RowKit Go.Deep

theorem own : ownKnob Try.prog.godebug = none := by kernel_rfl
theorem laidOut : laidOutB Try.prog = true := by kernel_rfl

theorem i64_hi {x : Int} (h : (Lit.int .i64 x).wf = true) : -9223372036854775808 ≤ x ∧ x ≤ 9223372036854775807 := by
  have := bounds_i64 h
  omega
theorem u8_in {x : Int} (h : (Lit.int .u8 x).wf = true) : 0 ≤ x ∧ x ≤ 255 := by
  simp [Lit.wf, IntKind.min, IntKind.max, IntKind.signed, IntKind.bits] at h
  omega

theorem bytes_of {H : Type} {enc : TypeId × Value → H} {W : World} {fuel : Nat} {a0 : Option Addr} {len cap : Nat} {x : DataW H × List MemPlace} (h : DataW.trod enc Try.prog W 0 (fun _ => true) true fuel 37 [.slice a0 len cap] = some x) :
    ∃ l : List Int, Cells W (.slice a0 len cap) (bs l) ∧ l.length = len ∧ len ≤ maxLen ∧ (∀ x ∈ l, 0 ≤ x ∧ x ≤ 255) := by
  rcases open_slice Try.underlying37 h with ⟨hcs, _⟩ | ⟨a, l, c, m, n, D, Pl, hcs, _, hl, hm, hmm, _, hel⟩
  · simp at hcs
    obtain ⟨rfl, rfl, rfl⟩ := hcs
    exact ⟨[], ⟨⟨_, _, rfl⟩, fun h0 => by simp [bs] at h0⟩, rfl, by unfold maxLen; omega, fun _ h => by cases h⟩
  · simp at hcs
    obtain ⟨rfl, rfl, rfl⟩ := hcs
    simp at hmm
    rw [show Try.prog.cellsOf 5 = 1 from (by kernel_rfl)] at hel
    have hev : ∀ i, i < len → ∃ p : Int, W.cell? ((a.add (i * 1)).add 0) = some (.int .u8 p) ∧ 0 ≤ p ∧ p ≤ 255 := by
      intro i hi
      obtain ⟨cs', hcs', htr⟩ := hel i (by omega)
      obtain ⟨b, rfl, _, hwf⟩ := DataW.trod_int Try.underlying5 htr
      obtain ⟨_, _, hcc⟩ := World.cells?_some hcs'
      exact ⟨b, by simpa using hcc 0 (by omega), u8_in hwf⟩
    obtain ⟨f, hf⟩ := choose_lt hev
    refine ⟨(List.range len).map f, ⟨⟨_, _, by simp [bs]; exact ⟨rfl, rfl⟩⟩, fun h0 => ?_⟩, by simp, Nat.le_trans hl hm, ?_⟩
    · simp [bs] at h0
      have hc0 := (hf 0 h0).1
      have hspot : a.spot = none := by
        have := World.cell?_spot hc0
        simpa [Addr.add] using this
      obtain ⟨b, off, spot⟩ := a
      simp at hspot
      subst hspot
      refine ⟨b, off, cap, by simp [bs], ?_, fun i p hp => ?_⟩
      · have := World.block_lt_of_cell? W _ hc0
        simpa [Addr.add] using this
      · have hi : i < len := by
          have := (List.getElem?_eq_some_iff.1 hp).1
          simpa [bs] using this
        have hpe : Value.int .u8 (f i) = p := by simpa [bs, hi] using hp
        have q0 := (hf i hi).1
        rw [hpe] at q0
        simpa [Addr.add_lit] using q0
    · intro y hy
      obtain ⟨i, hi, rfl⟩ := List.mem_map.1 hy
      exact (hf i (List.mem_range.1 hi)).2

theorem ints_of {H : Type} {enc : TypeId × Value → H} {W : World} {fuel : Nat} {a0 : Option Addr} {len cap : Nat} {x : DataW H × List MemPlace} (h : DataW.trod enc Try.prog W 0 (fun _ => true) true fuel 51 [.slice a0 len cap] = some x) :
    ∃ l : List Int, Cells W (.slice a0 len cap) (is l) ∧ l.length = len ∧ (∀ x ∈ l, -9223372036854775808 ≤ x ∧ x ≤ 9223372036854775807) := by
  rcases open_slice Try.underlying51 h with ⟨hcs, _⟩ | ⟨a, l, c, m, n, D, Pl, hcs, _, hl, hm, hmm, _, hel⟩
  · simp at hcs
    obtain ⟨rfl, rfl, rfl⟩ := hcs
    exact ⟨[], ⟨⟨_, _, rfl⟩, fun h0 => by simp [is] at h0⟩, rfl, fun _ h => by cases h⟩
  · simp at hcs
    obtain ⟨rfl, rfl, rfl⟩ := hcs
    simp at hmm
    rw [show Try.prog.cellsOf 3 = 1 from (by kernel_rfl)] at hel
    have hev : ∀ i, i < len → ∃ p : Int, W.cell? ((a.add (i * 1)).add 0) = some (.int .i64 p) ∧ -9223372036854775808 ≤ p ∧ p ≤ 9223372036854775807 := by
      intro i hi
      obtain ⟨cs', hcs', htr⟩ := hel i (by omega)
      obtain ⟨b, rfl, _, hwf⟩ := DataW.trod_int Try.underlying3 htr
      obtain ⟨_, _, hcc⟩ := World.cells?_some hcs'
      exact ⟨b, by simpa using hcc 0 (by omega), i64_hi hwf⟩
    obtain ⟨f, hf⟩ := choose_lt hev
    refine ⟨(List.range len).map f, ⟨⟨_, _, by simp [is]; exact ⟨rfl, rfl⟩⟩, fun h0 => ?_⟩, by simp, ?_⟩
    · simp [is] at h0
      have hc0 := (hf 0 h0).1
      have hspot : a.spot = none := by
        have := World.cell?_spot hc0
        simpa [Addr.add] using this
      obtain ⟨b, off, spot⟩ := a
      simp at hspot
      subst hspot
      refine ⟨b, off, cap, by simp [is], ?_, fun i p hp => ?_⟩
      · have := World.block_lt_of_cell? W _ hc0
        simpa [Addr.add] using this
      · have hi : i < len := by
          have := (List.getElem?_eq_some_iff.1 hp).1
          simpa [is] using this
        have hpe : Value.int .i64 (f i) = p := by simpa [is, hi] using hp
        have q0 := (hf i hi).1
        rw [hpe] at q0
        simpa [Addr.add_lit] using q0
    · intro y hy
      obtain ⟨i, hi, rfl⟩ := List.mem_map.1 hy
      exact (hf i (List.mem_range.1 hi)).2

section
variable {H : Type} {enc : TypeId × Value → H} {W : World} {fuel : Nat}
theorem slice_form {t e : TypeId} {c : Value} {x : DataW H × List MemPlace} (ht : Try.prog.underlying t = some (.slice e)) (hb : Try.prog.bytesOf e = 1) (h : DataW.trod enc Try.prog W 0 (fun _ => true) true fuel t [c] = some x) (hw : ∀ n ∈ x.1.weights Try.prog t, n ≤ reachBytes) :
    ∃ a0 len cap, c = .slice a0 len cap ∧ len ≤ 140737488351232 := by
  rcases open_slice ht h with ⟨hcs, _⟩ | ⟨a, l, cp, m, n, D, Pl, hcs, _, hl, hm, hmm, hx, hel⟩
  · simp at hcs
    exact ⟨_, _, _, hcs, by omega⟩
  · simp at hcs
    refine ⟨_, _, _, hcs, ?_⟩
    have := hw _ (by rw [hx]; simp only [DataW.weights, ht]; exact List.mem_cons_self)
    rw [hb] at this
    simp [reachBytes] at this
    omega
end
end Go.Proofs.Ytdkihkgmldnpmab
