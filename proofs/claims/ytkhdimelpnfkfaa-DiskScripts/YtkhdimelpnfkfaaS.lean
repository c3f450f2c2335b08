import Derived.Test.YtkhdimelpnfkfaaL
import Derived.Test.YtkhdimelpnfkfaaP
namespace Go.Proofs.Ytkhdimelpnfkfaa
open Go.ChangeShapes Go.WideShapes Go.ChangeAt Go.RowKit Go.Deep

theorem bools_of {H : Type} {enc : TypeId × Value → H} {W : World} {fuel : Nat} {a0 : Option Addr} {len cap : Nat} {x : DataW H × List MemPlace} (h : DataW.trod enc Try.prog W 0 (fun _ => true) true fuel 51 [.slice a0 len cap] = some x) :
    ∃ ks : List Bool, Bools W (.slice a0 len cap) ks ∧ ks.length = len ∧ len ≤ maxLen := by
  rcases open_slice Try.underlying51 h with ⟨hcs, _⟩ | ⟨a, l, c, m, n, D, Pl, hcs, _, hl, hm, hmm, _, hel⟩
  · simp at hcs
    obtain ⟨rfl, rfl, rfl⟩ := hcs
    exact ⟨[], ⟨⟨_, _, rfl⟩, fun h0 => by simp at h0⟩, rfl, by unfold maxLen; omega⟩
  · simp at hcs
    obtain ⟨rfl, rfl, rfl⟩ := hcs
    simp at hmm
    rw [show Try.prog.cellsOf 4 = 1 from (by kernel_rfl)] at hel
    have hev : ∀ i, i < len → ∃ p : Bool, W.cell? ((a.add (i * 1)).add 0) = some (.bool p) := by
      intro i hi
      obtain ⟨cs', hcs', htr⟩ := hel i (by omega)
      obtain ⟨b, rfl, _⟩ := DataW.trod_bool Try.underlying4 htr
      obtain ⟨_, _, hcc⟩ := World.cells?_some hcs'
      exact ⟨b, by simpa using hcc 0 (by omega)⟩
    obtain ⟨f, hf⟩ := choose_lt hev
    refine ⟨(List.range len).map f, ⟨⟨_, _, by simp; exact ⟨rfl, rfl⟩⟩, fun h0 => ?_⟩, by simp, Nat.le_trans hl hm⟩
    simp at h0
    have hc0 := hf 0 h0
    have hspot : a.spot = none := by
      have := World.cell?_spot hc0
      simpa [Addr.add] using this
    obtain ⟨b, off, spot⟩ := a
    simp at hspot
    subst hspot
    refine ⟨b, off, cap, by simp, ?_, fun i p hp => ?_⟩
    · have := World.block_lt_of_cell? W _ hc0
      simpa [Addr.add] using this
    · have hi : i < len := by
        have := (List.getElem?_eq_some_iff.1 hp).1
        simpa using this
      have hpe : f i = p := by simpa [hi] using hp
      have q0 := hf i hi
      rw [hpe] at q0
      simpa [Addr.add_lit] using q0

theorem bytes_of {H : Type} {enc : TypeId × Value → H} {W : World} {fuel : Nat} {a0 : Option Addr} {len cap : Nat} {x : DataW H × List MemPlace} (h : DataW.trod enc Try.prog W 0 (fun _ => true) true fuel 32 [.slice a0 len cap] = some x) :
    ∃ l : List Int, Reads W (.slice a0 len cap) l ∧ l.length = len ∧ len ≤ maxLen ∧ (0 < len → ∃ b off, a0 = some ⟨b, off, none⟩ ∧ b < W.heap.size) := by
  rcases open_slice Try.underlying32 h with ⟨hcs, _⟩ | ⟨a, l, c, m, n, D, Pl, hcs, _, hl, hm, hmm, _, hel⟩
  · simp at hcs
    obtain ⟨rfl, rfl, rfl⟩ := hcs
    exact ⟨[], ⟨⟨_, _, rfl⟩, fun h0 => by simp at h0⟩, rfl, by unfold maxLen; omega, fun h0 => by omega⟩
  · simp at hcs
    obtain ⟨rfl, rfl, rfl⟩ := hcs
    simp at hmm
    rw [show Try.prog.cellsOf 5 = 1 from (by kernel_rfl)] at hel
    have hev : ∀ i, i < len → ∃ p : Int, W.cell? ((a.add (i * 1)).add 0) = some (.int .u8 p) := by
      intro i hi
      obtain ⟨cs', hcs', htr⟩ := hel i (by omega)
      obtain ⟨b, rfl, _, _⟩ := DataW.trod_int Try.underlying5 htr
      obtain ⟨_, _, hcc⟩ := World.cells?_some hcs'
      exact ⟨b, by simpa using hcc 0 (by omega)⟩
    obtain ⟨f, hf⟩ := choose_lt hev
    have hsp : 0 < len → ∃ b off, a = ⟨b, off, none⟩ ∧ b < W.heap.size := by
      intro h0
      have hc0 := hf 0 h0
      have hspot : a.spot = none := by
        have := World.cell?_spot hc0
        simpa [Addr.add] using this
      obtain ⟨b, off, spot⟩ := a
      simp at hspot
      subst hspot
      exact ⟨b, off, rfl, by simpa [Addr.add] using World.block_lt_of_cell? W _ hc0⟩
    refine ⟨(List.range len).map f, ⟨⟨_, _, by simp; exact ⟨rfl, rfl⟩⟩, fun h0 => ?_⟩, by simp, Nat.le_trans hl hm, fun h0 => ?_⟩
    · simp at h0
      obtain ⟨b, off, rfl, _⟩ := hsp h0
      refine ⟨b, off, cap, by simp, fun i p hp => ?_⟩
      have hi : i < len := by
        have := (List.getElem?_eq_some_iff.1 hp).1
        simpa using this
      have hpe : f i = p := by simpa [hi] using hp
      have q0 := hf i hi
      rw [hpe] at q0
      simpa [Addr.add_lit] using q0
    · obtain ⟨b, off, rfl, hb⟩ := hsp h0
      exact ⟨b, off, rfl, hb⟩

theorem i64_hi {x : Int} (h : (Lit.int .i64 x).wf = true) : x ≤ 9223372036854775807 := by
  have := bounds_i64 h
  omega

end Go.Proofs.Ytkhdimelpnfkfaa
