import Derived.Test.YtkhdimelpnfkfaaK
import Derived.ProofKit
import Derived.OpenShut
import Derived.ShutString
import Derived.ChangeOld
import Derived.Deep.Slices
import Derived.Deep.Strs
namespace Go.Proofs.Ytkhdimelpnfkfaa
open Go.ChangeShapes Go.WideShapes Go.ChangeAt Go.RowKit Go.Deep

theorem Try.cells29 : Try.prog.cellsOf 29 = 3 := by kernel_rfl
theorem own : ownKnob Try.prog.godebug = none := by kernel_rfl
theorem laidOut : laidOutB Try.prog = true := by kernel_rfl

theorem put_cells {H : Type} {enc : TypeId × Value → H} {W : World} {base : Nat} {sp : Nat → Bool} {held : Bool} {fuel : Nat} {cs : List Value} {x : DataW H × List MemPlace} (h : DataW.trod enc Try.prog W base sp held fuel 29 cs = some x) :
    ∃ p : Pt, cs = [.bool p.flush, .int .i64 p.sec, .int .u8 p.b] := by
  obtain ⟨y0, y1, y2, n, rfl, hl, h0, h1, h2⟩ := trod_struct3 Try.underlying29 h
  rw [Try.cells29] at hl
  match cs, hl with
  | [c0, c1, c2], _ =>
    rw [show Try.prog.cellsOf _ = 1 from (by kernel_rfl : Try.prog.cellsOf 4 = 1)] at h0
    rw [show Try.prog.cellsOf _ = 1 from (by kernel_rfl : Try.prog.cellsOf 3 = 1)] at h1
    rw [show Try.prog.cellsOf _ = 1 from (by kernel_rfl : Try.prog.cellsOf 5 = 1)] at h2
    obtain ⟨f, e0, _⟩ := DataW.trod_bool Try.underlying4 h0
    obtain ⟨a, e1, _, _⟩ := DataW.trod_int Try.underlying3 h1
    obtain ⟨b, e2, _, _⟩ := DataW.trod_int Try.underlying5 h2
    simp at e0 e1 e2
    exact ⟨⟨f, a, b⟩, by rw [e0, e1, e2]⟩

theorem acts_of {H : Type} {enc : TypeId × Value → H} {W : World} {fuel : Nat} {a0 : Option Addr} {len cap : Nat} {x : DataW H × List MemPlace} (h : DataW.trod enc Try.prog W 0 (fun _ => true) true fuel 22 [.slice a0 len cap] = some x) :
    ∃ acts : List Pt, Acts W (.slice a0 len cap) acts ∧ acts.length = len := by
  rcases open_slice Try.underlying22 h with ⟨hcs, _⟩ | ⟨a, l, c, m, n, D, Pl, hcs, _, hl, hm, hmm, _, hel⟩
  · simp at hcs
    obtain ⟨rfl, rfl, rfl⟩ := hcs
    exact ⟨[], ⟨⟨_, _, rfl⟩, fun h0 => by simp at h0⟩, rfl⟩
  · simp at hcs
    obtain ⟨rfl, rfl, rfl⟩ := hcs
    simp at hmm
    rw [Try.cells29] at hel
    have hev : ∀ i, i < len → ∃ p : Pt, W.cell? ((a.add (i * 3)).add 0) = some (.bool p.flush) ∧ W.cell? ((a.add (i * 3)).add 1) = some (.int .i64 p.sec) ∧ W.cell? ((a.add (i * 3)).add 2) = some (.int .u8 p.b) := by
      intro i hi
      obtain ⟨cs', hcs', htr⟩ := hel i (by omega)
      obtain ⟨p, rfl⟩ := put_cells htr
      obtain ⟨_, _, hcc⟩ := World.cells?_some hcs'
      exact ⟨p, by simpa using hcc 0 (by omega), by simpa using hcc 1 (by omega), by simpa using hcc 2 (by omega)⟩
    obtain ⟨f, hf⟩ := @choose_lt _ ⟨(⟨false, 0, 0⟩ : Pt)⟩ _ _ hev
    refine ⟨(List.range len).map f, ⟨⟨_, _, by simp; exact ⟨rfl, rfl⟩⟩, fun h0 => ?_⟩, by simp⟩
    simp at h0
    have hc0 := (hf 0 h0).1
    have hspot : a.spot = none := by
      have := World.cell?_spot hc0
      simpa [Addr.add] using this
    obtain ⟨b, off, spot⟩ := a
    simp at hspot
    subst hspot
    refine ⟨b, off, cap, by simp, ?_, fun i p hp => ?_⟩
    · have := World.block_lt_of_cell? W _ hc0
      simpa [Addr.add] using this
    · have hi : i < len := by
        have := (List.getElem?_eq_some_iff.1 hp).1
        simpa using this
      have hpe : f i = p := by simpa [hi] using hp
      obtain ⟨q0, q1, q2⟩ := hf i hi
      rw [hpe] at q0 q1 q2
      simp only [Addr.add_lit] at q0 q1 q2
      exact ⟨q0, q1, q2⟩

end Go.Proofs.Ytkhdimelpnfkfaa
