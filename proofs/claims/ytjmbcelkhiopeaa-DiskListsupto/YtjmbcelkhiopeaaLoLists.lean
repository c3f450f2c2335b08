import Derived.Test.YtjmbcelkhiopeaaK
import Derived.ProofKit
import Derived.OpenShut
import Derived.ShutString
import Derived.ChangeOld
import Derived.Deep.Slices
import Derived.Deep.Strs
import Derived.Test.YtjmbcelkhiopeaaP
import Derived.Test.YtjmbcelkhiopeaaLn
import Derived.SizedLaws
import Derived.Test.YtjmbcelkhiopeaaRows
import Derived.Deep.CondSized
namespace Go.Proofs.Ytjmbcelkhiopeaa
open Go.ChangeShapes Go.WideShapes Go.ChangeAt Go.RowKit Go.Deep

theorem Try.cells29 : Try.prog.cellsOf 29 = 3 := by kernel_rfl
theorem own : ownKnob Try.prog.godebug = none := by kernel_rfl
theorem laidOut : laidOutB Try.prog = true := by kernel_rfl

set_option maxRecDepth 100000 in
theorem put_cells {H : Type} {enc : TypeId × Value → H} {W : World} {base : Nat} {sp : Nat → Bool} {held : Bool} {fuel : Nat} {cs : List Value} {x : DataW H × List MemPlace} (h : DataW.trod enc Try.prog W base sp held fuel 29 cs = some x) :
    ∃ p : Pt, cs = [.bool p.flush, .int .i64 p.sec, .int .u8 p.b] := by
  obtain ⟨y0, y1, y2, n, rfl, hl, h0, h1, h2⟩ := trod_struct3 Try.underlying29 h
  rw [Try.cells29] at hl
  match cs, hl with
  | [c0, c1, c2], _ =>
    rw [show Try.prog.cellsOf _ = 1 from (by kernel_rfl : Try.prog.cellsOf 4 = 1)] at h0
    rw [show Try.prog.cellsOf _ = 1 from (by kernel_rfl : Try.prog.cellsOf 3 = 1)] at h1
    rw [show Try.prog.cellsOf _ = 1 from (by kernel_rfl : Try.prog.cellsOf 5 = 1)] at h2
    obtain ⟨f, e0, _⟩ := DataW.trod_bool Try.underlying4 h0
    obtain ⟨a, e1, _, _⟩ := DataW.trod_int Try.underlying3 h1
    obtain ⟨b, e2, _, _⟩ := DataW.trod_int Try.underlying5 h2
    simp at e0 e1 e2
    exact ⟨⟨f, a, b⟩, by rw [e0, e1, e2]⟩

set_option maxRecDepth 100000 in
theorem acts_of {H : Type} {enc : TypeId × Value → H} {W : World} {fuel : Nat} {a0 : Option Addr} {len cap : Nat} {x : DataW H × List MemPlace} (h : DataW.trod enc Try.prog W 0 (fun _ => true) true fuel 22 [.slice a0 len cap] = some x) :
    ∃ acts : List Pt, Acts W (.slice a0 len cap) acts ∧ acts.length = len := by
  rcases open_slice Try.underlying22 h with ⟨hcs, _⟩ | ⟨a, l, c, m, n, D, Pl, hcs, _, hl, hm, hmm, _, hel⟩
  · simp at hcs
    obtain ⟨rfl, rfl, rfl⟩ := hcs
    exact ⟨[], ⟨⟨_, _, rfl⟩, fun h0 => by simp at h0⟩, rfl⟩
  · simp at hcs
    obtain ⟨rfl, rfl, rfl⟩ := hcs
    simp at hmm
    rw [Try.cells29] at hel
    have hev : ∀ i, i < len → ∃ p : Pt, W.cell? ((a.add (i * 3)).add 0) = some (.bool p.flush) ∧ W.cell? ((a.add (i * 3)).add 1) = some (.int .i64 p.sec) ∧ W.cell? ((a.add (i * 3)).add 2) = some (.int .u8 p.b) := by
      intro i hi
      obtain ⟨cs', hcs', htr⟩ := hel i (by omega)
      obtain ⟨p, rfl⟩ := put_cells htr
      obtain ⟨_, _, hcc⟩ := World.cells?_some hcs'
      exact ⟨p, by simpa using hcc 0 (by omega), by simpa using hcc 1 (by omega), by simpa using hcc 2 (by omega)⟩
    obtain ⟨f, hf⟩ := @choose_lt _ ⟨(⟨false, 0, 0⟩ : Pt)⟩ _ _ hev
    refine ⟨(List.range len).map f, ⟨⟨_, _, by simp; exact ⟨rfl, rfl⟩⟩, fun h0 => ?_⟩, by simp⟩
    simp at h0
    have hc0 := (hf 0 h0).1
    have hspot : a.spot = none := by
      have := World.cell?_spot hc0
      simpa [Addr.add] using this
    obtain ⟨b, off, spot⟩ := a
    simp at hspot
    subst hspot
    refine ⟨b, off, cap, by simp, ?_, fun i p hp => ?_⟩
    · have := World.block_lt_of_cell? W _ hc0
      simpa [Addr.add] using this
    · have hi : i < len := by
        have := (List.getElem?_eq_some_iff.1 hp).1
        simpa using this
      have hpe : f i = p := by simpa [hi] using hp
      obtain ⟨q0, q1, q2⟩ := hf i hi
      rw [hpe] at q0 q1 q2
      simp only [Addr.add_lit] at q0 q1 q2
      exact ⟨q0, q1, q2⟩

end Go.Proofs.Ytjmbcelkhiopeaa

namespace Go.Proofs.Ytjmbcelkhiopeaa
open Go.ChangeShapes Go.WideShapes Go.ChangeAt Go.RowKit Go.Deep

theorem bools_of {H : Type} {enc : TypeId × Value → H} {W : World} {fuel : Nat} {a0 : Option Addr} {len cap : Nat} {x : DataW H × List MemPlace} (h : DataW.trod enc Try.prog W 0 (fun _ => true) true fuel 51 [.slice a0 len cap] = some x) :
    ∃ ks : List Bool, Bools W (.slice a0 len cap) ks ∧ ks.length = len ∧ len ≤ maxLen := by
  rcases open_slice Try.underlying51 h with ⟨hcs, _⟩ | ⟨a, l, c, m, n, D, Pl, hcs, _, hl, hm, hmm, _, hel⟩
  · simp at hcs
    obtain ⟨rfl, rfl, rfl⟩ := hcs
    exact ⟨[], ⟨⟨_, _, rfl⟩, fun h0 => by simp at h0⟩, rfl, by unfold maxLen; omega⟩
  · simp at hcs
    obtain ⟨rfl, rfl, rfl⟩ := hcs
    simp at hmm
    rw [show Try.prog.cellsOf 4 = 1 from (by kernel_rfl)] at hel
    have hev : ∀ i, i < len → ∃ p : Bool, W.cell? ((a.add (i * 1)).add 0) = some (.bool p) := by
      intro i hi
      obtain ⟨cs', hcs', htr⟩ := hel i (by omega)
      obtain ⟨b, rfl, _⟩ := DataW.trod_bool Try.underlying4 htr
      obtain ⟨_, _, hcc⟩ := World.cells?_some hcs'
      exact ⟨b, by simpa using hcc 0 (by omega)⟩
    obtain ⟨f, hf⟩ := choose_lt hev
    refine ⟨(List.range len).map f, ⟨⟨_, _, by simp; exact ⟨rfl, rfl⟩⟩, fun h0 => ?_⟩, by simp, Nat.le_trans hl hm⟩
    simp at h0
    have hc0 := hf 0 h0
    have hspot : a.spot = none := by
      have := World.cell?_spot hc0
      simpa [Addr.add] using this
    obtain ⟨b, off, spot⟩ := a
    simp at hspot
    subst hspot
    refine ⟨b, off, cap, by simp, ?_, fun i p hp => ?_⟩
    · have := World.block_lt_of_cell? W _ hc0
      simpa [Addr.add] using this
    · have hi : i < len := by
        have := (List.getElem?_eq_some_iff.1 hp).1
        simpa using this
      have hpe : f i = p := by simpa [hi] using hp
      have q0 := hf i hi
      rw [hpe] at q0
      simpa [Addr.add_lit] using q0

theorem bytes_of {H : Type} {enc : TypeId × Value → H} {W : World} {fuel : Nat} {a0 : Option Addr} {len cap : Nat} {x : DataW H × List MemPlace} (h : DataW.trod enc Try.prog W 0 (fun _ => true) true fuel 32 [.slice a0 len cap] = some x) :
    ∃ l : List Int, Reads W (.slice a0 len cap) l ∧ l.length = len ∧ len ≤ maxLen ∧ (0 < len → ∃ b off, a0 = some ⟨b, off, none⟩ ∧ b < W.heap.size) := by
  rcases open_slice Try.underlying32 h with ⟨hcs, _⟩ | ⟨a, l, c, m, n, D, Pl, hcs, _, hl, hm, hmm, _, hel⟩
  · simp at hcs
    obtain ⟨rfl, rfl, rfl⟩ := hcs
    exact ⟨[], ⟨⟨_, _, rfl⟩, fun h0 => by simp at h0⟩, rfl, by unfold maxLen; omega, fun h0 => by omega⟩
  · simp at hcs
    obtain ⟨rfl, rfl, rfl⟩ := hcs
    simp at hmm
    rw [show Try.prog.cellsOf 5 = 1 from (by kernel_rfl)] at hel
    have hev : ∀ i, i < len → ∃ p : Int, W.cell? ((a.add (i * 1)).add 0) = some (.int .u8 p) := by
      intro i hi
      obtain ⟨cs', hcs', htr⟩ := hel i (by omega)
      obtain ⟨b, rfl, _, _⟩ := DataW.trod_int Try.underlying5 htr
      obtain ⟨_, _, hcc⟩ := World.cells?_some hcs'
      exact ⟨b, by simpa using hcc 0 (by omega)⟩
    obtain ⟨f, hf⟩ := choose_lt hev
    have hsp : 0 < len → ∃ b off, a = ⟨b, off, none⟩ ∧ b < W.heap.size := by
      intro h0
      have hc0 := hf 0 h0
      have hspot : a.spot = none := by
        have := World.cell?_spot hc0
        simpa [Addr.add] using this
      obtain ⟨b, off, spot⟩ := a
      simp at hspot
      subst hspot
      exact ⟨b, off, rfl, by simpa [Addr.add] using World.block_lt_of_cell? W _ hc0⟩
    refine ⟨(List.range len).map f, ⟨⟨_, _, by simp; exact ⟨rfl, rfl⟩⟩, fun h0 => ?_⟩, by simp, Nat.le_trans hl hm, fun h0 => ?_⟩
    · simp at h0
      obtain ⟨b, off, rfl, _⟩ := hsp h0
      refine ⟨b, off, cap, by simp, fun i p hp => ?_⟩
      have hi : i < len := by
        have := (List.getElem?_eq_some_iff.1 hp).1
        simpa using this
      have hpe : f i = p := by simpa [hi] using hp
      have q0 := hf i hi
      rw [hpe] at q0
      simpa [Addr.add_lit] using q0
    · obtain ⟨b, off, rfl, hb⟩ := hsp h0
      exact ⟨b, off, rfl, hb⟩

theorem i64_hi {x : Int} (h : (Lit.int .i64 x).wf = true) : x ≤ 9223372036854775807 := by
  have := bounds_i64 h
  omega

end Go.Proofs.Ytjmbcelkhiopeaa

namespace Go.Proofs.Ytjmbcelkhiopeaa
open Go.ChangeShapes Go.WideShapes Go.ChangeAt Go.RowKit Go.Deep

theorem Try.cells81 : Try.prog.cellsOf 81 = 6 := by kernel_rfl

theorem weightsAll_mem {H : Type} {P : Program} {e : TypeId} : ∀ {l : List (DataW H)} {d : DataW H}, d ∈ l → ∀ n ∈ d.weights P e, n ∈ DataW.weightsAll P e l
  | d0 :: r, d, hd, n, hn => by
    simp only [DataW.weightsAll, List.mem_append]
    rcases List.mem_cons.1 hd with rfl | hd
    · exact Or.inl hn
    · exact Or.inr (weightsAll_mem hd n hn)
  | [], _, hd, _, _ => by cases hd

section
variable {H : Type} {enc : TypeId × Value → H} {W : World} {fuel : Nat}

theorem slice_form {t e : TypeId} {c : Value} {x : DataW H × List MemPlace} (ht : Try.prog.underlying t = some (.slice e)) (hb : Try.prog.bytesOf e = 1) (h : DataW.trod enc Try.prog W 0 (fun _ => true) true fuel t [c] = some x) (hw : ∀ n ∈ x.1.weights Try.prog t, n ≤ reachBytes) :
    ∃ a0 len cap, c = .slice a0 len cap ∧ len ≤ 140737488351232 := by
  rcases open_slice ht h with ⟨hcs, _⟩ | ⟨a, l, cp, m, n, D, Pl, hcs, _, hl, hm, hmm, hx, hel⟩
  · simp at hcs
    exact ⟨_, _, _, hcs, by omega⟩
  · simp at hcs
    refine ⟨_, _, _, hcs, ?_⟩
    have := hw _ (by rw [hx]; simp only [DataW.weights, ht]; exact List.mem_cons_self)
    rw [hb] at this
    simp [reachBytes] at this
    omega

set_option maxRecDepth 100000 in
theorem trod_struct6 {P : Program} {base : Nat} {spare : Nat → Bool} {held : Bool} {t : TypeId} {f0 f1 f2 f3 f4 f5 : Field} {cs : List Value} {x : DataW H × List MemPlace} (ht : P.underlying t = some (.struct #[f0, f1, f2, f3, f4, f5])) (h : DataW.trod enc P W base spare held fuel t cs = some x) :
    ∃ (y0 y1 y2 y3 y4 y5 : DataW H × List MemPlace) (n : Nat), x.1 = .agg [y0.1, y1.1, y2.1, y3.1, y4.1, y5.1] ∧ cs.length = P.cellsOf t ∧ DataW.trod enc P W base spare held n f0.type ((cs.drop f0.offset).take (P.cellsOf f0.type)) = some y0 ∧
      DataW.trod enc P W base spare held n f1.type ((cs.drop f1.offset).take (P.cellsOf f1.type)) = some y1 ∧ DataW.trod enc P W base spare held n f2.type ((cs.drop f2.offset).take (P.cellsOf f2.type)) = some y2 ∧
      DataW.trod enc P W base spare held n f3.type ((cs.drop f3.offset).take (P.cellsOf f3.type)) = some y3 ∧ DataW.trod enc P W base spare held n f4.type ((cs.drop f4.offset).take (P.cellsOf f4.type)) = some y4 ∧
      DataW.trod enc P W base spare held n f5.type ((cs.drop f5.offset).take (P.cellsOf f5.type)) = some y5 := by
  obtain ⟨xs, n, _, rfl, hl, hlen, hf⟩ := DataW.trod_struct ht h
  match xs, hlen with
  | [y0, y1, y2, y3, y4, y5], _ => exact ⟨y0, y1, y2, y3, y4, y5, n, by simp, hl, by simpa using hf 0 f0 rfl, by simpa using hf 1 f1 rfl, by simpa using hf 2 f2 rfl, by simpa using hf 3 f3 rfl, by simpa using hf 4 f4 rfl, by simpa using hf 5 f5 rfl⟩

set_option maxRecDepth 100000 in
theorem op_of {cs : List Value} {x : DataW H × List MemPlace} (h : DataW.trod enc Try.prog W 0 (fun _ => true) true fuel 81 cs = some x) (hw : ∀ n ∈ x.1.weights Try.prog 81, n ≤ reachBytes) :
    ∃ o : OpA, cs = [.int .i64 o.who, .int .i64 o.kind, .int .i64 o.a, .int .i64 o.b, o.bv, o.kv] ∧ OpAt W W.heap.size o ∧ o.a ≤ 9223372036854775807 := by
  obtain ⟨y0, y1, y2, y3, y4, y5, n, hx, hl, h0, h1, h2, h3, h4, h5⟩ := trod_struct6 Try.underlying81 h
  rw [Try.cells81] at hl
  match cs, hl with
  | [c0, c1, c2, c3, c4, c5], _ =>
    have e3 : Try.prog.cellsOf 3 = 1 := by kernel_rfl
    have e32 : Try.prog.cellsOf 32 = 1 := by kernel_rfl
    have e51 : Try.prog.cellsOf 51 = 1 := by kernel_rfl
    rw [show Try.prog.cellsOf _ = 1 from e3] at h0 h1 h2 h3
    rw [show Try.prog.cellsOf _ = 1 from e32] at h4
    rw [show Try.prog.cellsOf _ = 1 from e51] at h5
    obtain ⟨x0, e0, _, _⟩ := DataW.trod_int Try.underlying3 h0
    obtain ⟨x1, e1, _, _⟩ := DataW.trod_int Try.underlying3 h1
    obtain ⟨x2, e2, _, w2⟩ := DataW.trod_int Try.underlying3 h2
    obtain ⟨x3, e3, _, _⟩ := DataW.trod_int Try.underlying3 h3
    simp at e0 e1 e2 e3
    have hw4 : ∀ n ∈ y4.1.weights Try.prog 32, n ≤ reachBytes := fun n hn => hw n (by
      rw [hx]; simp only [DataW.weights, Try.underlying81]
      exact DataW.weights_mem_each (j := 4) (t := 32) rfl rfl n hn)
    have hw5 : ∀ n ∈ y5.1.weights Try.prog 51, n ≤ reachBytes := fun n hn => hw n (by
      rw [hx]; simp only [DataW.weights, Try.underlying81]
      exact DataW.weights_mem_each (j := 5) (t := 51) rfl rfl n hn)
    simp at h4 h5
    obtain ⟨a4, l4, p4, rfl, b4⟩ := slice_form Try.underlying32 (by kernel_rfl) h4 hw4
    obtain ⟨a5, l5, p5, rfl, b5⟩ := slice_form Try.underlying51 (by kernel_rfl) h5 hw5
    obtain ⟨l, hr, hll, _, hsp⟩ := bytes_of h4
    obtain ⟨ks, hks, hkl, _⟩ := bools_of h5
    refine ⟨⟨x0, x1, x2, x3, .slice a4 l4 p4, .slice a5 l5 p5, l, ks⟩, by rw [e0, e1, e2, e3], ⟨hr, ?_, hks, ?_, by show l.length ≤ _; omega, by show ks.length ≤ _; omega⟩, i64_hi w2⟩
    · intro b off n c e h0
      simp only at e h0
      obtain ⟨b', off', rfl, hb⟩ := hsp (by omega)
      simp at e
      obtain ⟨⟨rfl, rfl⟩, _, _⟩ := e
      exact hb
    · intro b off n c e h0
      simp only at e h0
      obtain ⟨b', off', c', e', hb, _⟩ := hks.cells h0
      rw [e] at e'
      simp at e'
      obtain ⟨⟨rfl, rfl⟩, _, _⟩ := e'
      exact hb

set_option maxRecDepth 100000 in
theorem script_of {a0 : Option Addr} {len cap : Nat} {x : DataW H × List MemPlace} (h : DataW.trod enc Try.prog W 0 (fun _ => true) true fuel 67 [.slice a0 len cap] = some x) (hw : ∀ n ∈ x.1.weights Try.prog 67, n ≤ reachBytes) :
    ∃ ops : List OpA, Script W (.slice a0 len cap) ops ∧ ops.length = len := by
  rcases open_slice Try.underlying67 h with ⟨hcs, _⟩ | ⟨a, l, c, m, n, D, Pl, hcs, _, hl, hm, hmm, hx, hel⟩
  · simp at hcs
    obtain ⟨rfl, rfl, rfl⟩ := hcs
    exact ⟨[], ⟨⟨_, _, rfl⟩, fun h0 => by simp at h0, fun _ h => by cases h⟩, rfl⟩
  · simp at hcs
    obtain ⟨rfl, rfl, rfl⟩ := hcs
    simp at hmm
    rw [Try.cells81] at hel
    have hev : ∀ i, i < len → ∃ o : OpA, (W.cell? ((a.add (i * 6)).add 0) = some (.int .i64 o.who) ∧ W.cell? ((a.add (i * 6)).add 1) = some (.int .i64 o.kind) ∧ W.cell? ((a.add (i * 6)).add 2) = some (.int .i64 o.a) ∧ W.cell? ((a.add (i * 6)).add 3) = some (.int .i64 o.b) ∧ W.cell? ((a.add (i * 6)).add 4) = some o.bv ∧ W.cell? ((a.add (i * 6)).add 5) = some o.kv) ∧ OpAt W W.heap.size o ∧ o.a ≤ 9223372036854775807 := by
      intro i hi
      obtain ⟨cs', hcs', htr⟩ := hel i (by omega)
      obtain ⟨o, rfl, ho⟩ := op_of htr (fun k hk => hw k (by
        rw [hx]; simp only [DataW.weights, Try.underlying67]
        refine List.mem_cons_of_mem _ (List.mem_append_left _ (weightsAll_mem (d := D i) ?_ k hk))
        exact List.mem_map.2 ⟨i, List.mem_range.2 hi, rfl⟩))
      obtain ⟨_, _, hcc⟩ := World.cells?_some hcs'
      exact ⟨o, ⟨by simpa using hcc 0 (by omega), by simpa using hcc 1 (by omega), by simpa using hcc 2 (by omega), by simpa using hcc 3 (by omega), by simpa using hcc 4 (by omega), by simpa using hcc 5 (by omega)⟩, ho⟩
    obtain ⟨f, hf⟩ := @choose_lt _ ⟨(⟨0, 0, 0, 0, .slice none 0 0, .slice none 0 0, [], []⟩ : OpA)⟩ _ _ hev
    refine ⟨(List.range len).map f, ⟨⟨_, _, by simp; exact ⟨rfl, rfl⟩⟩, fun h0 => ?_, fun o ho => ?_⟩, by simp⟩
    · simp at h0
      have hc0 := (hf 0 h0).1.1
      have hspot : a.spot = none := by
        have := World.cell?_spot hc0
        simpa [Addr.add] using this
      obtain ⟨b, off, spot⟩ := a
      simp at hspot
      subst hspot
      refine ⟨b, off, cap, by simp, ?_, fun i p hp => ?_⟩
      · have := World.block_lt_of_cell? W _ hc0
        simpa [Addr.add] using this
      · have hi : i < len := by
          have := (List.getElem?_eq_some_iff.1 hp).1
          simpa using this
        have hpe : f i = p := by simpa [hi] using hp
        obtain ⟨⟨q0, q1, q2, q3, q4, q5⟩, _⟩ := hf i hi
        rw [hpe] at q0 q1 q2 q3 q4 q5
        simp only [Addr.add_lit] at q0 q1 q2 q3 q4 q5
        exact ⟨q0, q1, q2, q3, q4, q5⟩
    · obtain ⟨i, hi, rfl⟩ := List.mem_map.1 ho
      exact (hf i (List.mem_range.1 hi)).2

end
end Go.Proofs.Ytjmbcelkhiopeaa

namespace Go.Proofs.Ytjmbcelkhiopeaa
open Go.ChangeShapes Go.WideShapes Go.ChangeAt Go.RowKit Go.Deep

theorem bulk_one {H : Type} (d : DataW H) : 1 ≤ Rows.uptoBulk d := by
  cases d with
  | lit l => cases l <;> simp [Rows.uptoBulk]
  | nil => simp [Rows.uptoBulk]
  | ptr d => simp [Rows.uptoBulk]
  | slice elems spare => simp [Rows.uptoBulk]
  | agg parts => simp [Rows.uptoBulk]
  | iface t d => simp [Rows.uptoBulk]
  | map entries => simp [Rows.uptoBulk]
  | held h => simp [Rows.uptoBulk]

theorem bulk_seven {H : Type} : ∀ l : List (DataW H), (∀ d ∈ l, 7 ≤ Rows.uptoBulk d) → 7 * l.length ≤ Rows.uptoBulkAll l
  | [], _ => by simp [Rows.uptoBulkAll]
  | d :: r, h => by
    have h1 := h d List.mem_cons_self
    have h2 := bulk_seven r (fun x hx => h x (List.mem_cons_of_mem _ hx))
    simp only [Rows.uptoBulkAll, List.length_cons]
    omega

set_option maxRecDepth 100000 in
/-- So many steps at the most. -/
theorem script_short {H : Type} {enc : TypeId × Value → H} {W : World} {fuel : Nat} {a0 : Option Addr} {len cap : Nat} {x : DataW H × List MemPlace} (h : DataW.trod enc Try.prog W 0 (fun _ => true) true fuel 67 [.slice a0 len cap] = some x) (hb : Rows.uptoBulk x.1 ≤ 1048576) : len ≤ 149796 := by
  rcases open_slice Try.underlying67 h with ⟨hcs, _⟩ | ⟨a, l, c, m, n, D, Pl, hcs, _, hl, hm, hmm, hx, hel⟩
  · simp at hcs
    omega
  · simp at hcs
    obtain ⟨rfl, rfl, rfl⟩ := hcs
    simp at hmm
    have h7 : ∀ d ∈ (List.range len).map D, 7 ≤ Rows.uptoBulk d := by
      intro d hd
      obtain ⟨i, hi, rfl⟩ := List.mem_map.1 hd
      obtain ⟨cs', hcs', htr⟩ := hel i (by have := List.mem_range.1 hi; omega)
      obtain ⟨y0, y1, y2, y3, y4, y5, n', hx', -⟩ := trod_struct6 Try.underlying81 htr
      simp only at hx'
      rw [hx']
      have b0 := bulk_one y0.1
      have b1 := bulk_one y1.1
      have b2 := bulk_one y2.1
      have b3 := bulk_one y3.1
      have b4 := bulk_one y4.1
      have b5 := bulk_one y5.1
      simp only [Rows.uptoBulk, Rows.uptoBulkAll]
      omega
    have h1 := bulk_seven _ h7
    rw [hx] at hb
    simp only [Rows.uptoBulk] at hb
    simp at h1
    omega

set_option maxRecDepth 100000 in
theorem diskListsLifted (os : Os) (started : os.Started) (H : Type) (enc : TypeId × Value → H) (F : Stop.Interp) :
    ReturnsInHanded {} Try.checked os 8 .any ((Rows.OpenSpec.upto Rows.diskListsSpec).pre6 enc Try.prog Try.f8 Rows.diskListsUptoRow.domain false) (((Rows.OpenSpec.upto Rows.diskListsSpec).at F).post enc Try.prog Try.f8 false true false false) := by
  refine returnsInHanded_of_cond_sized (C := Try.checked) (s := Rows.OpenSpec.upto Rows.diskListsSpec) (k := Rows.uptoSmall) rfl own started (by kernel_rfl) Try.func8
    (OpenSpec.witness (enc := enc) (C := Try.checked) (s := Rows.OpenSpec.upto Rows.diskListsSpec) (k := Rows.uptoSmall) rfl false ⟨#[], #[.slice none 0 0], []⟩ 8 (by kernel_rfl) (by kernel_rfl) (by kernel_rfl)
      (x := ([.nil], [], [])) (by kernel_rfl) rfl (by kernel_rfl)) ?_
  intro W base args ds gs before hval0 hW hcnd hk0 hsz0 _
  have hval : ∀ (j : Nat) t v, Try.f8.params[j]? = some t → args[j]? = some v → Value.okWide Try.prog W .any base t v := hval0
  have hsz : (DataW.weightsEach Try.prog (Try.f8.params.toList ++ Rows.diskListsSpec.plain.varTypes Try.prog) (ds ++ gs)).all (· ≤ reachBytes) = true := hsz0
  have hW' := hW
  obtain ⟨p, q, hA0, hV, rfl, hfz, hnd⟩ := hW
  have hA : DataW.TrodAll enc Try.prog W 0 (fun _ => true) true Try.f8.params.toList args.toList ds p := hA0
  rw [Try.params8] at hA hval hsz
  obtain ⟨v0, vs0, d0, ds0, p0, q0, hargs, rfl, rfl, h0, r0⟩ := trodAll_cons hA
  obtain ⟨rfl, rfl, rfl⟩ := trodAll_nil r0
  obtain rfl : args = #[v0] := by cases args; simp_all
  obtain ⟨rfl, rfl⟩ := trodVars_none hV
  obtain ⟨o0, l0, c0, rfl⟩ := okWide_slice Try.underlying67 (hval 0 67 v0 rfl rfl)
  have k0 := h0
  have lt0 : ∀ x ∈ p0, x.block < W.heap.size := by obtain ⟨m, hm⟩ := k0; exact DataW.trod_lt m _ _ _ hm
  have hwt : ∀ n ∈ d0.weights Try.prog 67, n ≤ reachBytes := fun n hn => by
    have := List.all_eq_true.1 hsz n (DataW.weights_mem_each (j := 0) (t := 67) rfl rfl n hn)
    simpa using this
  have hbk : Rows.uptoBulk d0 ≤ 1048576 := by
    have h : Rows.uptoBulkAll ([d0] ++ []) ≤ 1048576 := of_decide_eq_true hk0
    simp only [List.append_nil, Rows.uptoBulkAll] at h
    omega
  obtain ⟨x0, hx0, hl0, hs0⟩ : ∃ ops : List OpA, Script W (.slice o0 l0 c0) ops ∧ ops.length = l0 ∧ l0 ≤ 149796 := by
    obtain ⟨fuel, hf⟩ := h0
    obtain ⟨ops, h1, h2⟩ := script_of hf hwt
    exact ⟨ops, h1, h2, script_short hf hbk⟩
  clear hA0 hval0 hsz0 hk0
  refine (diskLists_walk W o0 l0 c0 x0 hx0 hl0 hs0).mono fun e W' ⟨he, bel⟩ => ?_
  subst he
  exact ⟨_, rfl, _, _, _, [], _, [], hW', trodAll_mk1 (shut_bool Try.underlying4 _), (trodAll_cons_mk (Below.trod laidOut (by kernel_rfl) (of_decide_eq_true (by kernel_rfl)) k0 bel lt0) trodAll_mk0), rfl, bel.frame _, fun h => by cases h⟩

theorem diskLists_upto : Rows.DiskListsUptoSaid :=
  OpenClaim.holds_of_cond 8 Try.f8 rfl rfl rfl rfl rfl rfl rfl ⟨rfl, rfl, rfl, rfl, rfl⟩ rfl rfl rfl rfl rfl (by kernel_rfl) Try.func8 (by kernel_rfl)
    (of_decide_eq_true (by kernel_rfl)) (by unfold Func.isWrapper; first | (rw [if_pos (by decide +kernel)]; kernel_rfl) | (rw [if_neg (by decide +kernel)]; exact ⟨rfl, rfl⟩))
    (fun os started H enc _ F => diskListsLifted os started H enc F)
end Go.Proofs.Ytjmbcelkhiopeaa
