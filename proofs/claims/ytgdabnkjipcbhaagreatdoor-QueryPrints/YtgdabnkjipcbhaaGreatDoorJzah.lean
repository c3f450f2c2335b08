import Derived.Test.YtgdabnkjipcbhaaGreatDoorJzag
import Derived.Test.YtgdabnkjipcbhaaGreatDoorJzaa
namespace Go.Proofs.YtgdabnkjipcbhaaGreatDoor
open Go.ChangeShapes Go.WideShapes Go.ChangeAt Go.RowKit Go.Deep

section
variable {H : Type} {enc : TypeId × Value → H} {W : World}
set_option maxRecDepth 100000 in
/-- What is read of a query. -/
theorem query_readI {fuel : Nat} {cs : List Value} {x : DataW H × List MemPlace} (h : DataW.trod enc Tryz.prog W 0 (fun _ => true) true fuel 24 cs = some x) :
    ∃ (wv ov bv : Value) (k l : Int) (d : Bool) (m : Nat) (y0 y2 y3 : DataW H × List MemPlace), (-9223372036854775808 ≤ l ∧ l ≤ 9223372036854775807) ∧ cs = [wv, .int .i64 k, ov, bv, .bool d, .int .i64 l] ∧ DataW.trod enc Tryz.prog W 0 (fun _ => true) true m 22 [wv] = some y0 ∧ DataW.trod enc Tryz.prog W 0 (fun _ => true) true m 22 [ov] = some y2 ∧ DataW.trod enc Tryz.prog W 0 (fun _ => true) true m 22 [bv] = some y3 := by
  obtain ⟨xs, m, _, _, hl, hlen, hf⟩ := DataW.trod_struct Tryz.underlying24 h
  have hl' : cs.length = 6 := hl.trans Tryz.cells24
  match xs, hlen, cs, hl' with
  | [y0, y1, y2, y3, y4, y5], _, [c0, c1, c2, c3, c4, c5], _ =>
    have h0 : DataW.trod enc Tryz.prog W 0 (fun _ => true) true m 22 (([c0, c1, c2, c3, c4, c5].drop 0).take (Tryz.prog.cellsOf 22)) = some y0 := hf 0 _ rfl
    have h1 : DataW.trod enc Tryz.prog W 0 (fun _ => true) true m 3 (([c0, c1, c2, c3, c4, c5].drop 1).take (Tryz.prog.cellsOf 3)) = some y1 := hf 1 _ rfl
    have h2 : DataW.trod enc Tryz.prog W 0 (fun _ => true) true m 22 (([c0, c1, c2, c3, c4, c5].drop 2).take (Tryz.prog.cellsOf 22)) = some y2 := hf 2 _ rfl
    have h3 : DataW.trod enc Tryz.prog W 0 (fun _ => true) true m 22 (([c0, c1, c2, c3, c4, c5].drop 3).take (Tryz.prog.cellsOf 22)) = some y3 := hf 3 _ rfl
    have h4 : DataW.trod enc Tryz.prog W 0 (fun _ => true) true m 4 (([c0, c1, c2, c3, c4, c5].drop 4).take (Tryz.prog.cellsOf 4)) = some y4 := hf 4 _ rfl
    have h5 : DataW.trod enc Tryz.prog W 0 (fun _ => true) true m 3 (([c0, c1, c2, c3, c4, c5].drop 5).take (Tryz.prog.cellsOf 3)) = some y5 := hf 5 _ rfl
    rw [e23] at h0 h2 h3
    rw [e3] at h1 h5
    rw [e4] at h4
    simp only [List.drop_zero, List.take_succ_cons, List.take_zero, List.drop_succ_cons] at h0 h1 h2 h3 h4 h5
    obtain ⟨k, q1, _, _⟩ := DataW.trod_int Tryz.underlying3 h1
    obtain ⟨d, q4, _⟩ := DataW.trod_bool Tryz.underlying4 h4
    obtain ⟨l, q5, _, w5⟩ := DataW.trod_int Tryz.underlying3 h5
    simp at q1 q4 q5
    exact ⟨c0, c2, c3, k, l, d, m, y0, y2, y3, i64_hi w5, by rw [q1, q4, q5], h0, h2, h3⟩
end
end Go.Proofs.YtgdabnkjipcbhaaGreatDoor
namespace Go.Proofs.YtgdabnkjipcbhaaGreatDoor
open Go.RowKit Go.Maps

/-- In these blocks alone. -/
def inZ (A : Nat → Prop) : Zone := ⟨fun _ _ k => A k, fun _ _ => True, fun _ _ h => h⟩
theorem ExIn.inKeep {A : Nat → Prop} {F : Nat → Prop} {w w' : World} {l : EL} {b o : Nat} (h : ExIn (inZ A) w l b o) (hk : Keeps F w w') (hF : ∀ k, k < w.heap.size → A k → ¬ F k) : ExIn (inZ A) w' l b o :=
  ExIn.keep (Q := fun _ => True) (fun _ _ _ _ => trivial) hk (fun _ k _ hl hg => ⟨hF k hl hg, hg⟩) trivial h
theorem SlE.inKeep {A : Nat → Prop} {F : Nat → Prop} {w w' : World} {up : Nat} {v : Value} {l : EL} (h : SlE (inZ A) w up v l) (hk : Keeps F w w') (hF : ∀ k, k < w.heap.size → A k → ¬ F k) : SlE (inZ A) w' up v l :=
  SlE.keep (Q := fun _ => True) (fun _ _ _ _ => trivial) hk (fun _ k _ hl hg => ⟨hF k hl hg, hg⟩) trivial h
/-- Blocks below a place. -/
def belZ (B : Nat) : Zone := inZ (fun k => k < B)
theorem ExIn.bel {Z : Zone} {w : World} {B : Nat} (hB : w.heap.size ≤ B) : ∀ {l : EL} {b o : Nat}, ExIn Z w l b o → ExIn (belZ B) w l b o
  | .nil, _, _, _ => trivial
  | .cons op n s kids rest, b, o, ⟨h1, h2, h3, h4, h5, ⟨ao, cap, h6, h7, h8⟩, h9⟩ =>
    ⟨h1, Nat.lt_of_lt_of_le h1 hB, h3, h4, h5, ⟨ao, cap, h6, h7, fun h0 => by
      obtain ⟨b', o', e, _, hr⟩ := h8 h0
      exact ⟨b', o', e, trivial, hr.bel hB⟩⟩, h9.bel hB⟩
theorem SlE.bel {Z : Zone} {w : World} {B up up' : Nat} {v : Value} {l : EL} (h : SlE Z w up v l) (hB : w.heap.size ≤ B) : SlE (belZ B) w up' v l := by
  obtain ⟨ao, cap, e, hc, hr⟩ := h
  refine ⟨ao, cap, e, hc, fun h0 => ?_⟩
  obtain ⟨b, o, e1, _, hx⟩ := hr h0
  exact ⟨b, o, e1, trivial, hx.bel hB⟩
theorem ExIn.belMono {B B' : Nat} {w : World} (hB : B ≤ B') : ∀ {l : EL} {b o : Nat}, ExIn (belZ B) w l b o → ExIn (belZ B') w l b o
  | .nil, _, _, _ => trivial
  | .cons op n s kids rest, b, o, ⟨h1, h2, h3, h4, h5, ⟨ao, cap, h6, h7, h8⟩, h9⟩ =>
    ⟨h1, Nat.lt_of_lt_of_le h2 hB, h3, h4, h5, ⟨ao, cap, h6, h7, fun h0 => by
      obtain ⟨b', o', e, _, hr⟩ := h8 h0
      exact ⟨b', o', e, trivial, hr.belMono hB⟩⟩, h9.belMono hB⟩
theorem SlE.bel' {B B' : Nat} {w : World} {up up' : Nat} {v : Value} {l : EL} (h : SlE (belZ B) w up v l) (hB : B ≤ B') : SlE (belZ B') w up' v l := by
  obtain ⟨ao, cap, e, hc, hr⟩ := h
  refine ⟨ao, cap, e, hc, fun h0 => ?_⟩
  obtain ⟨b, o, e1, _, hx⟩ := hr h0
  exact ⟨b, o, e1, trivial, hx.belMono hB⟩
/-- New blocks, and then whatever leaves the old ones. -/
theorem Keeps.trans_of {a b c : World} (h : Keeps (fun _ => False) a b) (k : Below a.heap.size b c) : Keeps (fun _ => False) a c :=
  ⟨k.os.trans h.os, k.tape.trans h.tape, k.output.trans h.output, Nat.le_trans h.size k.size, fun i hi _ => (k.block i hi).trans (h.block i hi id)⟩
end Go.Proofs.YtgdabnkjipcbhaaGreatDoor
