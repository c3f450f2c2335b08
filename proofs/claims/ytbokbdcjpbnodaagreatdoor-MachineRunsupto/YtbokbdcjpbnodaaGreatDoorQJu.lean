import Derived.Test.YtbokbdcjpbnodaaGreatDoorQJt
import Derived.Test.YtbokbdcjpbnodaaGreatDoorQXa
import Derived.Test.YtbokbdcjpbnodaaGreatDoorQJi
namespace Go.Proofs.YtbokbdcjpbnodaaGreatDoor
open Go.RowKit Go.Maps
theorem keeps_set4 (w : World) (b : Nat) (x y z u : Value) : Keeps (fun q => q = b) w ((((w.setCell ⟨b, 0, none⟩ x).setCell ⟨b, 1, none⟩ y).setCell ⟨b, 2, none⟩ z).setCell ⟨b, 3, none⟩ u) :=
 Keeps.setCell (F := fun q => q = b) (p := ⟨b, 3, none⟩) (Keeps.setCell (F := fun q => q = b) (p := ⟨b, 2, none⟩) (Keeps.setCell (F := fun q => q = b) (p := ⟨b, 1, none⟩) (Keeps.setCell (F := fun q => q = b) (p := ⟨b, 0, none⟩) (Keeps.refl (fun q => q = b) w) (fun _ => rfl) x) (fun _ => rfl) y) (fun _ => rfl) z) (fun _ => rfl) u
theorem set4c {w : World} {b : Nat} {c0 c1 c2 c3 : Value} {t : TypeId} (h : w.heap[b]? = some (.cells #[c0, c1, c2, c3] t (0, 0))) (x y z u : Value) :
  ((((w.setCell ⟨b, 0, none⟩ x).setCell ⟨b, 1, none⟩ y).setCell ⟨b, 2, none⟩ z).setCell ⟨b, 3, none⟩ u).cell? ⟨b, 0, none⟩ = some x ∧ ((((w.setCell ⟨b, 0, none⟩ x).setCell ⟨b, 1, none⟩ y).setCell ⟨b, 2, none⟩ z).setCell ⟨b, 3, none⟩ u).cell? ⟨b, 1, none⟩ = some y ∧ ((((w.setCell ⟨b, 0, none⟩ x).setCell ⟨b, 1, none⟩ y).setCell ⟨b, 2, none⟩ z).setCell ⟨b, 3, none⟩ u).cell? ⟨b, 2, none⟩ = some z ∧ ((((w.setCell ⟨b, 0, none⟩ x).setCell ⟨b, 1, none⟩ y).setCell ⟨b, 2, none⟩ z).setCell ⟨b, 3, none⟩ u).cell? ⟨b, 3, none⟩ = some u := by
 have hb := heap_setCell_at (o := 3) (heap_setCell_at (o := 2) (heap_setCell_at (o := 1) (heap_setCell_at (o := 0) h x) y) z) u
 refine ⟨?_, ?_, ?_, ?_⟩ <;> (rw [cell_of_blk hb]; rfl)
theorem dec_inR (t : Txt) (h : (decC t).2 = 0) : InR (decC t).1 := (enc_dec h).2
end Go.Proofs.YtbokbdcjpbnodaaGreatDoor
namespace Go.Proofs.YtbokbdcjpbnodaaGreatDoor
open Go.ChangeShapes Go.WideShapes Go.ChangeAt Go.RowKit Go.Deep
set_option maxRecDepth 100000
theorem eVals : Tryz.prog.cellsOf 26 = 1 := by kernel_rfl
theorem eVal : Tryz.prog.cellsOf 74 = 3 := by kernel_rfl
theorem bVal : Tryz.prog.bytesOf 74 = 32 := by kernel_rfl
section
variable {H : Type} {enc : TypeId × Value → H} {W : World}
theorem val_read (fuel : Nat) (cs : List Value) (x : DataW H × List MemPlace) (h : DataW.trod enc Tryz.prog W 0 (fun _ => true) true fuel 74 cs = some x) : ∃ f : ValA, cs = f.cs ∧ (-9223372036854775808 ≤ f.n ∧ f.n ≤ 9223372036854775807) := by
 obtain ⟨xs, m, hm, _, hl, hlen, hf⟩ := DataW.trod_struct Tryz.underlying74 h
 have hl' : cs.length = 3 := hl.trans eVal
 match xs, hlen, cs, hl' with
 | [y0, y1, y2], _, [c0, c1, c2], _ =>
  have h0 : DataW.trod enc Tryz.prog W 0 (fun _ => true) true m 3 (([c0, c1, c2].drop 0).take (Tryz.prog.cellsOf 3)) = some y0 := hf 0 _ rfl
  have h1 : DataW.trod enc Tryz.prog W 0 (fun _ => true) true m 2 (([c0, c1, c2].drop 1).take (Tryz.prog.cellsOf 2)) = some y1 := hf 1 _ rfl
  have h2 : DataW.trod enc Tryz.prog W 0 (fun _ => true) true m 9 (([c0, c1, c2].drop 2).take (Tryz.prog.cellsOf 9)) = some y2 := hf 2 _ rfl
  rw [e3] at h0
  rw [e2] at h1
  rw [e9] at h2
  simp only [List.drop_zero, List.take_succ_cons, List.take_zero, List.drop_succ_cons] at h0 h1 h2
  obtain ⟨k, q0, _, _⟩ := DataW.trod_int Tryz.underlying3 h0
  obtain ⟨i, q1, _, w1⟩ := DataW.trod_int Tryz.underlying2 h1
  obtain ⟨s, q2, _, _⟩ := DataW.trod_string Tryz.underlying9 h2
  simp at q0 q1 q2
  exact ⟨⟨k, i, s.data.toList⟩, by rw [q0, q1, q2, str_of]; rfl, i64_hi w1⟩
theorem lenV {fuel : Nat} {c : Value} {x : DataW H × List MemPlace} (h : DataW.trod enc Tryz.prog W 0 (fun _ => true) true fuel 26 [c] = some x) (hw : ∀ n ∈ x.1.weights Tryz.prog 26, n ≤ reachBytes) {n : Nat} {xs : List Value} (hr : RowAt W c n xs) : n ≤ 4398046511104 := by
 obtain ⟨ao, cp, hform⟩ := hr.form
 rcases DataW.trod_slice Tryz.underlying26 h with ⟨hcs, _⟩ | ⟨a, len, cap, elems, rest, n', hn, hcs, hxx, _, hlc, _, hel, _, _, _⟩
 ·simp at hcs
  rw [hcs] at hform
  simp at hform
  omega
 ·have := hw ((elems.length + rest.length) * 32) (by
   rw [hxx]
   simp only [DataW.weights, Tryz.underlying26, List.length_map, bVal]
   exact List.mem_cons_self ..)
  unfold reachBytes at this
  simp at hcs
  rw [hcs] at hform
  simp at hform
  omega
theorem vals_in {fuel : Nat} {c : Value} {x : DataW H × List MemPlace} (h : DataW.trod enc Tryz.prog W 0 (fun _ => true) true fuel 26 [c] = some x) (hw : ∀ n ∈ x.1.weights Tryz.prog 26, n ≤ reachBytes) : ∃ l : List ValA, ValsAt W c l ∧ InR l ∧ l.length ≤ 4398046511104 := by
 obtain ⟨l, hl, hq⟩ := rowsOf ValA.cs 3 (by omega) (fun _ => rfl) Tryz.underlying26 eVal val_read h
 exact ⟨l, hl, hq, lenV h hw hl⟩
end
end Go.Proofs.YtbokbdcjpbnodaaGreatDoor
