import Derived.Test.YtbdlcaamanhapaaGreatDoorJzbc
namespace Go.Proofs.YtbdlcaamanhapaaGreatDoor
open Go.RowKit Go.Maps
def PP (b1 b2 b4 g29 g30 : Nat) (u : Value) (b : Nat) : Prop := b = b1 ∨ b = b2 ∨ b = b4 ∨ b = g29 ∨ b = g30 ∨ fullBlock u = some b
theorem typ_ne {w : World} {b : Nat} {c c' : Array Value} {e t : TypeId} (h : w.heap[b]? = some (.cells c e (0, 0))) (h' : w.heap[b]? = some (.cells c' t (0, 0))) : e = t := by
 rw [h] at h'
 simp only [Option.some.injEq, Obj.cells.injEq] at h'
 exact h'.2.1
theorem St.start {w3 x y : World} {L : List Rowp} {b1 b2 b4 g29 g30 : Nat} {u : Value} {l : List ValA} {c1 c2 c4 : Array Value} (hs : Sk w3 x L) (hy : By x L u l) (hk : Wp (fun _ => False) x y) (hkind : ∀ p ∈ L, p.e ≠ 38)
  (h1 : x.heap[b1]? = some (.cells c1 38 (0, 0))) (h2 : x.heap[b2]? = some (.cells c2 38 (0, 0))) (h4 : x.heap[b4]? = some (.cells c4 38 (0, 0)))
  (n29 : x.heap.size ≤ g29) (n30 : x.heap.size ≤ g30) (l29 : g29 < y.heap.size) (l30 : g30 < y.heap.size) : St w3 y y L (PP b1 b2 b4 g29 g30 u) := by
 refine ⟨hs.keepF hk, fun p hp b hb hP => ?_, Wp.refl _ _, fun b hP => ?_⟩
 ·obtain ⟨c, hc⟩ := (hs.at_ hp).typed hb
  have hl := ((hs.at_ hp).lt hb).2
  rcases hP with rfl | rfl | rfl | rfl | rfl | hP
  ·exact hkind p hp (typ_ne hc h1)
  ·exact hkind p hp (typ_ne hc h2)
  ·exact hkind p hp (typ_ne hc h4)
  ·omega
  ·omega
  ·exact hy.off p hp b hb hP
 ·have hz := hk.size
  rcases hP with rfl | rfl | rfl | rfl | rfl | hP
  ·exact Nat.lt_of_lt_of_le (zE h1) hz
  ·exact Nat.lt_of_lt_of_le (zE h2) hz
  ·exact Nat.lt_of_lt_of_le (zE h4) hz
  ·exact l29
  ·exact l30
  ·exact Nat.lt_of_lt_of_le (vals_full hy.vals hP).1 hz
theorem St.perm {w3 w0 wx : World} {L M : List Rowp} {P : Nat → Prop} (h : St w3 w0 wx L P) (hp : L.Perm M) : St w3 w0 wx M P :=
 ⟨h.sk.perm hp, fun p hm => h.off p (hp.mem_iff.2 hm), h.kp, h.lt⟩
theorem markRows_done {K : Kind} {X : K.α} {l : List K.α} {v mv : Value} {L : List Rowp} {i : Nat} : markRows K X l v mv L i l.length = solo K.e K.z l.length mv (K.C (List.replicate l.length X)) :: L.set i (solo K.e K.z l.length v (K.C (List.replicate l.length X))) := by
 unfold markRows
 rw [overL_end]
theorem St.markDone {K : Kind} {w3 w0 wx : World} {X : K.α} {l : List K.α} {v mv : Value} {L : List Rowp} {i : Nat} {P : Nat → Prop} (h : St w3 w0 wx (markRows K X l v mv L i l.length) P) :
  St w3 w0 wx (solo K.e K.z l.length mv (K.C (List.replicate l.length X)) :: L.set i (solo K.e K.z l.length v (K.C (List.replicate l.length X)))) P := by
 rw [← markRows_done]
 exact h
section
variable {w3 w0 wx : World} {P : Nat → Prop} {q6 q5 q4 p3 p1 r6 : Rowp} {T : List Rowp}
theorem St.turn4 {a b c d : Rowp} {M T : List Rowp} (h : St w3 w0 wx (a :: b :: (M ++ (c :: d :: T))) P) : St w3 w0 wx (a :: b :: c :: d :: (M ++ T)) P :=
 h.perm (List.Perm.cons a (List.Perm.cons b (List.perm_append_comm_assoc M [c, d] T)))
end
def itemsR (n m : Nat) (X : ValA) (Z : Int × Txt) (u1 u3 v31 v33 v35 v36 v37 v38 : Value) (q6 q5 q4 : Rowp) : List Rowp :=
 [solo 53 2 (m + 64) v38 (sC (List.replicate (m + 64) Z)), solo 51 3 (n + 64) v36 (vcs (List.replicate (n + 64) X)), ⟨53, 2, m, u3, sC (List.replicate m Z), 64, v37, sC (List.replicate 64 Z)⟩, ⟨51, 3, n, u1, vcs (List.replicate n X), 64, v35, vcs (List.replicate 64 X)⟩,
  solo 53 2 m v33 (sC (List.replicate m Z)), solo 51 3 n v31 (vcs (List.replicate n X)), q6, q5, q4]
section
variable {n m : Nat} {X : ValA} {Z : Int × Txt} {u1 u3 v31 v33 v35 v36 v37 v38 : Value} {q6 q5 q4 : Rowp} {its : List Rowp}
theorem items_V1 (hn : n ≤ 8) : SameZ kV (itemsR n m X Z u1 u3 v31 v33 v35 v36 v37 v38 q6 q5 q4 ++ its) u1 v31 := by
 have e1 : (List.replicate n X : List ValA).length = n := List.length_replicate
 refine ⟨(List.replicate n X : List ValA), Nat.le_trans (Nat.le_of_eq e1) (by omega), ⟨⟨51, 3, n, u1, vcs (List.replicate n X), 64, v35, vcs (List.replicate 64 X)⟩, List.mem_append_left _ (by simp [itemsR]), rfl, rfl, Or.inl ⟨rfl, e1.symm, rfl⟩⟩,
  ⟨solo 51 3 n v31 (vcs (List.replicate n X)), List.mem_append_left _ (by simp [itemsR]), rfl, rfl, Or.inl ⟨rfl, e1.symm, rfl⟩⟩⟩
theorem items_V2 (hn : n ≤ 8) : SameZ kV (itemsR n m X Z u1 u3 v31 v33 v35 v36 v37 v38 q6 q5 q4 ++ its) v35 v36 := by
 have e1 : (List.replicate (n + 64) X : List ValA).length = n + 64 := List.length_replicate
 have e2 : vcs (List.replicate n X) ++ vcs (List.replicate 64 X) = vcs (List.replicate (n + 64) X) := by rw [← vcs_app, List.replicate_append_replicate]
 refine ⟨(List.replicate (n + 64) X : List ValA), Nat.le_trans (Nat.le_of_eq e1) (by omega), ⟨⟨51, 3, n, u1, vcs (List.replicate n X), 64, v35, vcs (List.replicate 64 X)⟩, List.mem_append_left _ (by simp [itemsR]), rfl, rfl, Or.inr ⟨rfl, e1.symm, e2⟩⟩,
  ⟨solo 51 3 (n + 64) v36 (vcs (List.replicate (n + 64) X)), List.mem_append_left _ (by simp [itemsR]), rfl, rfl, Or.inl ⟨rfl, e1.symm, rfl⟩⟩⟩
theorem items_S1 (hm : m ≤ 1024) : SameZ kS (itemsR n m X Z u1 u3 v31 v33 v35 v36 v37 v38 q6 q5 q4 ++ its) u3 v33 := by
 have e1 : (List.replicate m Z : List (Int × Txt)).length = m := List.length_replicate
 refine ⟨(List.replicate m Z : List (Int × Txt)), Nat.le_trans (Nat.le_of_eq e1) (by omega), ⟨⟨53, 2, m, u3, sC (List.replicate m Z), 64, v37, sC (List.replicate 64 Z)⟩, List.mem_append_left _ (by simp [itemsR]), rfl, rfl, Or.inl ⟨rfl, e1.symm, rfl⟩⟩,
  ⟨solo 53 2 m v33 (sC (List.replicate m Z)), List.mem_append_left _ (by simp [itemsR]), rfl, rfl, Or.inl ⟨rfl, e1.symm, rfl⟩⟩⟩
theorem items_S2 (hm : m ≤ 1024) : SameZ kS (itemsR n m X Z u1 u3 v31 v33 v35 v36 v37 v38 q6 q5 q4 ++ its) v37 v38 := by
 have e1 : (List.replicate (m + 64) Z : List (Int × Txt)).length = m + 64 := List.length_replicate
 have e2 : sC (List.replicate m Z) ++ sC (List.replicate 64 Z) = sC (List.replicate (m + 64) Z) := by rw [← sC_app, List.replicate_append_replicate]
 refine ⟨(List.replicate (m + 64) Z : List (Int × Txt)), Nat.le_trans (Nat.le_of_eq e1) (by omega), ⟨⟨53, 2, m, u3, sC (List.replicate m Z), 64, v37, sC (List.replicate 64 Z)⟩, List.mem_append_left _ (by simp [itemsR]), rfl, rfl, Or.inr ⟨rfl, e1.symm, e2⟩⟩,
  ⟨solo 53 2 (m + 64) v38 (sC (List.replicate (m + 64) Z)), List.mem_append_left _ (by simp [itemsR]), rfl, rfl, Or.inl ⟨rfl, e1.symm, rfl⟩⟩⟩
theorem items_kind (hq : q6.e ≠ 38 ∧ q5.e ≠ 38 ∧ q4.e ≠ 38) (hi : ∀ p ∈ its, p.e ≠ 38) : ∀ p ∈ itemsR n m X Z u1 u3 v31 v33 v35 v36 v37 v38 q6 q5 q4 ++ its, p.e ≠ 38 := by
 intro p hp
 rcases List.mem_append.1 hp with hp | hp
 ·unfold itemsR at hp
  simp only [List.mem_cons, List.not_mem_nil, or_false] at hp
  rcases hp with rfl | rfl | rfl | rfl | rfl | rfl | rfl | rfl | rfl
  ·exact (show (53 : Nat) ≠ 38 by decide)
  ·exact (show (51 : Nat) ≠ 38 by decide)
  ·exact (show (53 : Nat) ≠ 38 by decide)
  ·exact (show (51 : Nat) ≠ 38 by decide)
  ·exact (show (53 : Nat) ≠ 38 by decide)
  ·exact (show (51 : Nat) ≠ 38 by decide)
  ·exact hq.1
  ·exact hq.2.1
  ·exact hq.2.2
 ·exact hi p hp
theorem pairs_next {K : Kind} {its its' : List Rowp} {hs gs : List Value} {x y x' y' : Value} (h : PairsZ K its hs gs) (hm : ∀ p ∈ its, p ∈ its') (h1 : SameZ K its' x y) (h2 : SameZ K its' x' y') : PairsZ K its' (hs ++ [x, x']) (gs ++ [y, y']) := by
 have := (h.mono hm).snoc2 h1 h2
 simpa using this
end
end Go.Proofs.YtbdlcaamanhapaaGreatDoor
