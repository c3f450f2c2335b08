import Derived.Test.YtcicaifioghciaaGreatDoorVx
namespace Go.Proofs.YtcicaifioghciaaGreatDoor
open Go.RowKit Go.Maps
theorem Tryz.info4 : (Tryz.prog.info? 4).map (fun i => (i.zero, i.size, i.bytes)) = some (some (.bool false), 1, 1) := by kernel_rfl
theorem Tryz.info9s : (Tryz.prog.info? 9).map (fun i => (i.zero, i.size, i.bytes)) = some (some (.string ⟨#[]⟩), 1, 16) := by kernel_rfl
def rowsP (hv : List (Bool × List Int)) : List (Bool × List Int) := if hv = [] then [(true, [])] else hv
theorem rowsP_of {hv : List (Bool × List Int)} (h : hv ≠ []) : rowsP hv = hv := if_neg h
/-- Two rows of one's own. -/
structure RowsAt (B : Nat) (w : World) (vr vh : Value) (N : Nat) (hv : List (Bool × List Int)) : Prop where
  len : hv.length = N
  bs : w.ownsRow B 4 1 vr N (rbs hv)
  ss : w.ownsRow B 9 1 vh N (rss hv)
theorem rows_start (w : World) : RowsAt w.heap.size ((w.alloc (.cells #[.bool true] 4)).alloc (.cells #[.string ⟨#[]⟩] 9)) (.slice (some ⟨w.heap.size, 0, none⟩) 1 1) (.slice (some ⟨w.heap.size + 1, 0, none⟩) 1 1) 1 (rowsP []) := by
  refine ⟨rfl, ?_, ?_⟩
  · exact (World.ownsRow_lit (base := w.heap.size) (e := 4) (size := 1) w #[.bool true] 1 (Nat.le_refl _) (by unfold maxLen; omega) rfl).alloc _
  · have := World.ownsRow_lit (base := w.heap.size) (e := 9) (size := 1) (w.alloc (.cells #[.bool true] 4)) #[.string ⟨#[]⟩] 1 (by simp) (by unfold maxLen; omega) rfl
    rw [World.size_alloc] at this
    exact this
theorem RowsAt.keepF {B : Nat} {w w' : World} {vr vh : Value} {N : Nat} {hv : List (Bool × List Int)} (h : RowsAt B w vr vh N hv) (hk : Keeps (fun _ => False) w w') : RowsAt B w' vr vh N hv :=
  ⟨h.len, ownsRow_kept h.bs hk (fun _ _ => id), ownsRow_kept h.ss hk (fun _ _ => id)⟩
theorem RowsAt.form {B : Nat} {w : World} {vr vh : Value} {N : Nat} {hv : List (Bool × List Int)} (h : RowsAt B w vr vh N hv) (hN : 0 < N) : ∃ g1 c1 g2 c2, vr = .slice (some ⟨g1, 0, none⟩) N c1 ∧ vh = .slice (some ⟨g2, 0, none⟩) N c2 := by
  obtain ⟨g1, c1, e1, _⟩ := (World.ownsRow.form h.bs hN)
  obtain ⟨g2, c2, e2, _⟩ := (World.ownsRow.form h.ss hN)
  exact ⟨g1, c1, g2, c2, e1, e2⟩
theorem RowsAt.lt {B : Nat} {w : World} {g1 c1 g2 c2 : Nat} {N : Nat} {hv : List (Bool × List Int)} (h : RowsAt B w (.slice (some ⟨g1, 0, none⟩) N c1) (.slice (some ⟨g2, 0, none⟩) N c2) N hv) : (B ≤ g1 ∧ g1 < w.heap.size) ∧ (B ≤ g2 ∧ g2 < w.heap.size) ∧ g1 ≠ g2 := by
  refine ⟨h.bs.lt g1 rfl, h.ss.lt g2 rfl, ?_⟩
  rcases h.bs.2 with ⟨h', _⟩ | ⟨g', cap', cur, h', _, hg, _⟩
  · simp at h'
  · simp only [Value.slice.injEq, Option.some.injEq, Addr.mk.injEq, and_true, true_and] at h'
    obtain ⟨rfl, rfl⟩ := h'
    intro e
    exact ownsRow_ne h.ss hg (by decide) (by rw [e]; rfl)
theorem RowsAt.cell {B : Nat} {w : World} {g1 c1 g2 c2 : Nat} {N : Nat} {hv : List (Bool × List Int)} (h : RowsAt B w (.slice (some ⟨g1, 0, none⟩) N c1) (.slice (some ⟨g2, 0, none⟩) N c2) N hv) {k : Nat} {z : Bool × List Int} (hz : hv[k]? = some z) :
    w.cell? ⟨g1, k, none⟩ = some (.bool z.1) ∧ w.cell? ⟨g2, k, none⟩ = some (str (z.2.map letR)) := by
  have hk : k < N * 1 := by rw [← h.len, Nat.mul_one]; exact (List.getElem?_eq_some_iff.1 hz).1
  exact ⟨(h.bs.cellAt k hk).trans (rbs_get hz), (h.ss.cellAt k hk).trans (rss_get hz)⟩
theorem RowsAt.frozen {B : Nat} {w : World} {g1 c1 g2 c2 : Nat} {N : Nat} {hv : List (Bool × List Int)} (h : RowsAt B w (.slice (some ⟨g1, 0, none⟩) N c1) (.slice (some ⟨g2, 0, none⟩) N c2) N hv) (k : Nat) :
    w.frozen? ⟨g1, k, none⟩ = false ∧ w.frozen? ⟨g2, k, none⟩ = false := ⟨h.bs.frozenAt k, h.ss.frozenAt k⟩
theorem keeps_two (w : World) (g1 g2 o : Nat) (x y : Value) : Keeps (fun q => q = g1 ∨ q = g2) w ((w.setCell ⟨g1, o, none⟩ x).setCell ⟨g2, o, none⟩ y) :=
  Keeps.setCell (F := fun q => q = g1 ∨ q = g2) (p := ⟨g2, o, none⟩) (Keeps.setCell (F := fun q => q = g1 ∨ q = g2) (p := ⟨g1, o, none⟩) (Keeps.refl _ w) (fun _ => Or.inl rfl) x) (fun _ => Or.inr rfl) y
theorem RowsAt.put {B : Nat} {w : World} {g1 c1 g2 c2 : Nat} {N : Nat} {hv : List (Bool × List Int)} {z : Bool × List Int} (h : RowsAt B w (.slice (some ⟨g1, 0, none⟩) N c1) (.slice (some ⟨g2, 0, none⟩) N c2) N (hv ++ [z])) {p : Nat} (hp : hv.length = p) (st : List Int) :
    RowsAt B ((w.setCell ⟨g1, p, none⟩ (.bool true)).setCell ⟨g2, p, none⟩ (str (st.map letR))) (.slice (some ⟨g1, 0, none⟩) N c1) (.slice (some ⟨g2, 0, none⟩) N c2) N (hv ++ [(true, st)]) := by
  obtain ⟨_, _, hne⟩ := h.lt
  have h1 := (h.bs.stored p (.bool true)).1
  rw [rbs_set (y := (true, st)) hp] at h1
  have k1 : Keeps (fun q => q = g1) w (w.setCell ⟨g1, p, none⟩ (.bool true)) := Keeps.setCell (F := fun q => q = g1) (p := ⟨g1, p, none⟩) (Keeps.refl _ w) (fun _ => rfl) _
  have h2 := ownsRow_kept h.ss k1 (fun q e hq => hne (by simp [Value.ownBlock] at e; omega))
  have h3 := (h2.stored p (str (st.map letR))).1
  rw [rss_set (y := (true, st)) hp] at h3
  have k2 : Keeps (fun q => q = g2) (w.setCell ⟨g1, p, none⟩ (.bool true)) ((w.setCell ⟨g1, p, none⟩ (.bool true)).setCell ⟨g2, p, none⟩ (str (st.map letR))) := Keeps.setCell (F := fun q => q = g2) (p := ⟨g2, p, none⟩) (Keeps.refl _ _) (fun _ => rfl) _
  exact ⟨by simpa using h.len, ownsRow_kept h1 k2 (fun q e hq => hne (by simp [Value.ownBlock] at e; omega)), h3⟩
theorem owns_apart {w : World} {B C e f s r n m : Nat} {v u : Value} {xs ys : List Value} (h : w.ownsRow B e s v n xs) (k : w.ownsRow C f r u m ys) (hne : e ≠ f) : v.ownBlock = none ∨ v.ownBlock ≠ u.ownBlock := by
  rcases h.2 with ⟨h', _⟩ | ⟨g', cap', cur, h', _, hg, _⟩
  · left; rw [h']; rfl
  · right
    rw [h']
    intro q
    exact ownsRow_ne k hg hne q.symm
theorem rows_more {B : Nat} {w w1 w2 : World} {vr vh v1 v2 : Value} {p : Nat} {hv : List (Bool × List Int)} {o1 o2 : Obj} (h : RowsAt B w vr vh p hv) (h1 : w1.ownsRow B 4 1 v1 (p + 1) (rbs hv ++ [.bool false])) (g1 : (w.alloc o1).grownBy w1 vr.ownBlock) (h2 : w2.ownsRow B 9 1 v2 (p + 1) (rss hv ++ [.string ⟨#[]⟩])) (g2 : (w1.alloc o2).grownBy w2 vh.ownBlock) :
    RowsAt B w2 v1 v2 (p + 1) (hv ++ [(false, [])]) := by
  have hs1 : w1.ownsRow B 9 1 vh p (rss hv) := (h.ss.alloc o1).kept g1 (owns_apart h.ss h.bs (by decide))
  refine ⟨by simp [h.len], ?_, ?_⟩
  · have := (h1.alloc o2).kept g2 (owns_apart h1 hs1 (by decide))
    simpa [rbs] using this
  · simpa [rss, str] using h2
theorem good_nil (S : List FieldA) (l : List ValA) : GoodH S l [] := ⟨fun k z h => by simp at h, fun k st h => by simp at h⟩

end Go.Proofs.YtcicaifioghciaaGreatDoor
