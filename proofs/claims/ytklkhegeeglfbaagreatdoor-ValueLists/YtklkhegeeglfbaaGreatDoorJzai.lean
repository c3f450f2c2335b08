import Derived.Test.YtklkhegeeglfbaaGreatDoorGF
namespace Go.Proofs.YtklkhegeeglfbaaGreatDoor
open Go.RowKit Go.Maps

/-- A row of heads. -/
structure Hd where
  v : Value
  hs : List Value
def Hd.row (h : Hd) (e : TypeId) : Rowp := solo e 1 h.hs.length h.v h.hs
/-- A book. -/
structure BookA where
  N : Nat
  L : Hd
  W : Hd
  B : Hd
  V : Hd
  F : Hd
  G : Hd
def BookA.rows (a : BookA) : List Rowp := [a.L.row 23, a.W.row 23, a.B.row 30, a.V.row 30, a.F.row 26, a.G.row 26]
def BookA.cells (a : BookA) : Array Value := #[a.L.v, a.W.v, a.B.v, a.V.v, a.F.v, a.G.v, .int .i64 a.N]
/-- A list that a head tells. -/
def HasZ (K : Kind) (its : List Rowp) (x : Value) (l : List K.α) : Prop := ∃ p ∈ its, p.e = K.e ∧ p.z = K.z ∧ ((p.vx = x ∧ p.n = l.length ∧ p.X = K.C l) ∨ (p.vm = x ∧ p.n + p.k = l.length ∧ p.X ++ p.Y = K.C l))
def SameZ (K : Kind) (its : List Rowp) (x y : Value) : Prop := ∃ l : List K.α, l.length ≤ 1073741824 ∧ HasZ K its x l ∧ HasZ K its y l
structure PairsZ (K : Kind) (its : List Rowp) (hs gs : List Value) : Prop where
  len : hs.length = gs.length
  same : ∀ (i : Nat) (x y : Value), hs[i]? = some x → gs[i]? = some y → SameZ K its x y
theorem HasZ.mono {K : Kind} {its its' : List Rowp} {x : Value} {l : List K.α} (h : HasZ K its x l) (hs : ∀ p ∈ its, p ∈ its') : HasZ K its' x l := by
  obtain ⟨p, hp, h⟩ := h
  exact ⟨p, hs p hp, h⟩
theorem SameZ.mono {K : Kind} {its its' : List Rowp} {x y : Value} (h : SameZ K its x y) (hs : ∀ p ∈ its, p ∈ its') : SameZ K its' x y := by
  obtain ⟨l, h0, h1, h2⟩ := h
  exact ⟨l, h0, h1.mono hs, h2.mono hs⟩
theorem PairsZ.mono {K : Kind} {its its' : List Rowp} {hs gs : List Value} (h : PairsZ K its hs gs) (hs' : ∀ p ∈ its, p ∈ its') : PairsZ K its' hs gs :=
  ⟨h.len, fun i x y h1 h2 => (h.same i x y h1 h2).mono hs'⟩
theorem HasZ.row {K : Kind} {w : World} {B : Nat} {its L : List Rowp} {x : Value} {l : List K.α} (h : HasZ K its x l) (hS : Sack w B L) (hs : ∀ p ∈ its, p ∈ L) : w.ownsRow B K.e K.z x l.length (K.C l) := by
  obtain ⟨p, hp, e1, e2, h⟩ := h
  have ha := hS.all p (hs p hp)
  have hx := ha.x
  have hm := ha.m
  rw [e1, e2] at hx hm
  rcases h with ⟨h1, h2, h3⟩ | ⟨h1, h2, h3⟩
  · rw [h1, h2, h3] at hx
    exact hx
  · rw [h1, h2, h3] at hm
    exact hm
theorem PairsZ.snoc2 {K : Kind} {its : List Rowp} {hs gs : List Value} {x y x' y' : Value} (h : PairsZ K its hs gs) (h1 : SameZ K its x y) (h2 : SameZ K its x' y') : PairsZ K its (hs ++ [x] ++ [x']) (gs ++ [y] ++ [y']) := by
  refine ⟨by simp [h.len], fun i a b ha hb => ?_⟩
  have hl := h.len
  by_cases hi : i < hs.length
  · rw [List.append_assoc, List.getElem?_append_left hi] at ha
    rw [List.append_assoc, List.getElem?_append_left (by omega)] at hb
    exact h.same i a b ha hb
  · rw [List.append_assoc, List.getElem?_append_right (by omega)] at ha
    rw [List.append_assoc, List.getElem?_append_right (by omega)] at hb
    rw [hl] at ha
    have hlt := get_lt hb
    simp at hlt
    rcases Nat.lt_or_ge (i - gs.length) 1 with h0 | h0
    · have e : i - gs.length = 0 := by omega
      rw [e] at ha hb
      simp at ha hb
      subst ha
      subst hb
      exact h1
    · have e : i - gs.length = 1 := by omega
      rw [e] at ha hb
      simp at ha hb
      subst ha
      subst hb
      exact h2
/-- A book, in memory: E stands beside it. -/
structure BookAt (w : World) (B b : Nat) (a : BookA) (E its : List Rowp) : Prop where
  box : w.heap[b]? = some (.cells a.cells 46 (0, 0))
  new : B ≤ b
  sack : Sack w B (a.rows ++ (E ++ its))
  pL : PairsZ kV its a.L.hs a.W.hs
  pB : PairsZ kB its a.B.hs a.V.hs
  pF : PairsZ kF its a.F.hs a.G.hs
theorem own_box {w w' : World} {B e z n b : Nat} {v : Value} {xs : List Value} {cs : Array Value} (h : w.ownsRow B e z v n xs) (hb : w.heap[b]? = some (.cells cs 46 (0, 0))) (he : e ≠ 46) (hk : Keeps (fun q => v.ownBlock = some q) w w') : w'.heap[b]? = some (.cells cs 46 (0, 0)) :=
  (hk.block b (lt_of_block hb) (fun e' => by
    obtain ⟨_, c, hc⟩ := own_typed h e'
    rw [hb] at hc
    simp only [Option.some.injEq, Obj.cells.injEq] at hc
    exact he hc.2.1.symm)).trans hb
/-- What is written into a book's box is none of the rows'. -/
theorem Sack.book {w w' : World} {B b : Nat} {L : List Rowp} {cs : Array Value} (h : Sack w B L) (hb : w.heap[b]? = some (.cells cs 46 (0, 0))) (hL : ∀ p ∈ L, p.e ≠ 46) (hk : Keeps (fun q => q = b) w w') : Sack w' B L :=
  h.box hb hL hk (fun _ e _ => e)
theorem Sack.typed {w : World} {B : Nat} {L : List Rowp} {cs : Array Value} {b : Nat} (h : Sack w B L) {p : Rowp} (hp : p ∈ L) {q : Nat} (hq : p.has q) (hb : w.heap[b]? = some (.cells cs 46 (0, 0))) (hp2 : p.e ≠ 46) : q ≠ b := by
  intro e
  subst e
  obtain ⟨c, hc⟩ := (h.all p hp).typed hq
  rw [hb] at hc
  simp only [Option.some.injEq, Obj.cells.injEq] at hc
  exact hp2 hc.2.1.symm

/-- Within Book.vals: the list that is written over, its copy, the mark. -/
structure InV (w wr : World) (B b mb : Nat) (cs : Array Value) (n : Nat) (v : Value) (X : List ValA) (m : ValA) (i : Nat) (wv : Value) (R : List Rowp) : Prop where
  box : wr.heap[b]? = some (.cells cs 46 (0, 0))
  sack : Sack wr B (solo 40 3 n v (vcs (overL X m i)) :: solo 40 3 i wv (vcs (List.replicate i m)) :: solo 40 3 1 (.slice (some ⟨mb, 0, none⟩) 1 1) (vcs [m]) :: R)
  keeps : Keeps (fun q => B ≤ q) w wr
section
variable {w wr w' : World} {B b mb n i : Nat} {cs : Array Value} {v wv : Value} {X : List ValA} {m : ValA} {R : List Rowp}
theorem InV.list (h : InV w wr B b mb cs n v X m i wv R) : wr.ownsRow B 40 3 v n (vcs (overL X m i)) := (h.sack.all _ (List.mem_cons_self ..)).x
theorem InV.copy (h : InV w wr B b mb cs n v X m i wv R) : wr.ownsRow B 40 3 wv i (vcs (List.replicate i m)) := (h.sack.all _ (List.mem_cons_of_mem _ (List.mem_cons_self ..))).x
theorem InV.mark (h : InV w wr B b mb cs n v X m i wv R) : wr.ownsRow B 40 3 (.slice (some ⟨mb, 0, none⟩) 1 1) 1 (vcs [m]) := (h.sack.all _ (List.mem_cons_of_mem _ (List.mem_cons_of_mem _ (List.mem_cons_self ..)))).x
theorem InV.marks (h : InV w wr B b mb cs n v X m i wv R) : wr.cell? ⟨mb, 0, none⟩ = some (.int .i64 m.kind) ∧ wr.cell? ⟨mb, 1, none⟩ = some (.int .i64 m.n) ∧ wr.cell? ⟨mb, 2, none⟩ = some (str m.s) :=
  ⟨own_at h.mark rfl, own_at h.mark rfl, own_at h.mark rfl⟩
/-- One item is written over, and one appended to the copy. -/
theorem InV.step {g g2 cap c : Nat} {o : Obj} (h : InV w wr B b mb cs n v X m i wv R) (hv : v = .slice (some ⟨g, 0, none⟩) n c) (hi : i < X.length)
    (hG : GrewZ (((((wr.setCell ⟨g, i * 3, none⟩ (.int .i64 m.kind)).setCell ⟨g, i * 3 + 1, none⟩ (.int .i64 m.n)).setCell ⟨g, i * 3 + 2, none⟩ (str m.s))).alloc o) w' B 40 3 i 1 wv g2 cap (vcs (List.replicate i m)) (vcs [m])) :
    InV w w' B b mb cs n v X m (i + 1) (.slice (some ⟨g2, 0, none⟩) (i + 1) cap) R := by
  subst hv
  have hl := h.list
  have h1 := own_set3 hl i m
  rw [overL_set hi] at h1
  have hk1 := (keeps_put3 wr g (i * 3) (i * 3 + 1) (i * 3 + 2) (.int .i64 m.kind) (.int .i64 m.n) (str m.s)).mono (G := fun q => (Value.slice (some ⟨g, 0, none⟩) n c).ownBlock = some q) (fun q _ e => by rw [e]; rfl)
  have hb1 := own_box hl h.box (by decide) hk1
  have hs1 := h.sack.put h1 hk1
  have hka := (Keeps.refl (fun _ => False) ((((wr.setCell ⟨g, i * 3, none⟩ (.int .i64 m.kind)).setCell ⟨g, i * 3 + 1, none⟩ (.int .i64 m.n)).setCell ⟨g, i * 3 + 2, none⟩ (str m.s)))).alloc o
  have hs2 := hs1.keepF hka
  have hw2 := (hs2.all _ (List.mem_cons_of_mem _ (List.mem_cons_self ..))).x
  have hb2 := (hka.block b (lt_of_block hb1) id).trans hb1
  have hs3 := hs2.growSelfAt (i := 1) rfl hG
  rw [← vcs_app, ← List.replicate_succ'] at hs3
  exact ⟨own_box hw2 hb2 (show (40 : Nat) ≠ 46 by decide) hG.keeps, hs3, ((h.keeps.trans (hk1.mono (fun q _ e => own_geO hl e))).trans hka.any).trans (hG.keeps.mono (fun q _ e => own_geO hw2 e))⟩
/-- Within Book.vals: what grows out of the list, and out of the copy's copy. -/
structure InG (w wr : World) (B b mb : Nat) (cs : Array Value) (n : Nat) (v : Value) (m : ValA) (k : Nat) (gv wv cv : Value) (R : List Rowp) : Prop where
  box : wr.heap[b]? = some (.cells cs 46 (0, 0))
  sack : Sack wr B (solo 40 3 (n + k) cv (vcs (List.replicate (n + k) m)) :: ⟨40, 3, n, v, vcs (List.replicate n m), k, gv, vcs (List.replicate k m)⟩ :: solo 40 3 n wv (vcs (List.replicate n m)) :: solo 40 3 1 (.slice (some ⟨mb, 0, none⟩) 1 1) (vcs [m]) :: R)
  keeps : Keeps (fun q => B ≤ q) w wr
variable {k : Nat} {gv cv : Value}
theorem InV.done (h : InV w wr B b mb cs n v X m X.length wv R) (hn : n = X.length) (hB : B ≤ wr.heap.size) (hc : w'.ownsRow wr.heap.size 40 3 cv n (vcs (List.replicate n m))) (hk : Keeps (fun _ => False) wr w') : InG w w' B b mb cs n v m 0 v wv cv R := by
  subst hn
  have hs := h.sack
  rw [overL_end] at hs
  have hs2 := hs.new (p := solo 40 3 X.length cv (vcs (List.replicate X.length m))) hB hk (solo_at hc (by decide))
  exact ⟨(hk.block b (lt_of_block h.box) id).trans h.box, hs2, h.keeps.trans hk.any⟩
theorem InG.grown (h : InG w wr B b mb cs n v m k gv wv cv R) : wr.ownsRow B 40 3 gv (n + k) (vcs (List.replicate n m) ++ vcs (List.replicate k m)) := (h.sack.all _ (List.mem_cons_of_mem _ (List.mem_cons_self ..))).m
theorem InG.copy (h : InG w wr B b mb cs n v m k gv wv cv R) : wr.ownsRow B 40 3 cv (n + k) (vcs (List.replicate (n + k) m)) := (h.sack.all _ (List.mem_cons_self ..)).x
theorem InG.marks (h : InG w wr B b mb cs n v m k gv wv cv R) : wr.cell? ⟨mb, 0, none⟩ = some (.int .i64 m.kind) ∧ wr.cell? ⟨mb, 1, none⟩ = some (.int .i64 m.n) ∧ wr.cell? ⟨mb, 2, none⟩ = some (str m.s) := by
  have hm := (h.sack.all _ (List.mem_cons_of_mem _ (List.mem_cons_of_mem _ (List.mem_cons_of_mem _ (List.mem_cons_self ..))))).x
  exact ⟨own_at hm rfl, own_at hm rfl, own_at hm rfl⟩
/-- One more behind the list: the copy is as it was. -/
theorem InG.half {g cap : Nat} {o : Obj} (h : InG w wr B b mb cs n v m k gv wv cv R) (hG : GrewZ (wr.alloc o) w' B 40 3 (n + k) 1 gv g cap (vcs (List.replicate n m) ++ vcs (List.replicate k m)) (vcs [m])) :
    Sack w' B (solo 40 3 (n + k) cv (vcs (List.replicate (n + k) m)) :: ⟨40, 3, n, v, vcs (List.replicate n m), k + 1, .slice (some ⟨g, 0, none⟩) (n + k + 1) cap, vcs (List.replicate (k + 1) m)⟩ :: solo 40 3 n wv (vcs (List.replicate n m)) :: solo 40 3 1 (.slice (some ⟨mb, 0, none⟩) 1 1) (vcs [m]) :: R) ∧ w'.heap[b]? = some (.cells cs 46 (0, 0)) ∧ Keeps (fun q => B ≤ q) w w' := by
  have hka := (Keeps.refl (fun _ => False) wr).alloc o
  have hs2 := h.sack.keepF hka
  have hg2 := (hs2.all _ (List.mem_cons_of_mem _ (List.mem_cons_self ..))).m
  have hs3 := hs2.growAt (i := 1) rfl hG
  rw [← vcs_app, ← List.replicate_succ'] at hs3
  exact ⟨hs3, own_box hg2 ((hka.block b (lt_of_block h.box) id).trans h.box) (show (40 : Nat) ≠ 46 by decide) hG.keeps, (h.keeps.trans hka.any).trans (hG.keeps.mono (fun q _ e => own_geO hg2 e))⟩
theorem InG.other {g cap : Nat} {o : Obj} {w0 : World} (hs : Sack wr B (solo 40 3 (n + k) cv (vcs (List.replicate (n + k) m)) :: ⟨40, 3, n, v, vcs (List.replicate n m), k + 1, gv, vcs (List.replicate (k + 1) m)⟩ :: solo 40 3 n wv (vcs (List.replicate n m)) :: solo 40 3 1 (.slice (some ⟨mb, 0, none⟩) 1 1) (vcs [m]) :: R)) (hb : wr.heap[b]? = some (.cells cs 46 (0, 0))) (hk : Keeps (fun q => B ≤ q) w0 wr)
    (hG : GrewZ (wr.alloc o) w' B 40 3 (n + k) 1 cv g cap (vcs (List.replicate (n + k) m)) (vcs [m])) : InG w0 w' B b mb cs n v m (k + 1) gv wv (.slice (some ⟨g, 0, none⟩) (n + k + 1) cap) R := by
  have hka := (Keeps.refl (fun _ => False) wr).alloc o
  have hs2 := hs.keepF hka
  have hg2 := (hs2.all _ (List.mem_cons_self ..)).x
  have hs3 := hs2.growSelfAt (i := 0) rfl hG
  rw [← vcs_app, ← List.replicate_succ'] at hs3
  exact ⟨own_box hg2 ((hka.block b (lt_of_block hb) id).trans hb) (show (40 : Nat) ≠ 46 by decide) hG.keeps, hs3, (hk.trans hka.any).trans (hG.keeps.mono (fun q _ e => own_geO hg2 e))⟩
end
/-- A head more in a row of heads, told in the box. -/
theorem hdr_step {w0 w w' : World} {B b i j g cap : Nat} {o : Obj} {cs : Array Value} {L : List Rowp} {e : TypeId} {h : Hd} {u : Value} (hs : Sack w B L) (hL : ∀ p ∈ L, p.e ≠ 46) (hb : w.heap[b]? = some (.cells cs 46 (0, 0))) (hB : B ≤ b) (hk : Keeps (fun q => B ≤ q) w0 w) (hi : L[i]? = some (h.row e)) (he : e ≠ 46)
    (hG : GrewZ (w.alloc o) w' B e 1 h.hs.length 1 h.v g cap h.hs [u]) :
    Sack (w'.setCell ⟨b, j, none⟩ (.slice (some ⟨g, 0, none⟩) (h.hs.length + 1) cap)) B (L.set i ((⟨.slice (some ⟨g, 0, none⟩) (h.hs.length + 1) cap, h.hs ++ [u]⟩ : Hd).row e)) ∧
      (w'.setCell ⟨b, j, none⟩ (.slice (some ⟨g, 0, none⟩) (h.hs.length + 1) cap)).heap[b]? = some (.cells (cs.setIfInBounds j (.slice (some ⟨g, 0, none⟩) (h.hs.length + 1) cap)) 46 (0, 0)) ∧
      Keeps (fun q => B ≤ q) w0 (w'.setCell ⟨b, j, none⟩ (.slice (some ⟨g, 0, none⟩) (h.hs.length + 1) cap)) ∧ w'.heap[b]? = some (.cells cs 46 (0, 0)) := by
  have hka := (Keeps.refl (fun _ => False) w).alloc o
  have hs2 := hs.keepF hka
  have hr := (hs2.all _ (List.mem_of_getElem? hi)).x
  have hb2 : w'.heap[b]? = some (.cells cs 46 (0, 0)) := own_box hr ((hka.block b (lt_of_block hb) id).trans hb) he hG.keeps
  have hs3 := hs2.growSelfAt hi hG
  have hl : h.hs.length + 1 = (h.hs ++ [u]).length := by simp
  have hrow : solo e 1 (h.hs.length + 1) (.slice (some ⟨g, 0, none⟩) (h.hs.length + 1) cap) (h.hs ++ [u]) = (⟨.slice (some ⟨g, 0, none⟩) (h.hs.length + 1) cap, h.hs ++ [u]⟩ : Hd).row e := by
    unfold Hd.row
    rw [hl]
  rw [hrow] at hs3
  refine ⟨hs3.book hb2 (fun p hp => ?_) (keeps_set w' b j _), heap_setCell_at hb2 _, ((hk.trans hka.any).trans (hG.keeps.mono (fun q _ e => own_geO hr e))).trans ((keeps_set w' b j _).mono (fun q _ e => by rw [e]; exact hB)), hb2⟩
  rcases List.mem_or_eq_of_mem_set hp with hp | rfl
  · exact hL p hp
  · exact he
end Go.Proofs.YtklkhegeeglfbaaGreatDoor
namespace Go.Proofs.YtklkhegeeglfbaaGreatDoor
open Go.RowKit Go.Maps

/-- Book.vals: a list is written full and grown, and both are kept. -/
def valsOut (w w' : World) (B b : Nat) (a : BookA) (E its : List Rowp) : Prop :=
  ∃ (a' : BookA) (P : List Rowp), (a'.N = a.N + 1 ∧ a'.L.hs.length = a.L.hs.length + 2 ∧ a'.B.hs.length = a.B.hs.length ∧ a'.F.hs.length = a.F.hs.length ∧ ∀ p ∈ P, p.e ≠ 46) ∧ BookAt w' B b a' E (P ++ its) ∧ Keeps (fun q => B ≤ q) w w'
theorem rows_kind (a : BookA) : ∀ p ∈ a.rows, p.e ≠ 46 := by
  intro p hp
  unfold BookA.rows at hp
  simp only [List.mem_cons, List.not_mem_nil, or_false] at hp
  rcases hp with rfl | rfl | rfl | rfl | rfl | rfl
  · exact (show (23 : Nat) ≠ 46 by decide)
  · exact (show (23 : Nat) ≠ 46 by decide)
  · exact (show (30 : Nat) ≠ 46 by decide)
  · exact (show (30 : Nat) ≠ 46 by decide)
  · exact (show (26 : Nat) ≠ 46 by decide)
  · exact (show (26 : Nat) ≠ 46 by decide)

theorem val_own (w : World) (m : ValA) : (w.alloc (.cells #[.int .i64 m.kind, .int .i64 m.n, str m.s] 40)).ownsRow w.heap.size 40 3 (.slice (some ⟨w.heap.size, 0, none⟩) 1 1) 1 (vcs [m]) :=
  World.ownsRow_lit (base := w.heap.size) (e := 40) (size := 3) w #[.int .i64 m.kind, .int .i64 m.n, str m.s] 1 (Nat.le_refl _) (by unfold maxLen; omega) (by simp)
theorem InV.start {w : World} {B b : Nat} {a : BookA} {E its : List Rowp} {v : Value} {X : List ValA} (hA : BookAt w B b a (solo 40 3 X.length v (vcs X) :: E) its) (hk : ∀ p ∈ E ++ its, p.e ≠ 46) (hB : B ≤ w.heap.size) (m : ValA) (u : Value) :
    InV w ((w.setCell ⟨b, 6, none⟩ u).alloc (.cells #[.int .i64 m.kind, .int .i64 m.n, str m.s] 40)) B b w.heap.size (a.cells.setIfInBounds 6 u) X.length v X m 0 (.slice none 0 0) (a.rows ++ (E ++ its)) := by
  have hk1 := keeps_set w b 6 u
  have hb1 := heap_setCell_at (o := 6) hA.box u
  have hs1 := hA.sack.book hA.box (fun p hp => by
    rcases List.mem_append.1 hp with hp | hp
    · exact rows_kind a p hp
    · rcases List.mem_cons.1 hp with rfl | hp
      · exact (show (40 : Nat) ≠ 46 by decide)
      · exact hk p hp) hk1
  have hsz : (w.setCell ⟨b, 6, none⟩ u).heap.size = w.heap.size := by simp
  have hka := (Keeps.refl (fun _ => False) (w.setCell ⟨b, 6, none⟩ u)).alloc (.cells #[.int .i64 m.kind, .int .i64 m.n, str m.s] 40)
  have hv := val_own (w.setCell ⟨b, 6, none⟩ u) m
  have hs2 := (hs1.new (by rw [hsz]; exact hB) hka (solo_at hv (by decide))).nowhere (e := 40) (z := 3) (by decide)
  rw [hsz] at hs2
  refine ⟨(hka.block b (lt_of_block hb1) id).trans hb1, ?_, (hk1.mono (fun q _ e => by rw [e]; exact hA.new)).trans hka.any⟩
  rw [overL_zero]
  refine hs2.perm ?_
  have e1 : solo 40 3 0 (.slice none 0 0) [] :: solo 40 3 1 (.slice (some ⟨w.heap.size, 0, none⟩) 1 1) (vcs [m]) :: (a.rows ++ (solo 40 3 X.length v (vcs X) :: E ++ its)) = ([solo 40 3 0 (.slice none 0 0) [], solo 40 3 1 (.slice (some ⟨w.heap.size, 0, none⟩) 1 1) (vcs [m])] ++ a.rows) ++ (solo 40 3 X.length v (vcs X) :: (E ++ its)) := by simp
  rw [e1]
  refine List.perm_middle.trans ?_
  simp [vcs]

theorem half_marks {w : World} {B mb : Nat} {p q r : Rowp} {m : ValA} {R : List Rowp} (hs : Sack w B (p :: q :: r :: solo 40 3 1 (.slice (some ⟨mb, 0, none⟩) 1 1) (vcs [m]) :: R)) : w.cell? ⟨mb, 0, none⟩ = some (.int .i64 m.kind) ∧ w.cell? ⟨mb, 1, none⟩ = some (.int .i64 m.n) ∧ w.cell? ⟨mb, 2, none⟩ = some (str m.s) := by
  have hm := (hs.all _ (List.mem_cons_of_mem _ (List.mem_cons_of_mem _ (List.mem_cons_of_mem _ (List.mem_cons_self ..))))).x
  exact ⟨own_at hm rfl, own_at hm rfl, own_at hm rfl⟩
theorem InV.ne {w wr : World} {B b mb n i g c : Nat} {cs : Array Value} {wv : Value} {X : List ValA} {m : ValA} {R : List Rowp} (h : InV w wr B b mb cs n (.slice (some ⟨g, 0, none⟩) n c) X m i wv R) : mb ≠ g := by
  intro e
  subst e
  exact (List.pairwise_cons.1 h.sack.apart).1 _ (List.mem_cons_of_mem _ (List.mem_cons_self ..)) mb (Or.inl rfl) (Or.inl rfl)

/-- What Book.vals has laid: the four new rows. -/
def freshV (n mb : Nat) (v gv wv cv : Value) (m : ValA) : List Rowp := [solo 40 3 (n + 64) cv (vcs (List.replicate (n + 64) m)), ⟨40, 3, n, v, vcs (List.replicate n m), 64, gv, vcs (List.replicate 64 m)⟩, solo 40 3 n wv (vcs (List.replicate n m)), solo 40 3 1 (.slice (some ⟨mb, 0, none⟩) 1 1) (vcs [m])]
theorem freshV_same1 {n mb : Nat} {v gv wv cv : Value} {m : ValA} {its : List Rowp} (hn : n ≤ 100000) : SameZ kV (freshV n mb v gv wv cv m ++ its) v wv := by
  have e1 : (List.replicate n m : List ValA).length = n := List.length_replicate
  exact ⟨(List.replicate n m : List ValA), Nat.le_trans (Nat.le_of_eq e1) (by omega), ⟨_, List.mem_append_left _ (List.mem_cons_of_mem _ (List.mem_cons_self ..)), rfl, rfl, Or.inl ⟨rfl, e1.symm, rfl⟩⟩,
    ⟨_, List.mem_append_left _ (List.mem_cons_of_mem _ (List.mem_cons_of_mem _ (List.mem_cons_self ..))), rfl, rfl, Or.inl ⟨rfl, e1.symm, rfl⟩⟩⟩
theorem freshV_same2 {n mb : Nat} {v gv wv cv : Value} {m : ValA} {its : List Rowp} (hn : n ≤ 100000) : SameZ kV (freshV n mb v gv wv cv m ++ its) gv cv := by
  have e1 : (List.replicate (n + 64) m : List ValA).length = n + 64 := List.length_replicate
  have e2 : vcs (List.replicate n m) ++ vcs (List.replicate 64 m) = vcs (List.replicate (n + 64) m) := by rw [← vcs_app, List.replicate_append_replicate]
  exact ⟨(List.replicate (n + 64) m : List ValA), Nat.le_trans (Nat.le_of_eq e1) (by omega), ⟨_, List.mem_append_left _ (List.mem_cons_of_mem _ (List.mem_cons_self ..)), rfl, rfl, Or.inr ⟨rfl, e1.symm, e2⟩⟩,
    ⟨_, List.mem_append_left _ (List.mem_cons_self ..), rfl, rfl, Or.inl ⟨rfl, e1.symm, rfl⟩⟩⟩
theorem fresh_perm {P R E its : List Rowp} : (P ++ (R ++ (E ++ its))).Perm (R ++ (E ++ (P ++ its))) := by
  have e1 : R ++ (E ++ (P ++ its)) = (R ++ E) ++ (P ++ its) := by simp
  have e2 : P ++ (R ++ (E ++ its)) = P ++ ((R ++ E) ++ its) := by simp
  rw [e1, e2, ← List.append_assoc, ← List.append_assoc (R ++ E) P its]
  exact List.Perm.append_right its List.perm_append_comm
theorem cell_new_set {w : World} {b j : Nat} {x u : Value} {t : TypeId} : ((w.setCell ⟨b, j, none⟩ x).alloc (.cells #[u] t)).cell? ⟨w.heap.size, 0, none⟩ = some u := by
  have hs : (w.setCell ⟨b, j, none⟩ x).heap.size = w.heap.size := by simp
  have := cell_of_blk (heap_alloc_new (w.setCell ⟨b, j, none⟩ x) (.cells #[u] t)) 0
  rw [hs] at this
  exact this
theorem own_len {w : World} {B e z n n' : Nat} {v : Value} {xs : List Value} (h : n = n') (ho : w.ownsRow B e z v n xs) : w.ownsRow B e z v n' xs := h ▸ ho
theorem hdr_step' {w0 w w' : World} {B b i j g cap n : Nat} {o : Obj} {cs : Array Value} {L : List Rowp} {e : TypeId} {h : Hd} {u : Value} (hn : h.hs.length = n) (hs : Sack w B L) (hL : ∀ p ∈ L, p.e ≠ 46) (hb : w.heap[b]? = some (.cells cs 46 (0, 0))) (hB : B ≤ b) (hk : Keeps (fun q => B ≤ q) w0 w) (hi : L[i]? = some (h.row e)) (he : e ≠ 46)
    (hG : GrewZ (w.alloc o) w' B e 1 n 1 h.v g cap h.hs [u]) :
    Sack (w'.setCell ⟨b, j, none⟩ (.slice (some ⟨g, 0, none⟩) (n + 1) cap)) B (L.set i ((⟨.slice (some ⟨g, 0, none⟩) (n + 1) cap, h.hs ++ [u]⟩ : Hd).row e)) ∧
      (w'.setCell ⟨b, j, none⟩ (.slice (some ⟨g, 0, none⟩) (n + 1) cap)).heap[b]? = some (.cells (cs.setIfInBounds j (.slice (some ⟨g, 0, none⟩) (n + 1) cap)) 46 (0, 0)) ∧
      Keeps (fun q => B ≤ q) w0 (w'.setCell ⟨b, j, none⟩ (.slice (some ⟨g, 0, none⟩) (n + 1) cap)) ∧ w'.heap[b]? = some (.cells cs 46 (0, 0)) := by
  subst hn
  exact hdr_step hs hL hb hB hk hi he hG
theorem kinds_set {L : List Rowp} (h : ∀ p ∈ L, p.e ≠ 46) (i : Nat) (x : Rowp) (hx : x.e ≠ 46) : ∀ p ∈ L.set i x, p.e ≠ 46 := by
  intro p hp
  rcases List.mem_or_eq_of_mem_set hp with hp | rfl
  · exact h p hp
  · exact hx
theorem freshV_kind0 {n mb : Nat} {v gv wv cv : Value} {m : ValA} : ∀ p ∈ freshV n mb v gv wv cv m, p.e ≠ 46 := by
  intro p hp
  unfold freshV at hp
  simp only [List.mem_cons, List.not_mem_nil, or_false] at hp
  rcases hp with rfl | rfl | rfl | rfl <;> exact (show (40 : Nat) ≠ 46 by decide)
theorem freshV_kind {n mb : Nat} {v gv wv cv : Value} {m : ValA} {a : BookA} {L : List Rowp} (h : ∀ p ∈ L, p.e ≠ 46) : ∀ p ∈ freshV n mb v gv wv cv m ++ (a.rows ++ L), p.e ≠ 46 := by
  intro p hp
  rcases List.mem_append.1 hp with hp | hp
  · unfold freshV at hp
    simp only [List.mem_cons, List.not_mem_nil, or_false] at hp
    rcases hp with rfl | rfl | rfl | rfl <;> exact (show (40 : Nat) ≠ 46 by decide)
  · rcases List.mem_append.1 hp with hp | hp
    · exact rows_kind a p hp
    · exact h p hp

set_option maxRecDepth 100000 in
set_option maxHeartbeats 8000000 in
theorem book_vals (w : World) (B b : Nat) (a : BookA) (E its : List Rowp) (vo : Option Addr) (vc : Nat) (X : List ValA) (hB : B ≤ w.heap.size) (hA : BookAt w B b a (solo 40 3 X.length (.slice vo X.length vc) (vcs X) :: E) its) (hk : ∀ p ∈ E ++ its, p.e ≠ 46) (hn : X.length ≤ 100000) (hN : a.N ≤ 1000000) (hL : a.L.hs.length ≤ 1000000) :
    Calls Tryz.prog 23 #[.pointer (some ⟨b, 0, none⟩), .slice vo X.length vc] w fun e w' => e = .returned (.tuple #[]) ∧ valsOut w w' B b a E its := by
  have p6 := cell_of_blk hA.box 6
  have f6 := frozen_of_blk hA.box 6
  unfold BookA.cells at p6
  simp at p6
  have HA := hide hA
  have HK := hide hk
  have HB := hide hB
  have i0 : (a.N : Int) ≤ 1000000 := by omega
  have i00 : (0 : Int) ≤ (a.N : Int) := by omega
  have hbl : b < w.heap.size := lt_of_block hA.box
  clear hA hk hB
  go_enter Tryz.func23, Tryz.ntmps23
  have HV := hide (InV.start (unhide HA) (unhide HK) (unhide HB) ⟨9, (a.N : Int) + 1, markT⟩ (.int .i64 ((a.N : Int) + 1)))
  have HSZ : Hid ((w.setCell ⟨b, 6, none⟩ (.int .i64 ((a.N : Int) + 1))).heap.size = w.heap.size) := by show _ = _; simp
  go_wp2_with fail
  go_loopw [5, 6] (fun wv iv wr => ∃ i : Nat, i ≤ X.length ∧ iv = .int .i64 i ∧ Hid (InV w wr B b w.heap.size (a.cells.setIfInBounds 6 (.int .i64 ((a.N : Int) + 1))) X.length (.slice vo X.length vc) X ⟨9, (a.N : Int) + 1, markT⟩ i wv (a.rows ++ (E ++ its)))) (fun _ iv _ => X.length - (intOf iv).toNat)
  case atStart => exact ⟨0, Nat.zero_le _, rfl, HV⟩
  case round =>
    clear HV p6 f6
    obtain ⟨i, hi, rfl, HV⟩ := hrel
    obtain ⟨m0, m1, m2⟩ := (unhide HV).marks
    simp only at m0 m1 m2
    by_cases hlt : i < X.length
    · obtain ⟨g, _, e, _, _⟩ := (unhide HV).list.form (by omega)
      simp at e
      obtain ⟨rfl, rfl⟩ := e
      obtain ⟨⟨d0, c0⟩, f0⟩ := own_open (unhide HV).list (j := i * 3) (by omega)
      obtain ⟨⟨d1, c1⟩, f1⟩ := own_open (unhide HV).list (j := i * 3 + 1) (by omega)
      obtain ⟨⟨d2, c2⟩, f2⟩ := own_open (unhide HV).list (j := i * 3 + 2) (by omega)
      have i1 : (i : Int) < (X.length : Int) := by omega
      have i2 : (0 : Int) ≤ (i : Int) := by omega
      have z1 := (unhide HV).ne
      have z2 : ¬ g = w.heap.size := fun e => z1 e.symm
      have HFL := hide (val_lit (((wr.setCell ⟨g, i * 3, none⟩ (.int .i64 9)).setCell ⟨g, i * 3 + 1, none⟩ (.int .i64 ((a.N : Int) + 1))).setCell ⟨g, i * 3 + 2, none⟩ (str markT)) 9 ((a.N : Int) + 1) markT)
      have HCO : Hid ((((wr.setCell ⟨g, i * 3, none⟩ (.int .i64 9)).setCell ⟨g, i * 3 + 1, none⟩ (.int .i64 ((a.N : Int) + 1))).setCell ⟨g, i * 3 + 2, none⟩ (str markT)).ownsRow B 40 3 u5 i (vcs (List.replicate i ⟨9, (a.N : Int) + 1, markT⟩))) := by
        refine ownsRow_kept (unhide HV).copy (keeps_put3 wr g _ _ _ _ _ _) (fun q e f => ?_)
        subst f
        exact (List.pairwise_cons.1 (unhide HV).sack.apart).1 _ (List.mem_cons_self ..) q (Or.inl rfl) (Or.inl e)
      have HBW : Hid (B ≤ wr.heap.size) := Nat.le_trans (unhide HB) (unhide HV).keeps.size
      go_wp2_with (at_builtin; refine append_val rfl _ _ rfl B u5 i _ rfl (own_alloc (unhide HCO) _) wr.heap.size 1 ⟨9, (a.N : Int) + 1, markT⟩ rfl (by simpa using unhide HFL) (by omega) (Nat.le_trans (unhide HBW) (by simp)) ?_; intro g2 cap2 w3 HG)
      go_roundw
      case rel => exact ⟨i + 1, by omega, by go_num, (unhide HV).step rfl hlt HG⟩
      case measure => simp [intOf]; omega
    · obtain rfl : i = X.length := by omega
      have i1 : ¬ (X.length : Int) < (X.length : Int) := by omega
      obtain ⟨wo, wc, rfl⟩ := (rowAt_own (unhide HV).copy).form
      have hcp := (unhide HV).copy
      have hval : ValsAt wr (.slice wo X.length wc) (List.replicate X.length ⟨9, (a.N : Int) + 1, markT⟩) := by
        have := rowAt_own hcp
        unfold ValsAt
        rw [List.length_replicate]
        exact this
      have HCC := hide (copyVals_any wr _ _ hval (by rw [List.length_replicate]; omega))
      have HBW : Hid (B ≤ wr.heap.size) := Nat.le_trans (unhide HB) (unhide HV).keeps.size
      clear hcp hval
      go_wp2_with fail
      refine (unhide HCC).mono ?_
      rintro e w4 ⟨cv, rfl, ho4, hk4⟩
      rw [List.length_replicate] at ho4
      have HG := hide ((unhide HV).done rfl (unhide HBW) ho4 hk4)
      clear ho4 hk4 m0 m1 m2
      go_wp2_with fail
      go_loopw [7, 8, 9] (fun gv cv kv wr => ∃ k : Nat, k ≤ 64 ∧ kv = .int .i64 k ∧ Hid (InG w wr B b w.heap.size (a.cells.setIfInBounds 6 (.int .i64 ((a.N : Int) + 1))) X.length (.slice vo X.length vc) ⟨9, (a.N : Int) + 1, markT⟩ k gv (.slice wo X.length wc) cv (a.rows ++ (E ++ its)))) (fun _ _ kv _ => 64 - (intOf kv).toNat)
      case atStart => exact ⟨0, by omega, rfl, HG⟩
      case round =>
        clear HG
        obtain ⟨k, hk, rfl, HG⟩ := hrel
        by_cases hlt : k < 64
        · obtain ⟨m0, m1, m2⟩ := (unhide HG).marks
          simp only at m0 m1 m2
          have i2 : (k : Int) < 64 := by omega
          have HFL := hide (val_lit wr 9 ((a.N : Int) + 1) markT)
          have HBX : Hid (B ≤ wr.heap.size) := Nat.le_trans (unhide HB) (unhide HG).keeps.size
          go_wp2_with (at_builtin; first
            | (refine append_val rfl _ _ rfl B u7 (X.length + k) _ rfl (own_alloc (unhide HG).grown _) wr.heap.size 1 ⟨9, (a.N : Int) + 1, markT⟩ rfl (unhide HFL) (by omega) (Nat.le_trans (unhide HBX) (by simp)) ?_
               intro g3 cap3 w5 HG5
               have HS5 := hide ((unhide HG).half HG5)
               obtain ⟨q0, q1, q2⟩ := half_marks (unhide HS5).1
               simp only at q0 q1 q2
               have HFL5 := hide (val_lit w5 9 ((a.N : Int) + 1) markT)
               have HBX5 : Hid (B ≤ w5.heap.size) := Nat.le_trans (unhide HB) (unhide HS5).2.2.size
               have HCP5 := hide ((unhide HS5).1.all _ (List.mem_cons_self ..)).x)
            | (refine append_val rfl _ _ rfl B u8 (X.length + k) _ rfl (own_alloc (unhide HCP5) _) w5.heap.size 1 ⟨9, (a.N : Int) + 1, markT⟩ rfl (unhide HFL5) (by omega) (Nat.le_trans (unhide HBX5) (by simp)) ?_
               intro g6 cap6 w6 HG6))
          go_roundw
          case rel => exact ⟨k + 1, by omega, by go_num, InG.other (unhide HS5).1 (unhide HS5).2.1 (unhide HS5).2.2 HG6⟩
          case measure => simp [intOf]; omega
        · obtain rfl : k = 64 := by omega
          obtain ⟨go, gc, rfl⟩ := (rowAt_own (unhide HG).grown).form
          obtain ⟨co, cc, rfl⟩ := (rowAt_own (unhide HG).copy).form
          have p0 := cell_of_blk (unhide HG).box 0
          have f0 := frozen_of_blk (unhide HG).box 0
          unfold BookA.cells at p0
          simp at p0
          have HSK1 : Hid (Sack wr B (freshV X.length w.heap.size (.slice vo X.length vc) (.slice go (X.length + 64) gc) (.slice wo X.length wc) (.slice co (X.length + 64) cc) ⟨9, (a.N : Int) + 1, markT⟩ ++ (a.rows ++ (E ++ its)))) := (unhide HG).sack
          have HBO1 := hide (unhide HG).box
          have HKE1 := hide (unhide HG).keeps
          have HKI1 := hide (freshV_kind (n := X.length) (mb := w.heap.size) (v := .slice vo X.length vc) (gv := .slice go (X.length + 64) gc) (wv := .slice wo X.length wc) (cv := .slice co (X.length + 64) cc) (m := ⟨9, (a.N : Int) + 1, markT⟩) (a := a) (unhide HK))
          have HO1 : Hid (wr.ownsRow B 23 1 a.L.v a.L.hs.length a.L.hs) := ((unhide HSK1).all (a.L.row 23) (List.mem_append_right _ (List.mem_append_left _ (List.mem_cons_self ..)))).x
          have HX1 : Hid (B ≤ wr.heap.size) := Nat.le_trans (unhide HB) (unhide HG).keeps.size
          have HWL : Hid (a.W.hs.length ≤ 1000000) := by show _ ≤ _; rw [← (unhide HA).pL.len]; exact hL
          go_wp2_with (at_builtin; first
            |
              (refine append_hdr 42 23 (by kernel_rfl) (.slice none 0 0) (by kernel_rfl) rfl rfl _ _ rfl B a.L.v a.L.hs.length a.L.hs rfl (own_alloc (unhide HO1) _) _ 1 (Value.slice vo X.length vc) rfl (by first | exact cell_new_set | (rw [cell_of_blk (heap_alloc_new _ _)]; rfl)) rfl (by omega) (Nat.le_trans (unhide HX1) (by simp)) ?_
               intro g1 cap1 v1 HG1
               have H1 := hide (hdr_step' (by simp) (j := 0) (i := 4) (h := ⟨a.L.v, a.L.hs⟩) (unhide HSK1) (unhide HKI1) (unhide HBO1) (unhide HA).new (unhide HKE1) rfl (by decide) HG1)
               have c10 := cell_of_blk (unhide H1).2.2.2 0
               have c11 := cell_of_blk (unhide H1).2.2.2 1
               have e10 := frozen_of_blk (unhide H1).2.2.2 0
               have e11 := frozen_of_blk (unhide H1).2.2.2 1
               unfold BookA.cells at c10 c11
               simp at c10 c11
               have HSK2 := hide (unhide H1).1
               have HBO2 := hide (unhide H1).2.1
               have HKE2 := hide (unhide H1).2.2.1
               have HKI2 := hide (kinds_set (unhide HKI1) 4 ((⟨Value.slice (some ⟨g1, 0, none⟩) (a.L.hs.length + 1) cap1, a.L.hs ++ [Value.slice vo X.length vc]⟩ : Hd).row 23) (show (23 : Nat) ≠ 46 by decide))
               have HO2 := hide ((unhide HSK2).all (a.W.row 23) (List.mem_of_getElem? (i := 5) rfl)).x
               have HX2 : Hid (B ≤ _) := Nat.le_trans (unhide HB) (unhide HKE2).size
               have HLB2 : Hid (a.W.hs.length + 1 ≤ 4398046511104) := by show _ ≤ _; have := unhide HWL; omega)
            |
              (refine append_hdr 42 23 (by kernel_rfl) (.slice none 0 0) (by kernel_rfl) rfl rfl _ _ rfl B a.W.v a.W.hs.length a.W.hs rfl (own_alloc (unhide HO2) _) _ 1 (Value.slice wo X.length wc) rfl (by first | exact cell_new_set | (rw [cell_of_blk (heap_alloc_new _ _)]; rfl)) rfl (unhide HLB2) (Nat.le_trans (unhide HX2) (by simp)) ?_
               intro g2 cap2 v2 HG2
               have H2 := hide (hdr_step' (by simp) (j := 1) (i := 5) (h := ⟨a.W.v, a.W.hs⟩) (unhide HSK2) (unhide HKI2) (unhide HBO2) (unhide HA).new (unhide HKE2) rfl (by decide) HG2)
               have c20 := cell_of_blk (unhide H2).2.2.2 0
               have c21 := cell_of_blk (unhide H2).2.2.2 1
               have e20 := frozen_of_blk (unhide H2).2.2.2 0
               have e21 := frozen_of_blk (unhide H2).2.2.2 1
               unfold BookA.cells at c20 c21
               simp at c20 c21
               have HSK3 := hide (unhide H2).1
               have HBO3 := hide (unhide H2).2.1
               have HKE3 := hide (unhide H2).2.2.1
               have HKI3 := hide (kinds_set (unhide HKI2) 5 ((⟨Value.slice (some ⟨g2, 0, none⟩) (a.W.hs.length + 1) cap2, a.W.hs ++ [Value.slice wo X.length wc]⟩ : Hd).row 23) (show (23 : Nat) ≠ 46 by decide))
               have HO3 := hide (own_len (n' := a.L.hs.length + 1) (by simp [Hd.row, solo]) ((unhide HSK3).all ((⟨Value.slice (some ⟨g1, 0, none⟩) (a.L.hs.length + 1) cap1, a.L.hs ++ [Value.slice vo X.length vc]⟩ : Hd).row 23) (List.mem_of_getElem? (i := 4) rfl)).x)
               have HX3 : Hid (B ≤ _) := Nat.le_trans (unhide HB) (unhide HKE3).size)
            |
              (refine append_hdr 42 23 (by kernel_rfl) (.slice none 0 0) (by kernel_rfl) rfl rfl _ _ rfl B (Value.slice (some ⟨g1, 0, none⟩) (a.L.hs.length + 1) cap1) (a.L.hs.length + 1) (a.L.hs ++ [Value.slice vo X.length vc]) rfl (own_alloc (unhide HO3) _) _ 1 (Value.slice go (X.length + 64) gc) rfl (by first | exact cell_new_set | (rw [cell_of_blk (heap_alloc_new _ _)]; rfl)) rfl (by omega) (Nat.le_trans (unhide HX3) (by simp)) ?_
               intro g3 cap3 v3 HG3
               have H3 := hide (hdr_step' (by simp) (j := 0) (i := 4) (h := ⟨(Value.slice (some ⟨g1, 0, none⟩) (a.L.hs.length + 1) cap1), (a.L.hs ++ [Value.slice vo X.length vc])⟩) (unhide HSK3) (unhide HKI3) (unhide HBO3) (unhide HA).new (unhide HKE3) rfl (by decide) HG3)
               have c30 := cell_of_blk (unhide H3).2.2.2 0
               have c31 := cell_of_blk (unhide H3).2.2.2 1
               have e30 := frozen_of_blk (unhide H3).2.2.2 0
               have e31 := frozen_of_blk (unhide H3).2.2.2 1
               unfold BookA.cells at c30 c31
               simp at c30 c31
               have HSK4 := hide (unhide H3).1
               have HBO4 := hide (unhide H3).2.1
               have HKE4 := hide (unhide H3).2.2.1
               have HKI4 := hide (kinds_set (unhide HKI3) 4 ((⟨Value.slice (some ⟨g3, 0, none⟩) (a.L.hs.length + 1 + 1) cap3, a.L.hs ++ [Value.slice vo X.length vc] ++ [Value.slice go (X.length + 64) gc]⟩ : Hd).row 23) (show (23 : Nat) ≠ 46 by decide))
               have HO4 := hide (own_len (n' := a.W.hs.length + 1) (by simp [Hd.row, solo]) ((unhide HSK4).all ((⟨Value.slice (some ⟨g2, 0, none⟩) (a.W.hs.length + 1) cap2, a.W.hs ++ [Value.slice wo X.length wc]⟩ : Hd).row 23) (List.mem_of_getElem? (i := 5) rfl)).x)
               have HX4 : Hid (B ≤ _) := Nat.le_trans (unhide HB) (unhide HKE4).size)
            |
              (refine append_hdr 42 23 (by kernel_rfl) (.slice none 0 0) (by kernel_rfl) rfl rfl _ _ rfl B (Value.slice (some ⟨g2, 0, none⟩) (a.W.hs.length + 1) cap2) (a.W.hs.length + 1) (a.W.hs ++ [Value.slice wo X.length wc]) rfl (own_alloc (unhide HO4) _) _ 1 (Value.slice co (X.length + 64) cc) rfl (by first | exact cell_new_set | (rw [cell_of_blk (heap_alloc_new _ _)]; rfl)) rfl (by have := unhide HWL; omega) (Nat.le_trans (unhide HX4) (by simp)) ?_
               intro g4 cap4 v4 HG4
               have H4 := hide (hdr_step' (by simp) (j := 1) (i := 5) (h := ⟨(Value.slice (some ⟨g2, 0, none⟩) (a.W.hs.length + 1) cap2), (a.W.hs ++ [Value.slice wo X.length wc])⟩) (unhide HSK4) (unhide HKI4) (unhide HBO4) (unhide HA).new (unhide HKE4) rfl (by decide) HG4)
               have c40 := cell_of_blk (unhide H4).2.2.2 0
               have c41 := cell_of_blk (unhide H4).2.2.2 1
               have e40 := frozen_of_blk (unhide H4).2.2.2 0
               have e41 := frozen_of_blk (unhide H4).2.2.2 1
               unfold BookA.cells at c40 c41
               simp at c40 c41
))
          go_end0
          have hbox := (unhide H4).2.1
          have hsk := (unhide H4).1
          refine ⟨rfl, { a with N := a.N + 1, L := ⟨Value.slice (some ⟨g3, 0, none⟩) (a.L.hs.length + 1 + 1) cap3, a.L.hs ++ [Value.slice vo X.length vc] ++ [Value.slice go (X.length + 64) gc]⟩, W := ⟨Value.slice (some ⟨g4, 0, none⟩) (a.W.hs.length + 1 + 1) cap4, a.W.hs ++ [Value.slice wo X.length wc] ++ [Value.slice co (X.length + 64) cc]⟩ }, freshV X.length w.heap.size (Value.slice vo X.length vc) (Value.slice go (X.length + 64) gc) (Value.slice wo X.length wc) (Value.slice co (X.length + 64) cc) ⟨9, (a.N : Int) + 1, markT⟩, ⟨rfl, by simp, rfl, rfl, freshV_kind0⟩, ⟨hbox, (unhide HA).new, Sack.perm (L := freshV X.length w.heap.size (Value.slice vo X.length vc) (Value.slice go (X.length + 64) gc) (Value.slice wo X.length wc) (Value.slice co (X.length + 64) cc) ⟨9, (a.N : Int) + 1, markT⟩ ++ (BookA.rows ({ a with N := a.N + 1, L := ⟨Value.slice (some ⟨g3, 0, none⟩) (a.L.hs.length + 1 + 1) cap3, a.L.hs ++ [Value.slice vo X.length vc] ++ [Value.slice go (X.length + 64) gc]⟩, W := ⟨Value.slice (some ⟨g4, 0, none⟩) (a.W.hs.length + 1 + 1) cap4, a.W.hs ++ [Value.slice wo X.length wc] ++ [Value.slice co (X.length + 64) cc]⟩ } : BookA) ++ (E ++ its))) hsk fresh_perm, ?_, (unhide HA).pB.mono (fun p hp => List.mem_append_right _ hp), (unhide HA).pF.mono (fun p hp => List.mem_append_right _ hp)⟩, (unhide H4).2.2.1⟩
          exact ((unhide HA).pL.mono (fun p hp => List.mem_append_right _ hp)).snoc2 (freshV_same1 hn) (freshV_same2 hn)
end Go.Proofs.YtklkhegeeglfbaaGreatDoor
