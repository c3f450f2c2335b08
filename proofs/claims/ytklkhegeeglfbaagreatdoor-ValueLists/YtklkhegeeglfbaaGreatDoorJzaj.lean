import Derived.Test.YtklkhegeeglfbaaGreatDoorJzai
import Derived.Deep.RegionLaw
namespace Go.Proofs.YtklkhegeeglfbaaGreatDoor
open Go.RowKit Go.Maps

/-- Within a call that enters a list: the book, the rows that are laid ahead of it, and all else. -/
structure Mid (w wx : World) (B b : Nat) (a : BookA) (P R : List Rowp) : Prop where
  box : wx.heap[b]? = some (.cells a.cells 46 (0, 0))
  sack : Sack wx B (P ++ (a.rows ++ R))
  keeps : Keeps (fun q => B ≤ q) w wx
  kinds : ∀ p ∈ P ++ (a.rows ++ R), p.e ≠ 46
  new : B ≤ b
  base : B ≤ wx.heap.size
section
variable {w wx w' : World} {B b : Nat} {a : BookA} {P R : List Rowp}
theorem Mid.keepF (h : Mid w wx B b a P R) (hk : Keeps (fun _ => False) wx w') : Mid w w' B b a P R :=
  ⟨(hk.block b (lt_of_block h.box) id).trans h.box, h.sack.keepF hk, h.keeps.trans hk.any, h.kinds, h.new, Nat.le_trans h.base hk.size⟩
theorem Mid.newRow {e : TypeId} {z n : Nat} {v : Value} {X : List Value} (h : Mid w wx B b a P R) (hk : Keeps (fun _ => False) wx w') (ho : w'.ownsRow wx.heap.size e z v n X) (hz : 0 < z) (he : e ≠ 46) : Mid w w' B b a (solo e z n v X :: P) R :=
  ⟨(hk.block b (lt_of_block h.box) id).trans h.box, h.sack.new h.base hk (solo_at ho hz), h.keeps.trans hk.any, fun p hp => by
    rcases List.mem_cons.1 hp with rfl | hp
    · exact he
    · exact h.kinds p hp, h.new, Nat.le_trans h.base hk.size⟩
theorem Mid.row (h : Mid w wx B b a P R) {p : Rowp} (hp : p ∈ a.rows) : wx.ownsRow B p.e p.z p.vx p.n p.X := (h.sack.all p (List.mem_append_right _ (List.mem_append_left _ hp))).x
theorem Mid.ahead (h : Mid w wx B b a P R) {p : Rowp} (hp : p ∈ P) : p.at_ wx B := h.sack.all p (List.mem_append_left _ hp)
/-- The first row ahead is written over. -/
theorem Mid.put {e : TypeId} {z n : Nat} {v : Value} {X X' : List Value} (h : Mid w wx B b a (solo e z n v X :: P) R) (h' : w'.ownsRow B e z v n X') (hk : Keeps (fun q => v.ownBlock = some q) wx w') : Mid w w' B b a (solo e z n v X' :: P) R := by
  have ho := (h.ahead (List.mem_cons_self ..)).x
  have he : e ≠ 46 := h.kinds _ (List.mem_append_left _ (List.mem_cons_self ..))
  refine ⟨own_box ho h.box he hk, h.sack.put h' hk, h.keeps.trans (hk.mono (fun q _ e' => own_geO ho e')), fun p hp => ?_, h.new, Nat.le_trans h.base hk.size⟩
  rcases List.mem_cons.1 hp with rfl | hp
  · exact he
  · exact h.kinds p (List.mem_cons_of_mem _ hp)
/-- A row ahead grows. -/
theorem Mid.grow {e : TypeId} {z n k m g cap j : Nat} {vx vm : Value} {X Y Z : List Value} {o : Obj} (h : Mid w wx B b a P R) (hj : P[j]? = some ⟨e, z, n, vx, X, k, vm, Y⟩) (hG : GrewZ (wx.alloc o) w' B e z (n + k) m vm g cap (X ++ Y) Z) :
    Mid w w' B b a (P.set j ⟨e, z, n, vx, X, k + m, .slice (some ⟨g, 0, none⟩) (n + k + m) cap, Y ++ Z⟩) R := by
  have hka := (Keeps.refl (fun _ => False) wx).alloc o
  have h2 := h.keepF hka
  have hm := List.mem_of_getElem? hj
  have hg2 := (h2.ahead hm).m
  have he : e ≠ 46 := h.kinds _ (List.mem_append_left _ hm)
  have hlt := get_lt hj
  have hs3 := h2.sack.growAt (i := j) (by rw [List.getElem?_append_left hlt]; exact hj) hG
  rw [List.set_append_left _ _ hlt] at hs3
  refine ⟨own_box hg2 h2.box he hG.keeps, hs3, h2.keeps.trans (hG.keeps.mono (fun q _ e' => own_geO hg2 e')), fun p hp => ?_, h.new, Nat.le_trans h2.base hG.keeps.size⟩
  rcases List.mem_append.1 hp with hp | hp
  · rcases List.mem_or_eq_of_mem_set hp with hp | rfl
    · exact h.kinds p (List.mem_append_left _ hp)
    · exact he
  · exact h.kinds p (List.mem_append_right _ hp)
theorem at_behind {P Q : List Rowp} (i : Nat) : (P ++ Q)[P.length + i]? = Q[i]? := by
  rw [List.getElem?_append_right (by omega), Nat.add_sub_cancel_left]
theorem set_behind {P Q : List Rowp} (i : Nat) (x : Rowp) : (P ++ Q).set (P.length + i) x = P ++ Q.set i x := by
  rw [List.set_append_right _ _ (by omega), Nat.add_sub_cancel_left]
/-- A head more: L. -/
theorem Mid.pushL {g cap n : Nat} {o : Obj} {u : Value} (hn : a.L.hs.length = n) (h : Mid w wx B b a P R) (hG : GrewZ (wx.alloc o) w' B 23 1 n 1 a.L.v g cap a.L.hs [u]) :
    Mid w (w'.setCell ⟨b, 0, none⟩ (.slice (some ⟨g, 0, none⟩) (n + 1) cap)) B b { a with L := ⟨.slice (some ⟨g, 0, none⟩) (n + 1) cap, a.L.hs ++ [u]⟩ } P R ∧ w'.heap[b]? = some (.cells a.cells 46 (0, 0)) := by
  obtain ⟨h1, h2, h3, h4⟩ := hdr_step' hn (j := 0) (i := P.length + 0) (h := a.L) h.sack h.kinds h.box h.new h.keeps ((at_behind 0).trans rfl) (show (23 : Nat) ≠ 46 by decide) hG
  have hk := kinds_set h.kinds (P.length + 0) ((⟨.slice (some ⟨g, 0, none⟩) (n + 1) cap, a.L.hs ++ [u]⟩ : Hd).row 23) (show (23 : Nat) ≠ 46 by decide)
  rw [set_behind] at h1 hk
  exact ⟨⟨h2, h1, h3, hk, h.new, Nat.le_trans h.base (Nat.le_trans ((Keeps.refl (fun _ => False) wx).alloc o).size (Nat.le_trans hG.keeps.size (by simp)))⟩, h4⟩
/-- A head more: W. -/
theorem Mid.pushW {g cap n : Nat} {o : Obj} {u : Value} (hn : a.W.hs.length = n) (h : Mid w wx B b a P R) (hG : GrewZ (wx.alloc o) w' B 23 1 n 1 a.W.v g cap a.W.hs [u]) :
    Mid w (w'.setCell ⟨b, 1, none⟩ (.slice (some ⟨g, 0, none⟩) (n + 1) cap)) B b { a with W := ⟨.slice (some ⟨g, 0, none⟩) (n + 1) cap, a.W.hs ++ [u]⟩ } P R ∧ w'.heap[b]? = some (.cells a.cells 46 (0, 0)) := by
  obtain ⟨h1, h2, h3, h4⟩ := hdr_step' hn (j := 1) (i := P.length + 1) (h := a.W) h.sack h.kinds h.box h.new h.keeps ((at_behind 1).trans rfl) (show (23 : Nat) ≠ 46 by decide) hG
  have hk := kinds_set h.kinds (P.length + 1) ((⟨.slice (some ⟨g, 0, none⟩) (n + 1) cap, a.W.hs ++ [u]⟩ : Hd).row 23) (show (23 : Nat) ≠ 46 by decide)
  rw [set_behind] at h1 hk
  exact ⟨⟨h2, h1, h3, hk, h.new, Nat.le_trans h.base (Nat.le_trans ((Keeps.refl (fun _ => False) wx).alloc o).size (Nat.le_trans hG.keeps.size (by simp)))⟩, h4⟩
/-- A head more: B. -/
theorem Mid.pushB {g cap n : Nat} {o : Obj} {u : Value} (hn : a.B.hs.length = n) (h : Mid w wx B b a P R) (hG : GrewZ (wx.alloc o) w' B 30 1 n 1 a.B.v g cap a.B.hs [u]) :
    Mid w (w'.setCell ⟨b, 2, none⟩ (.slice (some ⟨g, 0, none⟩) (n + 1) cap)) B b { a with B := ⟨.slice (some ⟨g, 0, none⟩) (n + 1) cap, a.B.hs ++ [u]⟩ } P R ∧ w'.heap[b]? = some (.cells a.cells 46 (0, 0)) := by
  obtain ⟨h1, h2, h3, h4⟩ := hdr_step' hn (j := 2) (i := P.length + 2) (h := a.B) h.sack h.kinds h.box h.new h.keeps ((at_behind 2).trans rfl) (show (30 : Nat) ≠ 46 by decide) hG
  have hk := kinds_set h.kinds (P.length + 2) ((⟨.slice (some ⟨g, 0, none⟩) (n + 1) cap, a.B.hs ++ [u]⟩ : Hd).row 30) (show (30 : Nat) ≠ 46 by decide)
  rw [set_behind] at h1 hk
  exact ⟨⟨h2, h1, h3, hk, h.new, Nat.le_trans h.base (Nat.le_trans ((Keeps.refl (fun _ => False) wx).alloc o).size (Nat.le_trans hG.keeps.size (by simp)))⟩, h4⟩
/-- A head more: V. -/
theorem Mid.pushV {g cap n : Nat} {o : Obj} {u : Value} (hn : a.V.hs.length = n) (h : Mid w wx B b a P R) (hG : GrewZ (wx.alloc o) w' B 30 1 n 1 a.V.v g cap a.V.hs [u]) :
    Mid w (w'.setCell ⟨b, 3, none⟩ (.slice (some ⟨g, 0, none⟩) (n + 1) cap)) B b { a with V := ⟨.slice (some ⟨g, 0, none⟩) (n + 1) cap, a.V.hs ++ [u]⟩ } P R ∧ w'.heap[b]? = some (.cells a.cells 46 (0, 0)) := by
  obtain ⟨h1, h2, h3, h4⟩ := hdr_step' hn (j := 3) (i := P.length + 3) (h := a.V) h.sack h.kinds h.box h.new h.keeps ((at_behind 3).trans rfl) (show (30 : Nat) ≠ 46 by decide) hG
  have hk := kinds_set h.kinds (P.length + 3) ((⟨.slice (some ⟨g, 0, none⟩) (n + 1) cap, a.V.hs ++ [u]⟩ : Hd).row 30) (show (30 : Nat) ≠ 46 by decide)
  rw [set_behind] at h1 hk
  exact ⟨⟨h2, h1, h3, hk, h.new, Nat.le_trans h.base (Nat.le_trans ((Keeps.refl (fun _ => False) wx).alloc o).size (Nat.le_trans hG.keeps.size (by simp)))⟩, h4⟩
/-- A head more: F. -/
theorem Mid.pushF {g cap n : Nat} {o : Obj} {u : Value} (hn : a.F.hs.length = n) (h : Mid w wx B b a P R) (hG : GrewZ (wx.alloc o) w' B 26 1 n 1 a.F.v g cap a.F.hs [u]) :
    Mid w (w'.setCell ⟨b, 4, none⟩ (.slice (some ⟨g, 0, none⟩) (n + 1) cap)) B b { a with F := ⟨.slice (some ⟨g, 0, none⟩) (n + 1) cap, a.F.hs ++ [u]⟩ } P R ∧ w'.heap[b]? = some (.cells a.cells 46 (0, 0)) := by
  obtain ⟨h1, h2, h3, h4⟩ := hdr_step' hn (j := 4) (i := P.length + 4) (h := a.F) h.sack h.kinds h.box h.new h.keeps ((at_behind 4).trans rfl) (show (26 : Nat) ≠ 46 by decide) hG
  have hk := kinds_set h.kinds (P.length + 4) ((⟨.slice (some ⟨g, 0, none⟩) (n + 1) cap, a.F.hs ++ [u]⟩ : Hd).row 26) (show (26 : Nat) ≠ 46 by decide)
  rw [set_behind] at h1 hk
  exact ⟨⟨h2, h1, h3, hk, h.new, Nat.le_trans h.base (Nat.le_trans ((Keeps.refl (fun _ => False) wx).alloc o).size (Nat.le_trans hG.keeps.size (by simp)))⟩, h4⟩
/-- A head more: G. -/
theorem Mid.pushG {g cap n : Nat} {o : Obj} {u : Value} (hn : a.G.hs.length = n) (h : Mid w wx B b a P R) (hG : GrewZ (wx.alloc o) w' B 26 1 n 1 a.G.v g cap a.G.hs [u]) :
    Mid w (w'.setCell ⟨b, 5, none⟩ (.slice (some ⟨g, 0, none⟩) (n + 1) cap)) B b { a with G := ⟨.slice (some ⟨g, 0, none⟩) (n + 1) cap, a.G.hs ++ [u]⟩ } P R ∧ w'.heap[b]? = some (.cells a.cells 46 (0, 0)) := by
  obtain ⟨h1, h2, h3, h4⟩ := hdr_step' hn (j := 5) (i := P.length + 5) (h := a.G) h.sack h.kinds h.box h.new h.keeps ((at_behind 5).trans rfl) (show (26 : Nat) ≠ 46 by decide) hG
  have hk := kinds_set h.kinds (P.length + 5) ((⟨.slice (some ⟨g, 0, none⟩) (n + 1) cap, a.G.hs ++ [u]⟩ : Hd).row 26) (show (26 : Nat) ≠ 46 by decide)
  rw [set_behind] at h1 hk
  exact ⟨⟨h2, h1, h3, hk, h.new, Nat.le_trans h.base (Nat.le_trans ((Keeps.refl (fun _ => False) wx).alloc o).size (Nat.le_trans hG.keeps.size (by simp)))⟩, h4⟩
end
theorem Mid.start {w : World} {B b : Nat} {a : BookA} {e : TypeId} {z n : Nat} {v : Value} {X : List Value} {E its : List Rowp} (hA : BookAt w B b a (solo e z n v X :: E) its) (hk : ∀ p ∈ E ++ its, p.e ≠ 46) (he : e ≠ 46) (hB : B ≤ w.heap.size) :
    Mid w (w.setCell ⟨b, 6, none⟩ (.int .i64 ((a.N : Int) + 1))) B b { a with N := a.N + 1 } [solo e z n v X] (E ++ its) := by
  have hk1 := keeps_set w b 6 (.int .i64 ((a.N : Int) + 1))
  have hb1 := heap_setCell_at (o := 6) hA.box (.int .i64 ((a.N : Int) + 1))
  have hkk : ∀ p ∈ a.rows ++ (solo e z n v X :: E ++ its), p.e ≠ 46 := fun p hp => by
    rcases List.mem_append.1 hp with hp | hp
    · exact rows_kind a p hp
    · rcases List.mem_cons.1 hp with rfl | hp
      · exact he
      · exact hk p hp
  have hs1 := hA.sack.book hA.box hkk hk1
  have hp : (a.rows ++ (solo e z n v X :: E ++ its)).Perm ([solo e z n v X] ++ (a.rows ++ (E ++ its))) := List.perm_middle
  exact ⟨hb1, hs1.perm hp, hk1.mono (fun q _ e => by rw [e]; exact hA.new), fun p hq => hkk p (hp.mem_iff.2 hq), hA.new, Nat.le_trans hB (by simp)⟩
theorem Mid.done {w wx : World} {B b : Nat} {a : BookA} {P E its : List Rowp} (h : Mid w wx B b a P (E ++ its)) (pL : PairsZ kV (P ++ its) a.L.hs a.W.hs) (pB : PairsZ kB (P ++ its) a.B.hs a.V.hs) (pF : PairsZ kF (P ++ its) a.F.hs a.G.hs) : BookAt wx B b a E (P ++ its) :=
  ⟨h.box, h.new, h.sack.perm fresh_perm, pL, pB, pF⟩
/-- Of a list that was written over, grown, and copied both times: what its heads tell. -/
theorem same_first {K : Kind} {its : List Rowp} {n k : Nat} {v cv : Value} {vm : Value} {Y : List Value} {l : List K.α} (hl : l.length = n) (hb : n ≤ 1073741824) (h1 : (⟨K.e, K.z, n, v, K.C l, k, vm, Y⟩ : Rowp) ∈ its) (h2 : solo K.e K.z n cv (K.C l) ∈ its) : SameZ K its v cv :=
  ⟨l, by omega, ⟨_, h1, rfl, rfl, Or.inl ⟨rfl, hl.symm, rfl⟩⟩, ⟨_, h2, rfl, rfl, Or.inl ⟨rfl, hl.symm, rfl⟩⟩⟩
theorem same_grown {K : Kind} {its : List Rowp} {n k : Nat} {v cv : Value} {vm : Value} {l r : List K.α} (hl : l.length = n) (hr : r.length = k) (hb : n + k ≤ 1073741824) (h1 : (⟨K.e, K.z, n, v, K.C l, k, vm, K.C r⟩ : Rowp) ∈ its) (h2 : solo K.e K.z (n + k) cv (K.C (l ++ r)) ∈ its) : SameZ K its vm cv :=
  ⟨l ++ r, by rw [List.length_append]; omega, ⟨_, h1, rfl, rfl, Or.inr ⟨rfl, by rw [List.length_append, hl, hr], (K.app l r).symm⟩⟩, ⟨_, h2, rfl, rfl, Or.inl ⟨rfl, by rw [List.length_append, hl, hr]; rfl, rfl⟩⟩⟩
end Go.Proofs.YtklkhegeeglfbaaGreatDoor
namespace Go.Proofs.YtklkhegeeglfbaaGreatDoor
open Go.RowKit Go.Maps

/-- append at a step of a region that draws its order: the row grew where it lay, or lies anew. -/
theorem step_append_two {P : Program} (w : World) {ops : Array Oper} {o : Oper} {a : Act} {K : Act → World → Prop} {Q : Exit → Act → World → Prop} {E : Prop} (hgd : o.guard = none) (s x : Operand) (t : TypeId)
    (ho : o.op = .call { callee := .builtin .append, args := #[s, x], argTypes := #[t, t] })
    (base : Nat) (e : TypeId) (i : TypeInfo) (z : Value) (size bytes : Nat) (ht : P.underlying t = some (.slice e)) (hi : P.info? e = some i) (hz : i.zero = some z)
    (hsize : i.size = size) (hby : i.bytes = bytes) (hzs : z.cells.size = size) (hsz : 0 < size)
    (v : Value) (n : Nat) (xs : List Value) (hs : a.eval s = v) (hown : w.ownsRow base e size v n xs)
    (ad : Addr) (m c : Nat) (news : List Value) (hx : a.eval x = .slice (some ad) m c) (hl : news.length = m * size) (hnews : ∀ j u, news[j]? = some u → w.cell? (ad.add j) = some u) (h1 : ∀ u ∈ news, u.oneCell' = true)
    (hm : 0 < m) (h63 : n + m ≤ maxLen) (hbytes : (n + m) * bytes ≤ 140737488355328) (hbase : base ≤ w.heap.size)
    (h : ∀ g cap w', w'.ownsRow base e size (.slice (some ⟨g, 0, none⟩) (n + m) cap) (n + m) (xs ++ news) → ((v = .slice (some ⟨g, 0, none⟩) n cap ∧ w.grownBy w' (some g)) ∨ (w.heap.size ≤ g ∧ w.grownBy w' none)) → K (a.put o.dst (.slice (some ⟨g, 0, none⟩) (n + m) cap)) w') :
    if Region.wanted o (yielded ops a.tmps) = true then Oper.wp P o a w K Q else E := by
  have hw : Region.wanted o (yielded ops a.tmps) = true := by simp [Region.wanted, hgd]
  rw [if_pos hw]
  have grows : ∀ v' w', w'.ownsRow w.heap.size e size v' (n + m) (xs ++ news) → w.grownBy w' none → K (a.put o.dst v') w' := by
    intro v' w' h2 h3
    obtain ⟨g, cap, rfl, hg, hlt⟩ := h2.form (by omega)
    exact h g cap w' (ownsRow_low h2 hbase) (Or.inr ⟨hg, h3⟩)
  rcases hown.2 with ⟨rfl, rfl⟩ | ⟨g, cap, cur, rfl, hbg, hg, hnc, hcm, hcs, htake⟩
  · have hx0 : xs = [] := List.eq_nil_of_length_eq_zero (by simpa using hown.1)
    subst hx0
    obtain ⟨v', w', hrun, r1, r2, _⟩ := run_append_own (P := P) w w.heap.size t o.type e i z size bytes ht hi hz hsize hby hzs hsz (.slice none 0 0) 0 [] (World.ownsRow_nil w _ e size) ad m c news hl hnews h1 h63 hbytes (Nat.le_refl _)
    unfold Oper.wp
    simp [execOp, ho, resolve, invoke, builtin, hs, hx, hrun, Result.andThen]
    exact grows v' w' r1 r2
  · by_cases hroom : n + m ≤ cap
    · exact wp_append_own_spare w s x t ho base e i size ht hi hsize g n cap xs hs hown ad m c news hx hl hnews h1 hroom (fun w' h2 h3 => h g cap w' h2 (Or.inl ⟨rfl, h3⟩))
    · obtain ⟨v', w', hrun, r1, r2⟩ := run_append_arg_grows (P := P) w t o.type e i z size bytes ht hi hz hsize hby hzs hsz ⟨g, 0, none⟩ n cap xs hown.1 (fun j u hu => by
        have hadd : (⟨g, 0, none⟩ : Addr).add j = ⟨g, j, none⟩ := by unfold Addr.add; split <;> simp_all
        rw [hadd, cell_of_row w g j cur e (0, 0) hg]
        rw [← htake] at hu
        rw [List.getElem?_take] at hu
        split at hu
        · simpa using hu
        · cases hu) ad m c news hl hnews (by omega) h63 hbytes
      unfold Oper.wp
      simp [execOp, ho, resolve, invoke, builtin, hs, hx, hrun, Result.andThen]
      exact grows v' w' r1 r2
/-- A head appended to a row of heads, at such a step. -/
theorem step_append_hdr {w : World} {ops : Array Oper} {o : Oper} {a : Act} {K : Act → World → Prop} {Q : Exit → Act → World → Prop} {E : Prop} (t e : TypeId) (ht : Tryz.prog.underlying t = some (.slice e)) (z0 : Value) (hinfo : (Tryz.prog.info? e).map (fun i => (i.zero, i.size, i.bytes)) = some (some z0, 1, 24)) (hz : z0.cells.size = 1) (hgd : o.guard = none) (s x : Operand)
    (ho : o.op = .call { callee := .builtin .append, args := #[s, x], argTypes := #[t, t] }) (base : Nat) (v : Value) (n : Nat) (xs : List Value) (hs : a.eval s = v) (hown : w.ownsRow base e 1 v n xs)
    (ad c : Nat) (u : Value) (hx : a.eval x = .slice (some ⟨ad, 0, none⟩) 1 c) (hx2 : w.cell? ⟨ad, 0, none⟩ = some u) (h1 : u.oneCell' = true) (hl : n + 1 ≤ 4398046511104) (hbase : base ≤ w.heap.size)
    (h : ∀ g cap w', GrewZ w w' base e 1 n 1 v g cap xs [u] → K (a.put o.dst (.slice (some ⟨g, 0, none⟩) (n + 1) cap)) w') :
    if Region.wanted o (yielded ops a.tmps) = true then Oper.wp Tryz.prog o a w K Q else E := by
  obtain ⟨i, hi, hz0, hz1, hz2⟩ := info_parts hinfo
  refine step_append_two (P := Tryz.prog) w hgd s x t ho base e i _ 1 24 ht hi hz0 hz1 hz2 hz (by omega) v n xs hs hown _ 1 c [u] hx rfl (fun j u' hj => ?_) (fun u' hu => ?_) (by omega) (by unfold maxLen; omega) (by omega) hbase (fun g cap w' h1 h2 => h g cap w' ⟨h1, h2⟩)
  · cases j with
    | zero => simp at hj; subst hj; simpa [Addr.add] using hx2
    | succ j => simp at hj
  · simp at hu; subst hu; exact h1
end Go.Proofs.YtklkhegeeglfbaaGreatDoor
