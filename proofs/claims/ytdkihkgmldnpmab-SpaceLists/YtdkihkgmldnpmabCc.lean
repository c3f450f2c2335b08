import Derived.Test.YtdkihkgmldnpmabCb
namespace Go.Proofs.Ytdkihkgmldnpmab
open Go.RowKit Go.Maps

/-- The lists ahead of i are marked whole, of list i the first j cells. -/
def mk (M : Nat → Int) (c : Nat → List Int) (i j q : Nat) : List Int := if q < i then List.replicate (c q).length (M q) else if q = i then List.replicate j (M q) ++ (c q).drop j else c q
theorem mk_zero (M : Nat → Int) (c : Nat → List Int) : mk M c 0 0 = c := by
  funext q
  unfold mk
  rw [if_neg (by omega)]
  split <;> simp
theorem mk_next (M : Nat → Int) (c : Nat → List Int) (i : Nat) : mk M c i (c i).length = mk M c (i + 1) 0 := by
  funext q
  unfold mk
  by_cases h : q < i
  · rw [if_pos h, if_pos (by omega)]
  · rw [if_neg h]
    by_cases h2 : q = i
    · subst h2; rw [if_pos rfl, if_pos (by omega)]; simp
    · rw [if_neg h2, if_neg (by omega)]
      split <;> simp
theorem mk_at (M : Nat → Int) (c : Nat → List Int) (i j : Nat) : mk M c i j i = List.replicate j (M i) ++ (c i).drop j := by
  unfold mk
  rw [if_neg (by omega), if_pos rfl]
theorem mk_oth (M : Nat → Int) (c : Nat → List Int) (i j : Nat) {q : Nat} (h : q ≠ i) : mk M c i (j + 1) q = mk M c i j q := by
  unfold mk
  rw [if_neg h, if_neg h]
theorem mk_done (M : Nat → Int) (c : Nat → List Int) {i j q : Nat} (h : q < i) : mk M c i j q = List.replicate (c q).length (M q) := by
  unfold mk
  rw [if_pos h]
theorem mk_len (M : Nat → Int) (c : Nat → List Int) {i j : Nat} (h : j ≤ (c i).length) (q : Nat) : (mk M c i j q).length = (c q).length := by
  unfold mk
  split
  · simp
  · split
    · rename_i h2; subst h2; simp; omega
    · rfl

section
variable {w w' : World} {B : Nat} {k : Kp} {cl cb : Nat → List Int}
theorem KeptAt.ne35 (h : KeptAt w B k cl cb) {x : Nat} (h1 : inL k.ll x) : ¬ inL k.bl x := fun h2 => by
  obtain ⟨_, c, e1⟩ := h.sl.at h1
  obtain ⟨_, c', e2⟩ := h.sb.at h2
  exact blk_ne e1 e2 (by decide) rfl
theorem KeptAt.setL (h : KeptAt w B k cl cb) {i g n cap j : Nat} (hp : k.ll[i]? = some (.slice (some ⟨g, 0, none⟩) n cap)) {u : Value} {cl' : Nat → List Int} (hoth : ∀ q, q ≠ i → cl' q = cl q) (hlen : (cl' i).length = (cl i).length) (hset : is (cl' i) = (is (cl i)).set j u) :
    KeptAt (w.setCell ⟨g, j, none⟩ u) B k cl' cb := by
  have hin : inL k.ll g := ⟨i, _, hp, rfl⟩
  have hk := kD w g j u
  have ho : ∀ x, k.own x → x ≠ g := fun x hx e => h.F_own (Or.inl hin) (e ▸ hx)
  exact ⟨(hk.block _ (lt_of_block h.blk) (ho _ (Or.inl rfl))).trans h.blk, h.lo, ownsRow_kept h.rl hk (fun x e => ho x (Or.inr (Or.inl e))), ownsRow_kept h.rb hk (fun x e => ho x (Or.inr (Or.inr e))), h.nlb, h.most, h.sl.set hp hoth hlen hset, h.sb.keep hk (fun x hx e => h.ne35 hin (e ▸ hx))⟩
theorem KeptAt.setB (h : KeptAt w B k cl cb) {i g n cap j : Nat} (hp : k.bl[i]? = some (.slice (some ⟨g, 0, none⟩) n cap)) {u : Value} {cb' : Nat → List Int} (hoth : ∀ q, q ≠ i → cb' q = cb q) (hlen : (cb' i).length = (cb i).length) (hset : bs (cb' i) = (bs (cb i)).set j u) :
    KeptAt (w.setCell ⟨g, j, none⟩ u) B k cl cb' := by
  have hin : inL k.bl g := ⟨i, _, hp, rfl⟩
  have hk := kD w g j u
  have ho : ∀ x, k.own x → x ≠ g := fun x hx e => h.F_own (Or.inr hin) (e ▸ hx)
  exact ⟨(hk.block _ (lt_of_block h.blk) (ho _ (Or.inl rfl))).trans h.blk, h.lo, ownsRow_kept h.rl hk (fun x e => ho x (Or.inr (Or.inl e))), ownsRow_kept h.rb hk (fun x e => ho x (Or.inr (Or.inr e))), h.nlb, h.most, h.sl.keep hk (fun x hx e => h.ne35 (e ▸ hx) hin), h.sb.set hp hoth hlen hset⟩
end

theorem KeptAt.read {w w' : World} {B : Nat} {k : Kp} {cl cb : Nat → List Int} (h : KeptAt w B k cl cb) (hk : Keeps k.F w w') : w'.heap[k.K]? = some (.cells #[k.lv, k.bv] 59 (0, 0)) ∧ w'.ownsRow B 51 1 k.lv k.ll.length k.ll ∧ w'.ownsRow B 37 1 k.bv k.bl.length k.bl :=
  ⟨(hk.block _ (lt_of_block h.blk) (fun hF => h.F_own hF (Or.inl rfl))).trans h.blk, ownsRow_kept h.rl hk (fun _ e hF => h.F_own hF (Or.inr (Or.inl e))), ownsRow_kept h.rb hk (fun _ e hF => h.F_own hF (Or.inr (Or.inr e)))⟩

/-- One list is grown by j cells. -/
structure OneG (wi wx : World) (B : Nat) (e : TypeId) (f : List Int → List Value) (p g : Value) (n j : Nat) (M M2 : Int) : Prop where
  row : wx.ownsRow B e 1 g (n + j) (f (List.replicate n M ++ List.replicate j M2))
  blk : ∀ x, g.ownBlock = some x → p.ownBlock = some x ∨ wi.heap.size ≤ x
  rd : Cells wx p (f (List.replicate n M))
  ty : ∀ x, p.ownBlock = some x → ∃ c, wx.heap[x]? = some (.cells c e (0, 0))

section
variable {wi wx wy : World} {B : Nat} {e : TypeId} {f : List Int → List Value} {p g : Value} {n j : Nat} {M M2 : Int}
theorem OneG.start (hp : wi.ownsRow B e 1 p n (f (List.replicate n M))) (hf : (f (List.replicate n M)).length = n) : OneG wi wi B e f p p n 0 M M2 :=
  ⟨by simpa using hp, fun _ h => Or.inl h, cells_row hp hf, fun x hx => (rowBlock hp hx).2⟩
theorem OneG.keep (h : OneG wi wx B e f p g n j M M2) {G : Nat → Prop} (hk : Keeps G wx wy) (hG : ∀ x c, wx.heap[x]? = some (.cells c e (0, 0)) → ¬ G x) : OneG wi wy B e f p g n j M M2 := by
  refine ⟨ownsRow_kept h.row hk (fun x hx => ?_), h.blk, h.rd.kept hk (fun x hx => ?_), fun x hx => ?_⟩
  · obtain ⟨_, c, h1⟩ := rowBlock h.row hx; exact hG x c h1
  · obtain ⟨c, h1⟩ := h.ty x hx; exact hG x c h1
  · obtain ⟨c, h1⟩ := h.ty x hx; exact ⟨c, (hk.block x (lt_of_block h1) (hG x c h1)).trans h1⟩
theorem OneG.grow (h : OneG wi wx B e f p g n j M M2) (hf : ∀ a b, f (a ++ b) = f a ++ f b) {u : Value} (hu : f [M2] = [u]) (hp : ∃ ao cap, p = .slice ao n cap ∧ ∀ a, ao = some a → a.off = 0 ∧ a.spot = none) {o : Obj} {g' cap' : Nat}
    (hown : wy.ownsRow B e 1 (.slice (some ⟨g', 0, none⟩) (n + j + 1) cap') (n + j + 1) (f (List.replicate n M ++ List.replicate j M2) ++ [u]))
    (hcase : (g.ownBlock = some g' ∧ (wx.alloc o).grownBy wy (some g')) ∨ (wx.heap.size + 1 ≤ g' ∧ (wx.alloc o).grownBy wy none)) (hsz : wi.heap.size ≤ wx.heap.size) :
    OneG wi wy B e f p (.slice (some ⟨g', 0, none⟩) (n + j + 1) cap') n (j + 1) M M2 ∧ Keeps (fun x => g.ownBlock = some x) wx wy := by
  have hgr : ∃ row, (wx.alloc o).grownBy wy row ∧ ∀ q, row = some q → q = g' ∧ g.ownBlock = some q := by
    rcases hcase with ⟨h1, h2⟩ | ⟨h1, h2⟩
    · exact ⟨_, h2, fun q e => by cases e; exact ⟨rfl, h1⟩⟩
    · exact ⟨_, h2, fun q e => by cases e⟩
  obtain ⟨row, hgr, hrow⟩ := hgr
  have hx : f (List.replicate n M ++ List.replicate j M2) ++ [u] = f (List.replicate n M ++ List.replicate (j + 1) M2) := by
    rw [List.replicate_succ', ← List.append_assoc, hf (List.replicate n M ++ List.replicate j M2), hu]
  have hx2 : f (List.replicate n M ++ List.replicate j M2) ++ [u] = f (List.replicate n M) ++ (f (List.replicate j M2) ++ [u]) := by
    rw [hf, List.append_assoc]
  have hk : Keeps (fun x => g.ownBlock = some x) wx wy := ((Keeps.refl _ wx).alloc o).grown hgr (fun q e _ => (hrow q e).2)
  refine ⟨⟨?_, ?_, ?_, ?_⟩, hk⟩
  · rw [← hx]; exact hown
  · intro x hx
    simp [Value.ownBlock] at hx
    subst hx
    rcases hcase with ⟨h1, _⟩ | ⟨h1, _⟩
    · exact h.blk _ h1
    · right; omega
  · obtain ⟨ao, cap, rfl, ha⟩ := hp
    refine cells_grown (more := f (List.replicate j M2) ++ [u]) (k := n + j + 1) (g' := g') (cap' := cap') (B := B) (e := e) (h.rd.keepF ((Keeps.refl _ wx).alloc o)) (fun a e => ⟨(ha a e).1, ?_⟩) (by rw [← hx2]; exact hown) hgr (fun q e => (hrow q e).1)
    subst e
    obtain ⟨c, hc⟩ := h.ty a.block rfl
    have := lt_of_block hc
    simp; omega
  · intro x hx
    by_cases e' : x = g'
    · subst e'; exact (rowBlock hown rfl).2
    · obtain ⟨c, hc⟩ := h.ty x hx
      refine ⟨c, ?_⟩
      rw [hgr.block x (by have := lt_of_block hc; simp; omega) (fun e'' => e' (hrow x e''.symm).1), Below.heap_alloc _ _ _ (lt_of_block hc)]
      exact hc
end

/-- One side of what is kept while it is grown: the lists ahead of i are grown. -/
structure Half (w : World) (B H : Nat) (e : TypeId) (f : List Int → List Value) (ll gl : List Value) (n : Nat → Nat) (M M2 : Nat → Int) : Prop where
  rest : ∀ (q : Nat) (p : Value), gl.length ≤ q → ll[q]? = some p → w.ownsRow B e 1 p (n q) (f (List.replicate (n q) (M q)))
  done : ∀ (q : Nat) (p g : Value), ll[q]? = some p → gl[q]? = some g → Cells w p (f (List.replicate (n q) (M q))) ∧ Cells w g (f (List.replicate (n q) (M q) ++ List.replicate 64 (M2 q)))
  typ : ∀ (q : Nat) (p : Value), ll[q]? = some p → ∀ x, p.ownBlock = some x → x < H ∧ ∃ c, w.heap[x]? = some (.cells c e (0, 0))
  gty : ∀ (q : Nat) (p g : Value), ll[q]? = some p → gl[q]? = some g → ∀ x, g.ownBlock = some x → (p.ownBlock = some x ∨ H ≤ x) ∧ ∃ c, w.heap[x]? = some (.cells c e (0, 0))
  ap : ∀ (i j : Nat) (p q : Value), i ≠ j → ll[i]? = some p → ll[j]? = some q → ∀ x, p.ownBlock = some x → q.ownBlock ≠ some x

section
variable {w w' : World} {B H : Nat} {e : TypeId} {f : List Int → List Value} {ll gl : List Value} {n : Nat → Nat} {M M2 : Nat → Int}
theorem Half.start {c : Nat → List Int} (h : Side w B e f ll c) (hc : ∀ (q : Nat), q < ll.length → c q = List.replicate (n q) (M q)) (hH : H = w.heap.size) : Half w B H e f ll [] n M M2 := by
  have hrow : ∀ (q : Nat) (p : Value), ll[q]? = some p → w.ownsRow B e 1 p (n q) (f (List.replicate (n q) (M q))) := fun q p hp => by
    have h1 := h.row q p hp
    rw [hc q (List.getElem?_eq_some_iff.1 hp).1] at h1
    simpa using h1
  refine ⟨fun q p _ hp => hrow q p hp, fun q p g _ hg => by simp at hg, fun q p hp x hx => ?_, fun q p g _ hg => by simp at hg, h.ap⟩
  obtain ⟨_, c', h1⟩ := rowBlock (hrow q p hp) hx
  exact ⟨by rw [hH]; exact lt_of_block h1, c', h1⟩
theorem Half.keep (h : Half w B H e f ll gl n M M2) {G : Nat → Prop} (hk : Keeps G w w') (hG : ∀ x c, w.heap[x]? = some (.cells c e (0, 0)) → ¬ G x) : Half w' B H e f ll gl n M M2 := by
  have hb : ∀ (x : Nat) (c : Array Value), w.heap[x]? = some (.cells c e (0, 0)) → w'.heap[x]? = some (.cells c e (0, 0)) := fun x c h1 => (hk.block x (lt_of_block h1) (hG x c h1)).trans h1
  refine ⟨fun q p hq hp => ownsRow_kept (h.rest q p hq hp) hk (fun x hx => ?_), fun q p g hp hg => ?_, fun q p hp x hx => ?_, fun q p g hp hg x hx => ?_, h.ap⟩
  · obtain ⟨_, c, h1⟩ := h.typ q p hp x hx; exact hG x c h1
  · obtain ⟨h1, h2⟩ := h.done q p g hp hg
    refine ⟨h1.kept hk (fun x hx => ?_), h2.kept hk (fun x hx => ?_)⟩
    · obtain ⟨_, c, h1⟩ := h.typ q p hp x hx; exact hG x c h1
    · obtain ⟨_, c, h1⟩ := h.gty q p g hp hg x hx; exact hG x c h1
  · obtain ⟨h1, c, h2⟩ := h.typ q p hp x hx; exact ⟨h1, c, hb x c h2⟩
  · obtain ⟨h1, c, h2⟩ := h.gty q p g hp hg x hx; exact ⟨h1, c, hb x c h2⟩
/-- The next list was grown. -/
theorem Half.next (h : Half w B H e f ll gl n M M2) {p g : Value} (hp : ll[gl.length]? = some p) {P : Nat → Prop} (hk : Keeps (fun x => p.ownBlock = some x ∨ P x) w w') (hP : ∀ x c, w.heap[x]? = some (.cells c e (0, 0)) → ¬ P x)
    (hg : OneG w w' B e f p g (n gl.length) 64 (M gl.length) (M2 gl.length)) (hgf : (f (List.replicate (n gl.length) (M gl.length) ++ List.replicate 64 (M2 gl.length))).length = n gl.length + 64) (hH : H ≤ w.heap.size) : Half w' B H e f ll (gl ++ [g]) n M M2 := by
  have far : ∀ (q : Nat) (r : Value), q ≠ gl.length → ll[q]? = some r → ∀ x, r.ownBlock = some x → ¬ (p.ownBlock = some x ∨ P x) := fun q r hq hr x hx h' => by
    rcases h' with h' | h'
    · exact h.ap q gl.length r p hq hr hp x hx h'
    · obtain ⟨_, c, h1⟩ := h.typ q r hr x hx; exact hP x c h1 h'
  have farg : ∀ (q : Nat) (r s : Value), q ≠ gl.length → ll[q]? = some r → gl[q]? = some s → ∀ x, s.ownBlock = some x → ¬ (p.ownBlock = some x ∨ P x) := fun q r s hq hr hs x hx h' => by
    obtain ⟨h2, c, h1⟩ := h.gty q r s hr hs x hx
    rcases h' with h' | h'
    · rcases h2 with h2 | h2
      · exact h.ap q gl.length r p hq hr hp x h2 h'
      · have := (h.typ gl.length p hp x h').1; omega
    · exact hP x c h1 h'
  have key : ∀ (i : Nat) (q : Value), (gl ++ [g])[i]? = some q → (i < gl.length ∧ gl[i]? = some q) ∨ (i = gl.length ∧ q = g) := by
    intro i q hq
    by_cases hi : i < gl.length
    · rw [List.getElem?_append_left hi] at hq; exact Or.inl ⟨hi, hq⟩
    · rw [List.getElem?_append_right (by omega)] at hq
      obtain ⟨j, hj⟩ : ∃ j, j = i - gl.length := ⟨_, rfl⟩
      rw [← hj] at hq
      rcases j with _ | j
      · simp at hq; exact Or.inr ⟨by omega, hq.symm⟩
      · simp at hq
  refine ⟨fun q r hq hr => ?_, fun q r s hr hs => ?_, fun q r hr x hx => ?_, fun q r s hr hs x hx => ?_, h.ap⟩
  · simp at hq
    exact ownsRow_kept (h.rest q r (by omega) hr) hk (far q r (by omega) hr)
  · rcases key q s hs with ⟨h1, h2⟩ | ⟨h1, h2⟩
    · obtain ⟨h3, h4⟩ := h.done q r s hr h2
      exact ⟨h3.kept hk (far q r (by omega) hr), h4.kept hk (farg q r s (by omega) hr h2)⟩
    · subst h1 h2
      rw [hp] at hr
      cases hr
      exact ⟨hg.rd, cells_row hg.row hgf⟩
  · by_cases e1 : q = gl.length
    · subst e1
      rw [hp] at hr
      cases hr
      exact ⟨(h.typ _ _ hp x hx).1, hg.ty x hx⟩
    · obtain ⟨h1, c, h2⟩ := h.typ q r hr x hx
      exact ⟨h1, c, (hk.block x (lt_of_block h2) (far q r e1 hr x hx)).trans h2⟩
  · rcases key q s hs with ⟨h1, h2⟩ | ⟨h1, h2⟩
    · obtain ⟨h3, c, h4⟩ := h.gty q r s hr h2 x hx
      exact ⟨h3, c, (hk.block x (lt_of_block h4) (farg q r s (by omega) hr h2 x hx)).trans h4⟩
    · subst h1 h2
      rw [hp] at hr
      cases hr
      exact ⟨(hg.blk x hx).imp id (fun h' => by omega), (rowBlock hg.row hx).2⟩
end

end Go.Proofs.Ytdkihkgmldnpmab
