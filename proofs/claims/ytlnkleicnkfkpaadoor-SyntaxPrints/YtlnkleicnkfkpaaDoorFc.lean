import Derived.Test.YtlnkleicnkfkpaaDoorFb
namespace Go.Proofs.YtlnkleicnkfkpaaDoor
open Go.RowKit Go.Maps

/-- Five cells of a block are written, one behind the other. -/
abbrev set5 (w : World) (a i : Nat) (x0 x1 x2 x3 x4 : Value) : World := ((((w.setCell ⟨a, i * 5, none⟩ x0).setCell ⟨a, i * 5 + 1, none⟩ x1).setCell ⟨a, i * 5 + 2, none⟩ x2).setCell ⟨a, i * 5 + 3, none⟩ x3).setCell ⟨a, i * 5 + 4, none⟩ x4
theorem set5_blk {w : World} {a : Nat} {c : Array Value} {t : TypeId} (h : w.heap[a]? = some (.cells c t (0, 0))) (i : Nat) (x0 x1 x2 x3 x4 : Value) (hi : i * 5 + 4 < c.size) :
    ∃ c', (set5 w a i x0 x1 x2 x3 x4).heap[a]? = some (.cells c' t (0, 0)) ∧ c'.size = c.size ∧ c'[i * 5]? = some x0 ∧ c'[i * 5 + 1]? = some x1 ∧ c'[i * 5 + 2]? = some x2 ∧ c'[i * 5 + 3]? = some x3 ∧ c'[i * 5 + 4]? = some x4 ∧ ∀ j, j < i * 5 ∨ i * 5 + 5 ≤ j → c'[j]? = c[j]? := by
  refine ⟨_, heap_setCell_at (heap_setCell_at (heap_setCell_at (heap_setCell_at (heap_setCell_at h x0) x1) x2) x3) x4, by simp, ?_, ?_, ?_, ?_, ?_, fun j hj => ?_⟩
  · rw [Array.getElem?_setIfInBounds_ne (by omega), Array.getElem?_setIfInBounds_ne (by omega), Array.getElem?_setIfInBounds_ne (by omega), Array.getElem?_setIfInBounds_ne (by omega), Array.getElem?_setIfInBounds_self_of_lt (by omega)]
  · rw [Array.getElem?_setIfInBounds_ne (by omega), Array.getElem?_setIfInBounds_ne (by omega), Array.getElem?_setIfInBounds_ne (by omega), Array.getElem?_setIfInBounds_self_of_lt (by simp; omega)]
  · rw [Array.getElem?_setIfInBounds_ne (by omega), Array.getElem?_setIfInBounds_ne (by omega), Array.getElem?_setIfInBounds_self_of_lt (by simp; omega)]
  · rw [Array.getElem?_setIfInBounds_ne (by omega), Array.getElem?_setIfInBounds_self_of_lt (by simp; omega)]
  · rw [Array.getElem?_setIfInBounds_self_of_lt (by simp; omega)]
  · rw [Array.getElem?_setIfInBounds_ne (by omega), Array.getElem?_setIfInBounds_ne (by omega), Array.getElem?_setIfInBounds_ne (by omega), Array.getElem?_setIfInBounds_ne (by omega), Array.getElem?_setIfInBounds_ne (by omega)]
theorem set5_keeps (w : World) (a i : Nat) (x0 x1 x2 x3 x4 : Value) : Keeps (fun k => k = a) w (set5 w a i x0 x1 x2 x3 x4) :=
  ((((keeps_set w a (i * 5) x0).trans (keeps_set _ a (i * 5 + 1) x1)).trans (keeps_set _ a (i * 5 + 2) x2)).trans (keeps_set _ a (i * 5 + 3) x3)).trans (keeps_set _ a (i * 5 + 4) x4)
theorem set5_high {w : World} {a i : Nat} {pre : SL} (h : StIn cpyZ w pre a 0) (hi : pre.len ≤ i) (x0 x1 x2 x3 x4 : Value) : StIn cpyZ (set5 w a i x0 x1 x2 x3 x4) pre a 0 :=
  StIn.high x4 (by omega) (StIn.high x3 (by omega) (StIn.high x2 (by omega) (StIn.high x1 (by omega) (StIn.high x0 (by omega) h))))
theorem set5_E {w : World} {a i up : Nat} {v : Value} {l : EL} (h : SlE cpyZ w up v l) (hu : a ≤ up) (x0 x1 x2 x3 x4 : Value) : SlE cpyZ (set5 w a i x0 x1 x2 x3 x4) up v l :=
  ((((h.set hu x0).set hu x1).set hu x2).set hu x3).set hu x4
theorem set5_S {w : World} {a i up : Nat} {v : Value} {l : SL} (h : SlS cpyZ w up v l) (hu : a ≤ up) (x0 x1 x2 x3 x4 : Value) : SlS cpyZ (set5 w a i x0 x1 x2 x3 x4) up v l :=
  ((((h.set hu x0).set hu x1).set hu x2).set hu x3).set hu x4
/-- One more statement is copied. -/
theorem copyS_step {w : World} {a k : Nat} {c : Array Value} {pre th el : SL} {ex : EL} {op : Int} {f : Txt} {xv : Value} {to eo : Option Addr} {tc ec : Nat} (hb : w.heap[a]? = some (.cells c 51 (0, 0))) (hk : k = pre.len) (hc : k * 5 + 4 < c.size) (hp : StIn cpyZ w pre a 0) (hX : SlE cpyZ w a xv ex) (hT : SlS cpyZ w a (.slice to th.len tc) th) (hE : SlS cpyZ w a (.slice eo el.len ec) el) :
    (∃ c', (set5 w a k (.int .i64 op) (str f) xv (.slice to th.len tc) (.slice eo el.len ec)).heap[a]? = some (.cells c' 51 (0, 0)) ∧ c'.size = c.size) ∧ StIn cpyZ (set5 w a k (.int .i64 op) (str f) xv (.slice to th.len tc) (.slice eo el.len ec)) (pre.app (.cons op f ex th el .nil)) a 0 := by
  obtain ⟨c', hc', hs', e0, e1, e2, e3, e4, _⟩ := set5_blk hb k (.int .i64 op) (str f) xv (.slice to th.len tc) (.slice eo el.len ec) hc
  refine ⟨⟨c', hc', hs'⟩, (set5_high hp (by omega) _ _ _ _ _).app ?_⟩
  obtain ⟨to', tc', e', q7, q8⟩ := set5_S (i := k) hT (Nat.le_refl a) (.int .i64 op) (str f) xv (.slice to th.len tc) (.slice eo el.len ec)
  cases e'
  obtain ⟨eo', ec', e', r7, r8⟩ := set5_S (i := k) hE (Nat.le_refl a) (.int .i64 op) (str f) xv (.slice to th.len tc) (.slice eo el.len ec)
  cases e'
  have eo5 : 0 + 5 * pre.len = k * 5 := by omega
  rw [eo5]
  refine ⟨lt_of_block hc', ⟨c', hc'⟩, ?_, ?_, ⟨xv, ?_, set5_E hX (Nat.le_refl a) _ _ _ _ _⟩, ⟨to, tc, ?_, q7, q8⟩, ⟨eo, ec, ?_, r7, r8⟩, trivial⟩
  · rw [cell_of_blk hc']; exact e0
  · rw [cell_of_blk hc']; exact e1
  · rw [cell_of_blk hc']; exact e2
  · rw [cell_of_blk hc']; exact e3
  · rw [cell_of_blk hc']; exact e4
theorem app_oneS (pre : SL) (op : Int) (f : Txt) (ex : EL) (th el rest : SL) : (pre.app (.cons op f ex th el .nil)).app rest = pre.app (.cons op f ex th el rest) := by
  rw [SL.app_assoc]; rfl
/-- One more list is lent out. -/
theorem Bh.lentS {wr w6 : World} {B g a n : Nat} {LE LS : List (Nat × Nat)} {vS vE : Value} (h : Bh wr B g LE LS vS vE) (hm : MarkS wr (a, n)) (X : Obj) {g' cap : Nat} (ho : w6.ownsRow B 22 1 (.slice (some ⟨g', 0, none⟩) (LS.length + 1) cap) (LS.length + 1) (LS.map slv ++ [slv (a, n)])) (hg : (wr.alloc X).grownBy w6 vS.ownBlock) :
    Bh (w6.setCell ⟨g, 0, none⟩ (.slice (some ⟨g', 0, none⟩) (LS.length + 1) cap)) B g LE (LS ++ [(a, n)]) (.slice (some ⟨g', 0, none⟩) (LS.length + 1) cap) vE ∧ Keeps (BF wr B g) wr (w6.setCell ⟨g, 0, none⟩ (.slice (some ⟨g', 0, none⟩) (LS.length + 1) cap)) := by
  have k6 : Keeps (fun q => vS.ownBlock = some q) wr w6 := ((Keeps.refl _ wr).alloc X).trans ((Keeps.refl (fun q => vS.ownBlock = some q) (wr.alloc X)).grown hg (fun q e _ => e))
  have kS : ∀ q, vS.ownBlock = some q → ∃ c, wr.heap[q]? = some (.cells c 22 (0, 0)) := fun q e => (own_block h.rowS e).2
  have hgS : ¬ vS.ownBlock = some g := fun e => by
    obtain ⟨c, hc⟩ := kS g e
    exact kind_ne hc h.blk (by decide) rfl
  have blk6 := (k6.block g (lt_of_block h.blk) hgS).trans h.blk
  have k7 : Keeps (fun q => vS.ownBlock = some q ∨ q = g) wr (w6.setCell ⟨g, 0, none⟩ (.slice (some ⟨g', 0, none⟩) (LS.length + 1) cap)) := Keeps.setCell (F := fun q => vS.ownBlock = some q ∨ q = g) (p := ⟨g, 0, none⟩) (k6.mono (fun _ _ e => Or.inl e)) (fun _ => Or.inr rfl) _
  have k67 := keeps_set w6 g 0 (.slice (some ⟨g', 0, none⟩) (LS.length + 1) cap)
  have far : ∀ {i : Nat} {c : Array Value} {t : TypeId}, wr.heap[i]? = some (.cells c t (0, 0)) → t ≠ 22 → t ≠ 32 → ¬ (vS.ownBlock = some i ∨ i = g) := fun {i c t} hi h1 h2 => by
    rintro (e | e)
    · obtain ⟨d, hd⟩ := kS i e
      exact kind_ne hi hd h1 rfl
    · exact kind_ne hi h.blk h2 e
  refine ⟨⟨h.lo, ?_, ?_, ?_, fun p hp => ?_, fun p hp => ?_⟩, k7.mono fun k _ hf => ?_⟩
  · have := heap_setCell_at blk6 (o := 0) (.slice (some ⟨g', 0, none⟩) (LS.length + 1) cap)
    simpa using this
  · have ho' : w6.ownsRow B 22 1 (.slice (some ⟨g', 0, none⟩) (LS.length + 1) cap) (LS ++ [(a, n)]).length ((LS ++ [(a, n)]).map slv) := by simpa using ho
    refine own_kept ho' k67 (fun b hb e => ?_)
    obtain ⟨_, c, hc⟩ := own_block ho hb
    exact kind_ne hc blk6 (by decide) e
  · refine own_kept h.rowE k7 (fun b hb => ?_)
    obtain ⟨_, c, hc⟩ := own_block h.rowE hb
    exact far hc (by decide) (by decide)
  · obtain ⟨c, hc, _⟩ := h.ex p hp
    exact (h.ex p hp).keep k7 (far hc (by decide) (by decide))
  · rcases List.mem_append.1 hp with hp | hp
    · obtain ⟨c, hc, _⟩ := h.st p hp
      exact (h.st p hp).keep k7 (far hc (by decide) (by decide))
    · obtain rfl : p = (a, n) := by simpa using hp
      have hm2 := hm
      obtain ⟨c, hc, _⟩ := hm2
      exact MarkS.keep (p := (a, n)) hm k7 (far hc (by decide) (by decide))
  · rcases hf with e | e
    · obtain ⟨h1, c, hc⟩ := own_block h.rowS e
      exact Or.inr ⟨h1, c, 22, Or.inl rfl, hc⟩
    · exact Or.inl e
/-- What a copy of statements leaves. -/
def CPost (B g : Nat) (l : SL) (LE LS : List (Nat × Nat)) (w : World) (e : Ending) (w' : World) : Prop :=
  ∃ LE' LS' vS' vE', e = .returned (.slice (some ⟨w.heap.size, 0, none⟩) l.len (l.len + 8)) ∧ (∀ up, up < w.heap.size → SlS cpyZ w' up (.slice (some ⟨w.heap.size, 0, none⟩) l.len (l.len + 8)) l) ∧ Bh w' B g LE' LS' vS' vE' ∧ LE'.length ≤ LE.length + l.size ∧ LS'.length ≤ LS.length + 2 * l.size + 1 ∧ (∀ p ∈ LE', p ∈ LE ∨ w.heap.size ≤ p.1) ∧ (∀ p ∈ LS', p ∈ LS ∨ w.heap.size ≤ p.1) ∧ Keeps (BF w B g) w w'
end Go.Proofs.YtlnkleicnkfkpaaDoor
