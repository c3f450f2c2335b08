import Derived.Test.YtlcfdfcnijjkiaaI
namespace Go.Proofs.Ytlcfdfcnijjkiaa
open Go.RowKit Go.Maps

def markP (j : Nat) (p : Txt) : Txt := List.replicate p.length (markB j)
theorem markP_len (j : Nat) (p : Txt) : (markP j p).length = p.length := by simp [markP]
/-- Lists, marked throughout, and what has grown out of them. -/
structure Gw (w wr : World) (B : Nat) (v : Value) (hs : List Value) (ps : List Txt) (u : Nat → Nat) (mv : Value) (ms : List Value) (its : List Itm) : Prop where
  row : wr.ownsRow B 27 1 v ps.length hs
  old : ∀ q, v.ownBlock = some q → q < w.heap.size
  mrow : wr.ownsRow w.heap.size 27 1 mv ms.length ms
  bag : Bag wr B its
  each : ∀ (j : Nat) (h : Value) (p : Txt), hs[j]? = some h → ps[j]? = some p → ∃ vm, its[j]? = some ⟨h, markP j p, vm, List.replicate (u j) 251⟩ ∧ (j < ms.length → ms[j]? = some vm) ∧ (u j = 0 → vm = h)
  keeps : Keeps (fun q => B ≤ q) w wr
  len : its.length = ps.length
section
variable {w wr w' : World} {B : Nat} {v : Value} {hs : List Value} {ps : List Txt} {t u u' : Nat → Nat} {its : List Itm} {mv : Value} {ms : List Value}
theorem Gw.start (h : Mk w wr B v hs ps t its) (h0 : w.ownsRow B 27 1 v ps.length hs) (ht : ∀ j p, ps[j]? = some p → t j = p.length) : Gw w wr B v hs ps (fun _ => 0) (.slice none 0 0) [] its :=
  ⟨h.row, fun q e => own_lt h0 e, World.ownsRow_nil _ _ 27 1, h.bag, fun j x p h1 h2 => by
    have := h.each j x p h1 h2
    rw [ht j p h2, overL_end] at this
    exact ⟨x, this, fun e => by simp at e, fun _ => rfl⟩, h.keeps, h.len⟩
theorem Gw.lens (h : Gw w wr B v hs ps u mv ms its) : hs.length = ps.length := by have := h.row.1; omega
theorem Gw.same (h : Gw w wr B v hs ps u mv ms its) (hu : ∀ j, j < ps.length → u j = u' j) : Gw w wr B v hs ps u' mv ms its :=
  ⟨h.row, h.old, h.mrow, h.bag, fun j x p h1 h2 => by rw [← hu j (get_lt h2)]; exact h.each j x p h1 h2, h.keeps, h.len⟩
theorem Gw.cell (h : Gw w wr B v hs ps u mv ms its) {g c i : Nat} {x : Value} (hv : v = .slice (some ⟨g, 0, none⟩) ps.length c) (h1 : hs[i]? = some x) : wr.cell? ⟨g, i, none⟩ = some x := by
  subst hv
  have hi := get_lt h1
  have := h.lens
  exact (h.row.cellAt i (by omega)).trans h1
theorem Gw.grow {i m g cap K : Nat} {o : Obj} {x lv : Value} {p : Txt} (h : Gw w wr B v hs ps u mv ms its) (h1 : hs[i]? = some x) (h2 : ps[i]? = some p) (hi : its[i]? = some ⟨x, markP i p, lv, List.replicate K 251⟩) (hm : ms.length ≤ i) (hu : u' i = K + 1) (huo : ∀ j, j ≠ i → u' j = u j) (hm1 : m = 1)
    (hG : GrewL (wr.alloc o) w' B 5 (markP i p ++ List.replicate K 251).length m lv g cap (bs (markP i p ++ List.replicate K 251)) (bs [251])) :
    Gw w w' B v hs ps u' mv ms (its.set i ⟨x, markP i p, .slice (some ⟨g, 0, none⟩) ((markP i p ++ List.replicate K 251).length + m) cap, List.replicate (K + 1) 251⟩) ∧
      (its.set i ⟨x, markP i p, .slice (some ⟨g, 0, none⟩) ((markP i p ++ List.replicate K 251).length + m) cap, List.replicate (K + 1) 251⟩)[i]? = some ⟨x, markP i p, .slice (some ⟨g, 0, none⟩) ((markP i p ++ List.replicate K 251).length + m) cap, List.replicate (K + 1) 251⟩ := by
  have hka : Keeps (fun _ => False) wr (wr.alloc o) := (Keeps.refl _ _).alloc _
  have hil := get_lt hi
  have hb := (h.bag.keepF hka).growAt (Z := [251]) hi hm1 hG
  rw [← List.replicate_succ'] at hb
  have hlv : BtAt (wr.alloc o) B lv (markP i p ++ List.replicate K 251) := (h.bag.keepF hka).all _ (List.mem_of_getElem? hi) |>.2
  have hrow : (wr.alloc o).ownsRow B 27 1 v ps.length hs := ownsRow_kept h.row hka (fun _ _ => id)
  have hmrow : (wr.alloc o).ownsRow w.heap.size 27 1 mv ms.length ms := ownsRow_kept h.mrow hka (fun _ _ => id)
  refine ⟨⟨ownsRow_kept hrow hG.keeps (fun q e f => own_apart hlv hrow (by decide) q f e), h.old, ownsRow_kept hmrow hG.keeps (fun q e f => own_apart hlv hmrow (by decide) q f e), hb, fun j y p' h3 h4 => ?_, (h.keeps.trans hka.any).trans (hG.keeps.mono (fun q _ e => own_geO hlv e)), by rw [List.length_set]; exact h.len⟩, List.getElem?_set_self hil⟩
  by_cases hj : j = i
  · subst hj
    rw [h1] at h3
    rw [h2] at h4
    cases h3
    cases h4
    refine ⟨_, by rw [List.getElem?_set_self hil, hu], fun e => by omega, fun e => by omega⟩
  · rw [List.getElem?_set_ne (fun e => hj e.symm), huo j hj]
    exact h.each j y p' h3 h4
theorem Gw.more {i g cap K : Nat} {o : Obj} {x lv : Value} {p : Txt} (h : Gw w wr B v hs ps u mv ms its) (h1 : hs[i]? = some x) (h2 : ps[i]? = some p) (hi : its[i]? = some ⟨x, markP i p, lv, List.replicate K 251⟩) (hm : ms.length = i)
    (hG : GrewL (wr.alloc o) w' w.heap.size 27 ms.length 1 mv g cap ms [lv]) (hB : B ≤ w.heap.size) : Gw w w' B v hs ps u (.slice (some ⟨g, 0, none⟩) (ms.length + 1) cap) (ms ++ [lv]) its := by
  have hka : Keeps (fun _ => False) wr (wr.alloc o) := (Keeps.refl _ _).alloc _
  have hrow : (wr.alloc o).ownsRow B 27 1 v ps.length hs := ownsRow_kept h.row hka (fun _ _ => id)
  have hmrow : (wr.alloc o).ownsRow w.heap.size 27 1 mv ms.length ms := ownsRow_kept h.mrow hka (fun _ _ => id)
  refine ⟨ownsRow_kept hrow hG.keeps (fun q e f => ?_), h.old, by rw [List.length_append]; exact hG.own, (h.bag.keepF hka).rowKeep hmrow hG.keeps, fun j y p' h3 h4 => ?_, (h.keeps.trans hka.any).trans (hG.keeps.mono (fun q _ e => by have := own_geO hmrow e; omega)), h.len⟩
  · have := h.old q e
    have := own_geO hmrow f
    omega
  · obtain ⟨vm, e1, e2, e3⟩ := h.each j y p' h3 h4
    refine ⟨vm, e1, fun hl => ?_, e3⟩
    rw [List.length_append, List.length_singleton] at hl
    by_cases hj : j = ms.length
    · subst hm
      subst hj
      rw [hi] at e1
      simp only [Option.some.injEq, Itm.mk.injEq] at e1
      rw [List.getElem?_append_right (Nat.le_refl _), Nat.sub_self, e1.2.2.1]
      rfl
    · rw [List.getElem?_append_left (by omega)]
      exact e2 (by omega)
/-- What is told of a list and what grew out of it. -/
theorem Gw.ends {i : Nat} {x : Value} {p : Txt} (h : Gw w wr B v hs ps u mv ms its) (h1 : hs[i]? = some x) (h2 : ps[i]? = some p) (hu : u i = 64) (hm : i < ms.length) :
    ∃ (xo : Option Addr) (xc g c : Nat), x = .slice xo p.length xc ∧ ms[i]? = some (.slice (some ⟨g, 0, none⟩) (p.length + 64) c) ∧ p.length ≤ xc ∧ p.length + 64 ≤ c ∧
      (∀ k, k < p.length → ∃ b, xo = some ⟨b, 0, none⟩ ∧ wr.cell? ⟨b, k, none⟩ = some (.int .u8 (1 + (i : Int) % 250))) ∧ (∀ k, p.length ≤ k → k < p.length + 64 → wr.cell? ⟨g, k, none⟩ = some (.int .u8 251)) := by
  obtain ⟨vm, e1, e2, _⟩ := h.each i x p h1 h2
  have hx : BtAt wr B x (markP i p) := (h.bag.all _ (List.mem_of_getElem? e1)).1
  have hy : BtAt wr B vm (markP i p ++ List.replicate (u i) 251) := (h.bag.all _ (List.mem_of_getElem? e1)).2
  have hyl : (markP i p ++ List.replicate (u i) (251 : UInt8)).length = p.length + 64 := by rw [List.length_append, markP_len, List.length_replicate, hu]
  obtain ⟨xo, xc, rfl⟩ := (rowAt_own hx).form
  obtain ⟨g, c, rfl, hc, _, _, hcell⟩ := hy.form (by omega)
  rw [hyl] at *
  refine ⟨xo, xc, g, c, by rw [markP_len], e2 hm, ?_, hc, fun k hk => ?_, fun k hk1 hk2 => ?_⟩
  · have := (rowAt_own hx).room _ _ _ rfl
    rw [markP_len] at this
    exact this
  · obtain ⟨b, cap, e, _, _, _, hxc⟩ := hx.form (by rw [markP_len]; omega)
    simp at e
    refine ⟨b, e.1, ?_⟩
    rw [hxc k (markB i) (by unfold markP; rw [List.getElem?_replicate, if_pos hk]), mark_num]
  · exact hcell k 251 (by rw [List.getElem?_append_right (by rw [markP_len]; omega), List.getElem?_replicate, if_pos (by rw [markP_len]; omega)])
end
end Go.Proofs.Ytlcfdfcnijjkiaa
