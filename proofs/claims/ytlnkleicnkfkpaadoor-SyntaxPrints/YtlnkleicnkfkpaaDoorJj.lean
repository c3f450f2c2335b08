import Derived.Test.YtlnkleicnkfkpaaDoorJi
namespace Go.Proofs.YtlnkleicnkfkpaaDoor
open Go.RowKit Go.Maps

/-- Five cells of a block are written, one behind the other. -/
abbrev set5 (w : World) (a i : Nat) (x0 x1 x2 x3 x4 : Value) : World := ((((w.setCell ⟨a, i * 5, none⟩ x0).setCell ⟨a, i * 5 + 1, none⟩ x1).setCell ⟨a, i * 5 + 2, none⟩ x2).setCell ⟨a, i * 5 + 3, none⟩ x3).setCell ⟨a, i * 5 + 4, none⟩ x4
theorem set5_blk {w : World} {a : Nat} {c : Array Value} {t : TypeId} (h : w.heap[a]? = some (.cells c t (0, 0))) (i : Nat) (x0 x1 x2 x3 x4 : Value) (hi : i * 5 + 4 < c.size) :
    ∃ c', (set5 w a i x0 x1 x2 x3 x4).heap[a]? = some (.cells c' t (0, 0)) ∧ c'.size = c.size ∧ c'[i * 5]? = some x0 ∧ c'[i * 5 + 1]? = some x1 ∧ c'[i * 5 + 2]? = some x2 ∧ c'[i * 5 + 3]? = some x3 ∧ c'[i * 5 + 4]? = some x4 ∧ ∀ j, j < i * 5 ∨ i * 5 + 5 ≤ j → c'[j]? = c[j]? := by
  refine ⟨_, heap_setCell_at (heap_setCell_at (heap_setCell_at (heap_setCell_at (heap_setCell_at h x0) x1) x2) x3) x4, by simp, ?_, ?_, ?_, ?_, ?_, fun j hj => ?_⟩
  · rw [Array.getElem?_setIfInBounds_ne (by omega), Array.getElem?_setIfInBounds_ne (by omega), Array.getElem?_setIfInBounds_ne (by omega), Array.getElem?_setIfInBounds_ne (by omega), Array.getElem?_setIfInBounds_self_of_lt (by omega)]
  · rw [Array.getElem?_setIfInBounds_ne (by omega), Array.getElem?_setIfInBounds_ne (by omega), Array.getElem?_setIfInBounds_ne (by omega), Array.getElem?_setIfInBounds_self_of_lt (by simp; omega)]
  · rw [Array.getElem?_setIfInBounds_ne (by omega), Array.getElem?_setIfInBounds_ne (by omega), Array.getElem?_setIfInBounds_self_of_lt (by simp; omega)]
  · rw [Array.getElem?_setIfInBounds_ne (by omega), Array.getElem?_setIfInBounds_self_of_lt (by simp; omega)]
  · rw [Array.getElem?_setIfInBounds_self_of_lt (by simp; omega)]
  · rw [Array.getElem?_setIfInBounds_ne (by omega), Array.getElem?_setIfInBounds_ne (by omega), Array.getElem?_setIfInBounds_ne (by omega), Array.getElem?_setIfInBounds_ne (by omega), Array.getElem?_setIfInBounds_ne (by omega)]
theorem set5_keeps (w : World) (a i : Nat) (x0 x1 x2 x3 x4 : Value) : Keeps (fun k => k = a) w (set5 w a i x0 x1 x2 x3 x4) :=
  ((((keeps_set w a (i * 5) x0).trans (keeps_set _ a (i * 5 + 1) x1)).trans (keeps_set _ a (i * 5 + 2) x2)).trans (keeps_set _ a (i * 5 + 3) x3)).trans (keeps_set _ a (i * 5 + 4) x4)
theorem set5_high {w : World} {a i : Nat} {pre : SL} (h : StIn cpyZ w pre a 0) (hi : pre.len ≤ i) (x0 x1 x2 x3 x4 : Value) : StIn cpyZ (set5 w a i x0 x1 x2 x3 x4) pre a 0 :=
  StIn.high x4 (by omega) (StIn.high x3 (by omega) (StIn.high x2 (by omega) (StIn.high x1 (by omega) (StIn.high x0 (by omega) h))))
theorem set5_E {w : World} {a i up : Nat} {v : Value} {l : EL} (h : SlE cpyZ w up v l) (hu : a ≤ up) (x0 x1 x2 x3 x4 : Value) : SlE cpyZ (set5 w a i x0 x1 x2 x3 x4) up v l :=
  ((((h.set hu x0).set hu x1).set hu x2).set hu x3).set hu x4
theorem set5_S {w : World} {a i up : Nat} {v : Value} {l : SL} (h : SlS cpyZ w up v l) (hu : a ≤ up) (x0 x1 x2 x3 x4 : Value) : SlS cpyZ (set5 w a i x0 x1 x2 x3 x4) up v l :=
  ((((h.set hu x0).set hu x1).set hu x2).set hu x3).set hu x4
/-- One more statement is copied. -/
theorem copyS_step {w : World} {a k : Nat} {c : Array Value} {pre th el : SL} {ex : EL} {op : Int} {f : Txt} {xv : Value} {to eo : Option Addr} {tc ec : Nat} (hb : w.heap[a]? = some (.cells c 51 (0, 0))) (hk : k = pre.len) (hc : k * 5 + 4 < c.size) (hp : StIn cpyZ w pre a 0) (hX : SlE cpyZ w a xv ex) (hT : SlS cpyZ w a (.slice to th.len tc) th) (hE : SlS cpyZ w a (.slice eo el.len ec) el) :
    (∃ c', (set5 w a k (.int .i64 op) (str f) xv (.slice to th.len tc) (.slice eo el.len ec)).heap[a]? = some (.cells c' 51 (0, 0)) ∧ c'.size = c.size) ∧ StIn cpyZ (set5 w a k (.int .i64 op) (str f) xv (.slice to th.len tc) (.slice eo el.len ec)) (pre.app (.cons op f ex th el .nil)) a 0 := by
  obtain ⟨c', hc', hs', e0, e1, e2, e3, e4, _⟩ := set5_blk hb k (.int .i64 op) (str f) xv (.slice to th.len tc) (.slice eo el.len ec) hc
  refine ⟨⟨c', hc', hs'⟩, (set5_high hp (by omega) _ _ _ _ _).app ?_⟩
  obtain ⟨to', tc', e', q7, q8⟩ := set5_S (i := k) hT (Nat.le_refl a) (.int .i64 op) (str f) xv (.slice to th.len tc) (.slice eo el.len ec)
  cases e'
  obtain ⟨eo', ec', e', r7, r8⟩ := set5_S (i := k) hE (Nat.le_refl a) (.int .i64 op) (str f) xv (.slice to th.len tc) (.slice eo el.len ec)
  cases e'
  have eo5 : 0 + 5 * pre.len = k * 5 := by omega
  rw [eo5]
  refine ⟨lt_of_block hc', ⟨c', hc'⟩, ?_, ?_, ⟨xv, ?_, set5_E hX (Nat.le_refl a) _ _ _ _ _⟩, ⟨to, tc, ?_, q7, q8⟩, ⟨eo, ec, ?_, r7, r8⟩, trivial⟩
  · rw [cell_of_blk hc']; exact e0
  · rw [cell_of_blk hc']; exact e1
  · rw [cell_of_blk hc']; exact e2
  · rw [cell_of_blk hc']; exact e3
  · rw [cell_of_blk hc']; exact e4
theorem app_oneS (pre : SL) (op : Int) (f : Txt) (ex : EL) (th el rest : SL) : (pre.app (.cons op f ex th el .nil)).app rest = pre.app (.cons op f ex th el rest) := by
  rw [SL.app_assoc]; rfl
/-- One more list is lent out. -/
theorem Bh.lentS {wr w6 : World} {B g a n : Nat} {LE LS : List (Nat × Nat)} {vS vE : Value} (h : Bh wr B g LE LS vS vE) (hm : MarkS wr (a, n)) (X : Obj) {g' cap : Nat} (ho : w6.ownsRow B 22 1 (.slice (some ⟨g', 0, none⟩) (LS.length + 1) cap) (LS.length + 1) (LS.map slv ++ [slv (a, n)])) (hg : (wr.alloc X).grownBy w6 vS.ownBlock) :
    Bh (w6.setCell ⟨g, 0, none⟩ (.slice (some ⟨g', 0, none⟩) (LS.length + 1) cap)) B g LE (LS ++ [(a, n)]) (.slice (some ⟨g', 0, none⟩) (LS.length + 1) cap) vE ∧ Keeps (BF wr B g) wr (w6.setCell ⟨g, 0, none⟩ (.slice (some ⟨g', 0, none⟩) (LS.length + 1) cap)) := by
  have k6 : Keeps (fun q => vS.ownBlock = some q) wr w6 := ((Keeps.refl _ wr).alloc X).trans ((Keeps.refl (fun q => vS.ownBlock = some q) (wr.alloc X)).grown hg (fun q e _ => e))
  have kS : ∀ q, vS.ownBlock = some q → ∃ c, wr.heap[q]? = some (.cells c 22 (0, 0)) := fun q e => (own_block h.rowS e).2
  have hgS : ¬ vS.ownBlock = some g := fun e => by
    obtain ⟨c, hc⟩ := kS g e
    exact kind_ne hc h.blk (by decide) rfl
  have blk6 := (k6.block g (lt_of_block h.blk) hgS).trans h.blk
  have k7 : Keeps (fun q => vS.ownBlock = some q ∨ q = g) wr (w6.setCell ⟨g, 0, none⟩ (.slice (some ⟨g', 0, none⟩) (LS.length + 1) cap)) := Keeps.setCell (F := fun q => vS.ownBlock = some q ∨ q = g) (p := ⟨g, 0, none⟩) (k6.mono (fun _ _ e => Or.inl e)) (fun _ => Or.inr rfl) _
  have k67 := keeps_set w6 g 0 (.slice (some ⟨g', 0, none⟩) (LS.length + 1) cap)
  have far : ∀ {i : Nat} {c : Array Value} {t : TypeId}, wr.heap[i]? = some (.cells c t (0, 0)) → t ≠ 22 → t ≠ 32 → ¬ (vS.ownBlock = some i ∨ i = g) := fun {i c t} hi h1 h2 => by
    rintro (e | e)
    · obtain ⟨d, hd⟩ := kS i e
      exact kind_ne hi hd h1 rfl
    · exact kind_ne hi h.blk h2 e
  refine ⟨⟨h.lo, ?_, ?_, ?_, fun p hp => ?_, fun p hp => ?_⟩, k7.mono fun k _ hf => ?_⟩
  · have := heap_setCell_at blk6 (o := 0) (.slice (some ⟨g', 0, none⟩) (LS.length + 1) cap)
    simpa using this
  · have ho' : w6.ownsRow B 22 1 (.slice (some ⟨g', 0, none⟩) (LS.length + 1) cap) (LS ++ [(a, n)]).length ((LS ++ [(a, n)]).map slv) := by simpa using ho
    refine own_kept ho' k67 (fun b hb e => ?_)
    obtain ⟨_, c, hc⟩ := own_block ho hb
    exact kind_ne hc blk6 (by decide) e
  · refine own_kept h.rowE k7 (fun b hb => ?_)
    obtain ⟨_, c, hc⟩ := own_block h.rowE hb
    exact far hc (by decide) (by decide)
  · obtain ⟨c, hc, _⟩ := h.ex p hp
    exact (h.ex p hp).keep k7 (far hc (by decide) (by decide))
  · rcases List.mem_append.1 hp with hp | hp
    · obtain ⟨c, hc, _⟩ := h.st p hp
      exact (h.st p hp).keep k7 (far hc (by decide) (by decide))
    · obtain rfl : p = (a, n) := by simpa using hp
      have hm2 := hm
      obtain ⟨c, hc, _⟩ := hm2
      exact MarkS.keep (p := (a, n)) hm k7 (far hc (by decide) (by decide))
  · rcases hf with e | e
    · obtain ⟨h1, c, hc⟩ := own_block h.rowS e
      exact Or.inr ⟨h1, c, 22, Or.inl rfl, hc⟩
    · exact Or.inl e
/-- What a copy of statements leaves. -/
def CPost (B g : Nat) (l : SL) (LE LS : List (Nat × Nat)) (w : World) (e : Ending) (w' : World) : Prop :=
  ∃ LE' LS' vS' vE', e = .returned (.slice (some ⟨w.heap.size, 0, none⟩) l.len (l.len + 8)) ∧ (∀ up, up < w.heap.size → SlS cpyZ w' up (.slice (some ⟨w.heap.size, 0, none⟩) l.len (l.len + 8)) l) ∧ Bh w' B g LE' LS' vS' vE' ∧ LE'.length ≤ LE.length + l.size ∧ LS'.length ≤ LS.length + 2 * l.size + 1 ∧ (∀ p ∈ LE', p ∈ LE ∨ w.heap.size ≤ p.1) ∧ (∀ p ∈ LS', p ∈ LS ∨ w.heap.size ≤ p.1) ∧ Keeps (BF w B g) w w'
end Go.Proofs.YtlnkleicnkfkpaaDoor
namespace Go.Proofs.YtlnkleicnkfkpaaDoor
open Go.RowKit Go.Maps

set_option maxRecDepth 100000 in
set_option maxHeartbeats 3200000 in
theorem bstmts_v (B g : Nat) (N : Nat) : ∀ (l : SL), l.size < N → l.size ≤ 2147483647 → ∀ (w : World) (up : Nat) (v vS vE : Value) (LE LS : List (Nat × Nat)), B ≤ w.heap.size → SlS (argZ B) w up v l → Bh w B g LE LS vS vE → LE.length + 2 * l.size ≤ 100000000000 → LS.length + 2 * l.size ≤ 100000000000 →
    Calls Tryd.prog 7 #[.pointer (some ⟨g, 0, none⟩), v] w (CPost B g l LE LS w) := by
  induction N with
  | zero => intro l h; omega
  | succ N ih =>
    intro l hsz hlen' w up v vS vE LE LS hB hS hBh hbd hbs
    have hlen : l.len ≤ 2147483647 := by have := SL.len_le l; omega
    obtain ⟨ao, cap, b, off, rfl, hcap, ha, hx⟩ := hS.open
    obtain ⟨c0, hc0, hrun⟩ := run_mkS l.len hlen w
    have hlo := hBh.lo
    have IH := hide ih
    have HX := hide hx
    have HA := hide ha
    have HBH := hide hBh
    clear hS ih hx ha hBh
    go_enter Tryd.func7, Tryd.ntmps7
    go_wp2_with fail
    have HK0 : Hid (Keeps (fun _ => False) w (w.alloc (.cells c0 51))) := hide ((Keeps.refl _ w).alloc _)
    go_loopw [6] (fun i wr => ∃ (pre rest : SL) (k : Nat) (c : Array Value) (LE' LS' : List (Nat × Nat)) (vS' vE' : Value), i = .int .i64 k ∧ l = pre.app rest ∧ k = pre.len ∧ wr.heap[w.heap.size]? = some (.cells c 51 (0, 0)) ∧ c.size = (l.len + 8) * 5 ∧ StIn cpyZ wr pre w.heap.size 0 ∧ Bh wr B g LE' LS' vS' vE' ∧ LE'.length ≤ LE.length + pre.size ∧ LS'.length ≤ LS.length + 2 * pre.size ∧ (∀ p ∈ LE', p ∈ LE ∨ w.heap.size + 1 ≤ p.1) ∧ (∀ p ∈ LS', p ∈ LS ∨ w.heap.size + 1 ≤ p.1) ∧ Keeps (BF w B g) w wr ∧ StIn (argZ B) wr rest b (off + k * 5)) (fun i _ => l.len - (intOf i).toNat)
    case atStart => exact ⟨.nil, l, 0, c0, LE, LS, vS, vE, rfl, rfl, rfl, heap_alloc_new w _, hc0, trivial, (unhide HBH).keepF (unhide HK0), by simp [SL.size], by simp [SL.size], fun p hp => Or.inl hp, fun p hp => Or.inl hp, (unhide HK0).any, by simpa using (unhide HX).keepF (unhide HK0)⟩
    case round =>
      obtain ⟨pre, rest, k, c, LE', LS', vS', vE', rfl, happ, hkp, hblk, hcs, hpre, hbh, hle, hls', hnew, hnewS, hkeep, hr⟩ := hrel
      have hll := congrArg SL.len happ
      have hls := congrArg SL.size happ
      rw [SL.len_app] at hll
      rw [SL.size_app] at hls
      have HAPP := hide happ
      have happ' := happ
      have HKP := hide hkp
      clear happ
      cases rest with
      | nil =>
        rw [SL.app_nil] at happ'
        subst happ'
        simp only [SL.len, SL.size] at hll hls
        have i1 : ¬ (k : Int) < (l.len : Int) := by omega
        have i3 : (l.len : Int) ≤ 2147483647 := by omega
        have hkl : k = l.len := hkp
        have hsw : w.heap.size < wr.heap.size := lt_of_block hblk
        have HPRE := hide hpre
        have HBH1 := hide hbh
        have HNEW := hide hnew
        have HNEWS := hide hnewS
        have HBLK := hide hblk
        have HK := hide hkeep
        have HLE := hide hle
        have HLS := hide hls'
        clear hr hpre hbh hnew hnewS hblk hkeep hle hls' hkp hll hls
        go_wp2_with fail
        go_loopw [7] (fun i w2 => ∃ (j : Nat) (c : Array Value), i = .int .i64 j ∧ l.len ≤ j ∧ j ≤ l.len + 8 ∧ w2.heap[w.heap.size]? = some (.cells c 51 (0, 0)) ∧ c.size = (l.len + 8) * 5 ∧ (∀ q, l.len ≤ q → q < j → c[q * 5]? = some (.int .i64 (9000 + (q : Int))) ∧ c[q * 5 + 1]? = some (str behindT)) ∧ StIn cpyZ w2 l w.heap.size 0 ∧ Bh w2 B g LE' LS' vS' vE' ∧ Keeps (BF w B g) w w2) (fun i _ => l.len + 8 - (intOf i).toNat)
        case atStart => exact ⟨l.len, c, rfl, Nat.le_refl _, by omega, unhide HBLK, hcs, fun q h1 h2 => by omega, unhide HPRE, unhide HBH1, unhide HK⟩
        case round =>
          obtain ⟨j, c2, rfl, hj1, hj2, hblk, hcs2, hmk, hpre, hbh, hkeep⟩ := hrel
          have HPRE2 := hide hpre
          have HBH2 := hide hbh
          have HBLK2 := hide hblk
          have HK2 := hide hkeep
          have HMK := hide hmk
          clear HPRE HBH1 HBLK HK
          by_cases hj8 : j < l.len + 8
          · have j1 : (j : Int) < (l.len : Int) + 8 := by omega
            have j0 : (0 : Int) ≤ (j : Int) := by omega
            obtain ⟨x0, hx0⟩ : ∃ x, c2[j * 5]? = some x := ⟨_, Array.getElem?_eq_getElem (by omega)⟩
            have a0 := (cell_of_blk hblk (j * 5)).trans hx0
            have z0 := frozen_of_blk hblk (j * 5)
            obtain ⟨x1, hx1⟩ : ∃ x, c2[j * 5 + 1]? = some x := ⟨_, Array.getElem?_eq_getElem (by omega)⟩
            have a1 := (cell_of_blk hblk (j * 5 + 1)).trans hx1
            have z1 := frozen_of_blk hblk (j * 5 + 1)
            obtain ⟨x2, hx2⟩ : ∃ x, c2[j * 5 + 2]? = some x := ⟨_, Array.getElem?_eq_getElem (by omega)⟩
            have a2 := (cell_of_blk hblk (j * 5 + 2)).trans hx2
            have z2 := frozen_of_blk hblk (j * 5 + 2)
            obtain ⟨x3, hx3⟩ : ∃ x, c2[j * 5 + 3]? = some x := ⟨_, Array.getElem?_eq_getElem (by omega)⟩
            have a3 := (cell_of_blk hblk (j * 5 + 3)).trans hx3
            have z3 := frozen_of_blk hblk (j * 5 + 3)
            obtain ⟨x4, hx4⟩ : ∃ x, c2[j * 5 + 4]? = some x := ⟨_, Array.getElem?_eq_getElem (by omega)⟩
            have a4 := (cell_of_blk hblk (j * 5 + 4)).trans hx4
            have z4 := frozen_of_blk hblk (j * 5 + 4)
            clear hpre hbh hblk hkeep hmk
            go_wp2_with fail
            obtain ⟨c3, hc3, hs3, e0, e1, e2, e3, e4, eo⟩ := set5_blk (unhide HBLK2) j (.int .i64 (9000 + (j : Int))) (str behindT) (.slice none 0 0) (.slice none 0 0) (.slice none 0 0) (by omega)
            have hks := set5_keeps wr w.heap.size j (.int .i64 (9000 + (j : Int))) (str behindT) (.slice none 0 0) (.slice none 0 0) (.slice none 0 0)
            have hbh0 := unhide HBH
            have hne : ∀ p ∈ LE', p.1 ≠ w.heap.size := fun p hp => by
              rcases (unhide HNEW) p hp with h | h
              · have := hbh0.ltE h; omega
              · omega
            have hneS : ∀ p ∈ LS', p.1 ≠ w.heap.size := fun p hp => by
              rcases (unhide HNEWS) p hp with h | h
              · have := hbh0.ltS h; omega
              · omega
            go_roundw
            case rel =>
              refine ⟨j + 1, c3, by go_num, by omega, by omega, hc3, by omega, fun q h1 h2 => ?_, set5_high (unhide HPRE2) hj1 _ _ _ _ _, (unhide HBH2).apart (s := true) ⟨c2, unhide HBLK2⟩ hne hneS hks, (unhide HK2).then hks (fun i hi e => by omega)⟩
              by_cases hq : q = j
              · subst hq
                exact ⟨e0, e1⟩
              · rw [eo (q * 5) (by omega), eo (q * 5 + 1) (by omega)]
                exact (unhide HMK) q h1 (by omega)
            case measure => simp [intOf]; omega
          · have j1 : ¬ (j : Int) < (l.len : Int) + 8 := by omega
            obtain rfl : j = l.len + 8 := by omega
            obtain ⟨i0, hi, hz0, hz1, hz2⟩ := info_parts Tryd.info22
            have cg := (cell_of_blk hbh.blk 0).trans (show (#[vS', vE'] : Array Value)[0]? = some vS' from rfl)
            have zg := frozen_of_blk hbh.blk 0
            have hgl := lt_of_block hbh.blk
            have hgE : ¬ vS'.ownBlock = some g := fun e => by
              obtain ⟨_, c, hc⟩ := own_block hbh.rowS e
              exact kind_ne hc hbh.blk (by decide) rfl
            have hl9 : LS'.length ≤ LS.length + 2 * l.size := unhide HLS
            have hBr : B ≤ wr.heap.size := by have := hkeep.size; omega
            have HMKE : Hid (MarkS wr (w.heap.size, l.len)) := hide ⟨c2, hblk, fun q h1 h2 => hmk q h1 h2, hlen⟩
            clear hpre hbh hblk hkeep hmk
            go_wp2_with (at_builtin; refine wpList_append_lies _ rfl _ _ _ rfl B 22 i0 _ 1 24 Tryd.underlying29 hi hz0 hz1 hz2 rfl (by omega) vS' LS'.length (LS'.map slv) rfl ((unhide HBH2).rowS.alloc _) ⟨wr.heap.size, 0, none⟩ 1 1 [slv (w.heap.size, l.len)] rfl rfl (World.news_of_block (cs := #[Value.slice (some ⟨w.heap.size, 0, none⟩) (l.len + 8) (l.len + 8)]) (t := 22) (fr := (0, 0)) (heap_alloc_new wr _)) (by simp [Value.oneCell', slv]) (by omega) (by unfold maxLen; omega) (by omega) (by simp; omega) (wr.heap.size + 1) (by simp) ?_; intro g' cap6 w6 hown6 hgrow hat hlt6; have k6 : Keeps (fun q => vS'.ownBlock = some q) wr w6 := ((Keeps.refl _ wr).alloc _).trans ((Keeps.refl (fun q => vS'.ownBlock = some q) _).grown hgrow (fun q e _ => e)); have cg6 := (k6.cell (o := 0) hgl hgE).trans cg; have zg6 := frozen_of_blk ((k6.block g hgl hgE).trans (unhide HBH2).blk) 0; have HO6 := hide hown6; have HGR := hide hgrow; clear hown6 hgrow hat k6)
            go_ret
            obtain ⟨hbh7, hk7⟩ := (unhide HBH2).lentS (unhide HMKE) _ (unhide HO6) (unhide HGR)
            have hle2 := unhide HLE
            refine ⟨LE', LS' ++ [(w.heap.size, l.len)], _, _, rfl, fun up hup => ⟨_, _, rfl, by omega, fun _ => ⟨w.heap.size, 0, rfl, hup, StIn.bf (unhide HBH2) hk7 (unhide HPRE2)⟩⟩, hbh7, hle2, by simp; omega, fun p hp => ?_, fun p hp => ?_, bf_trans (unhide HK2) hk7⟩
            · rcases (unhide HNEW) p hp with h | h
              · exact Or.inl h
              · exact Or.inr (by omega)
            · rcases List.mem_append.1 hp with hp | hp
              · rcases (unhide HNEWS) p hp with h | h
                · exact Or.inl h
                · exact Or.inr (by omega)
              · obtain rfl : p = (w.heap.size, l.len) := by simpa using hp
                exact Or.inr (Nat.le_refl _)
      | cons op f ex th el rest =>
        obtain ⟨h1, h2, h3, h4, ⟨xv, h5, hxs⟩, ⟨tao, tcap, h6, h6', h8⟩, ⟨eao, ecap, h7, h7', g8⟩, h9⟩ := hr
        simp only [SL.len, SL.size] at hll hls
        have hkl : k + (rest.len + 1) = l.len := by omega
        have hks : pre.size + (ex.size + th.size + el.size + rest.size + 1) = l.size := by omega
        clear hll hls hkp happ'
        obtain ⟨rfl, hp⟩ := (unhide HA) (by omega)
        have HTH : Hid (SlS (argZ B) wr b (.slice tao th.len tcap) th) := ⟨tao, tcap, rfl, h6', h8⟩
        have HEL : Hid (SlS (argZ B) wr b (.slice eao el.len ecap) el) := ⟨eao, ecap, rfl, h7', g8⟩
        have HEX := hide hxs
        obtain ⟨xao, xcap, rfl, hxl⟩ := hxs.head
        have HR := hide h9
        have HK := hide hkeep
        have HPRE := hide hpre
        have HBH1 := hide hbh
        have HNEW := hide hnew
        have HNEWS := hide hnewS
        have HBLK := hide hblk
        have hbB : b < B := h2
        have i1 : (k : Int) < (l.len : Int) := by omega
        have i0 : (0 : Int) ≤ (k : Int) := by omega
        have i2 : (k : Int) < (l.len : Int) + 8 := by omega
        have hsw : w.heap.size < wr.heap.size := lt_of_block hblk
        have HD : Hid (Keeps (fun _ => False) wr wr.drew) := hide (Keeps.refl _ wr).drew
        have HCALL := hide (bexprs_v B B g (ex.size + 1) ex (by omega) (by omega) wr.drew b (.slice xao ex.len xcap) vS' vE' LE' LS' (by show B ≤ wr.heap.size; omega) (by show B ≤ wr.heap.size; omega) (((unhide HEX).keepF (unhide HD)).mix (Nat.le_refl B) b) ((unhide HBH1).keepF (unhide HD)) (by omega))
        obtain ⟨x0, hx0⟩ : ∃ x, c[k * 5]? = some x := ⟨_, Array.getElem?_eq_getElem (by omega)⟩
        obtain ⟨x1, hx1⟩ : ∃ x, c[k * 5 + 1]? = some x := ⟨_, Array.getElem?_eq_getElem (by omega)⟩
        obtain ⟨x2, hx2⟩ : ∃ x, c[k * 5 + 2]? = some x := ⟨_, Array.getElem?_eq_getElem (by omega)⟩
        obtain ⟨x3, hx3⟩ : ∃ x, c[k * 5 + 3]? = some x := ⟨_, Array.getElem?_eq_getElem (by omega)⟩
        obtain ⟨x4, hx4⟩ : ∃ x, c[k * 5 + 4]? = some x := ⟨_, Array.getElem?_eq_getElem (by omega)⟩
        have hnbf := cpy_bf hbh (s := true) ⟨c, hblk⟩
        have hab : w.heap.size ≠ b := by omega
        have hle9 := hle
        have hls9 := hls'
        clear h2 h8 h9 hkeep hpre hbh hnew hnewS hblk hxs g8 hle hls'
        go_wp2_with fail
        go_region_held3 (fun w' => w'.cell? ⟨b, off + k * 5, none⟩ = some (.int .i64 op) ∧ w'.cell? ⟨b, off + k * 5 + 1, none⟩ = some (str f) ∧ w'.cell? ⟨b, off + k * 5 + 2, none⟩ = some (.slice xao ex.len xcap) ∧ w'.cell? ⟨b, off + k * 5 + 3, none⟩ = some (.slice tao th.len tcap) ∧ w'.cell? ⟨b, off + k * 5 + 4, none⟩ = some (.slice eao el.len ecap)) (first | (refine ⟨?_, ?_, ?_, ?_, ?_⟩ <;> (simp only [cell_far hab]; assumption)) | exact ⟨u3, u4, u5, u6, u7⟩ | exact ⟨t3, t4, t5, t6, t7⟩ | exact ⟨s3, s4, s5, s6, s7⟩ | exact ⟨h3, h4, h5, h6, h7⟩)
          ((first
            | (go_at_call 8; refine (unhide HCALL).mono ?_; rintro e w1 ⟨LE1, vE1, rfl, hsl, hbh1, hle1, hnew1, hk1⟩; have s3 := (hk1.cell h1 (fun f => by have := f.lo hlo; omega)).trans h3; have s4 := (hk1.cell h1 (fun f => by have := f.lo hlo; omega)).trans h4; have s5 := (hk1.cell h1 (fun f => by have := f.lo hlo; omega)).trans h5; have s6 := (hk1.cell h1 (fun f => by have := f.lo hlo; omega)).trans h6; have s7 := (hk1.cell h1 (fun f => by have := f.lo hlo; omega)).trans h7; have hl1 : wr.heap.size ≤ w1.heap.size := hk1.size; have h1a : b < w1.heap.size := (by omega); have HSL := hide hsl; have HBH2 := hide hbh1; have HLE1 := hide hle1; have HNEW1 := hide hnew1; have HK1 := hide hk1; clear hsl hbh1 hle1 hnew1 hk1)
            | (go_at_call_of 7 (Value.slice tao th.len tcap); refine (unhide IH th (by omega) (by omega) w1 b (.slice tao th.len tcap) vS' vE1 LE1 LS' (by omega) (((unhide HTH).keepF (unhide HD)).argKeep (unhide HK1) (fun k f => f.lo hlo)) (unhide HBH2) (by have := unhide HLE1; omega) (by omega)).mono ?_; rintro e w2 ⟨LE2, LS2, vS2, vE2, rfl, hsl, hbh1, hle1, hls1, hnew1, hnewS1, hk1⟩; have t3 := (hk1.cell h1a (fun f => by have := f.lo hlo; omega)).trans s3; have t4 := (hk1.cell h1a (fun f => by have := f.lo hlo; omega)).trans s4; have t5 := (hk1.cell h1a (fun f => by have := f.lo hlo; omega)).trans s5; have t6 := (hk1.cell h1a (fun f => by have := f.lo hlo; omega)).trans s6; have t7 := (hk1.cell h1a (fun f => by have := f.lo hlo; omega)).trans s7; have hl2 : w1.heap.size ≤ w2.heap.size := hk1.size; have h1b : b < w2.heap.size := (by omega); clear s3 s4 s5 s6 s7; have HSL2 := hide hsl; have HBH3 := hide hbh1; have HLE2 := hide hle1; have HLS2 := hide hls1; have HNEW2 := hide hnew1; have HNEWS2 := hide hnewS1; have HK2 := hide hk1; clear hsl hbh1 hle1 hls1 hnew1 hnewS1 hk1)
            | (go_at_call_of 7 (Value.slice eao el.len ecap); refine (unhide IH el (by omega) (by omega) w2 b (.slice eao el.len ecap) vS2 vE2 LE2 LS2 (by omega) ((((unhide HEL).keepF (unhide HD)).argKeep (unhide HK1) (fun k f => f.lo hlo)).argKeep (unhide HK2) (fun k f => f.lo hlo)) (unhide HBH3) (by have := unhide HLE1; have := unhide HLE2; omega) (by have := unhide HLS2; omega)).mono ?_; rintro e w3 ⟨LE3, LS3, vS3, vE3, rfl, hsl, hbh1, hle1, hls1, hnew1, hnewS1, hk1⟩; have u3 := (hk1.cell h1b (fun f => by have := f.lo hlo; omega)).trans t3; have u4 := (hk1.cell h1b (fun f => by have := f.lo hlo; omega)).trans t4; have u5 := (hk1.cell h1b (fun f => by have := f.lo hlo; omega)).trans t5; have u6 := (hk1.cell h1b (fun f => by have := f.lo hlo; omega)).trans t6; have u7 := (hk1.cell h1b (fun f => by have := f.lo hlo; omega)).trans t7; have hl3 : w2.heap.size ≤ w3.heap.size := hk1.size; clear t3 t4 t5 t6 t7; have hkk := bf_trans (bf_trans (unhide HK1) (unhide HK2)) hk1; have hb1 := (hkk.block w.heap.size hsw hnbf).trans (unhide HBLK); have a0 := (cell_of_blk hb1 (k * 5)).trans hx0; have z0 := frozen_of_blk hb1 (k * 5); have a1 := (cell_of_blk hb1 (k * 5 + 1)).trans hx1; have z1 := frozen_of_blk hb1 (k * 5 + 1); have a2 := (cell_of_blk hb1 (k * 5 + 2)).trans hx2; have z2 := frozen_of_blk hb1 (k * 5 + 2); have a3 := (cell_of_blk hb1 (k * 5 + 3)).trans hx3; have z3 := frozen_of_blk hb1 (k * 5 + 3); have a4 := (cell_of_blk hb1 (k * 5 + 4)).trans hx4; have z4 := frozen_of_blk hb1 (k * 5 + 4); have HB1 := hide hb1; have HKK := hide hkk; have HSL3 := hide hsl; have HBH4 := hide hbh1; have HLE3 := hide hle1; have HLS3 := hide hls1; have HNEW3 := hide hnew1; have HNEWS3 := hide hnewS1; have HK3 := hide hk1; have HNUM := hide (And.intro hl1 (And.intro hl2 (And.intro hl3 (And.intro hsz (And.intro hlen' (And.intro hB (And.intro hbd (And.intro hbs (And.intro hlen (And.intro hkl (And.intro hks (And.intro hsw (And.intro hle9 (And.intro hls9 hcs)))))))))))))); clear hb1 hkk hsl hbh1 hle1 hls1 hnew1 hnewS1 hk1 h3 h4 h5 h6 h7 h6' h7' hrun hc0 hcap hxl h1 h1a h1b hl1 hl2 hl3 hsz hlen' hB hbd hbs hkl hks hle9 hls9 hcs hbB hx0 hx1 hx2 hx3 hx4 hnbf)))
        go_wp2_with fail
        obtain ⟨hl1, hl2, hl3, hsz, hlen', hB, hbd, hbs, hlen2, hkl, hks, hsw2, hle9, hls9, hcs⟩ := unhide HNUM
        have hk := unhide HKP
        have hbh0 := unhide HBH
        have hbd1 := (unhide HBH1).keepF (unhide HD)
        have q1 := StIn.bf (unhide HBH3) (unhide HK3) (StIn.bf (unhide HBH2) (unhide HK2) (StIn.bf hbd1 (unhide HK1) ((unhide HPRE).keepF (unhide HD))))
        have q2 := SlE.bf (unhide HBH3) (unhide HK3) (SlE.bf (unhide HBH2) (unhide HK2) ((unhide HSL) w.heap.size hsw))
        have q3 := SlS.bf (unhide HBH3) (unhide HK3) ((unhide HSL2) w.heap.size (by omega))
        have q4 := (unhide HSL3) w.heap.size (by omega)
        obtain ⟨⟨c2, hc2, hcs2⟩, hx9⟩ := copyS_step (op := op) (f := f) (unhide HB1) hk (by omega) q1 q2 q3 q4
        have hne : ∀ p ∈ LE3, p.1 ≠ w.heap.size ∧ (p ∈ LE ∨ w.heap.size + 1 ≤ p.1) := fun p hp => by
          have key : p ∈ LE' ∨ wr.heap.size ≤ p.1 := by
            rcases (unhide HNEW3) p hp with h | h
            · rcases (unhide HNEW2) p h with h | h
              · exact (unhide HNEW1) p h
              · exact Or.inr (by omega)
            · exact Or.inr (by omega)
          rcases key with h | h
          · rcases (unhide HNEW) p h with h | h
            · have := hbh0.ltE h
              exact ⟨by omega, Or.inl h⟩
            · exact ⟨by omega, Or.inr h⟩
          · exact ⟨by omega, Or.inr (by omega)⟩
        have hneS : ∀ p ∈ LS3, p.1 ≠ w.heap.size ∧ (p ∈ LS ∨ w.heap.size + 1 ≤ p.1) := fun p hp => by
          have key : p ∈ LS' ∨ wr.heap.size ≤ p.1 := by
            rcases (unhide HNEWS3) p hp with h | h
            · rcases (unhide HNEWS2) p h with h | h
              · exact Or.inl h
              · exact Or.inr (by omega)
            · exact Or.inr (by omega)
          rcases key with h | h
          · rcases (unhide HNEWS) p h with h | h
            · have := hbh0.ltS h
              exact ⟨by omega, Or.inl h⟩
            · exact ⟨by omega, Or.inr h⟩
          · exact ⟨by omega, Or.inr (by omega)⟩
        have hks2 := set5_keeps w3 w.heap.size k (.int .i64 op) (str f) (.slice (some ⟨wr.heap.size, 0, none⟩) ex.len (ex.len + 8)) (.slice (some ⟨w1.heap.size, 0, none⟩) th.len (th.len + 8)) (.slice (some ⟨w2.heap.size, 0, none⟩) el.len (el.len + 8))
        have hkk := bf_trans (bf_any (unhide HD)) (unhide HKK)
        go_roundw
        case rel =>
          refine ⟨pre.app (.cons op f ex th el .nil), rest, k + 1, c2, LE3, LS3, vS3, vE3, by go_num, ?_, ?_, hc2, by omega, hx9, ?_, ?_, ?_, fun p hp => (hne p hp).2, fun p hp => (hneS p hp).2, ?_, ?_⟩
          · rw [app_oneS]; exact unhide HAPP
          · rw [SL.len_app, hk]; rfl
          · exact (unhide HBH4).apart (s := true) ⟨c, unhide HB1⟩ (fun p hp => (hne p hp).1) (fun p hp => (hneS p hp).1) hks2
          · have := unhide HLE1
            have := unhide HLE2
            have := unhide HLE3
            rw [SL.size_app]
            simp only [SL.size]
            omega
          · have := unhide HLS2
            have := unhide HLS3
            rw [SL.size_app]
            simp only [SL.size]
            omega
          · exact (bf_trans (unhide HK) hkk).then hks2 (fun i hi e => by omega)
          · rw [show off + (k + 1) * 5 = off + k * 5 + 5 by omega]
            exact ((unhide HR).argKeep hkk (fun k f => f.lo hbh0.lo)).argKeep hks2 (fun k e => by omega)
        case measure => simp [intOf]; omega
end Go.Proofs.YtlnkleicnkfkpaaDoor
namespace Go.Proofs.YtlnkleicnkfkpaaDoor
open Go.RowKit Go.Maps

/-- A row of lists lent out, as it is read. -/
theorem row_lent {w : World} {B e : Nat} {v : Value} {L : List (Nat × Nat)} (h : w.ownsRow B e 1 v L.length (L.map slv)) : ∃ ao cap r, v = .slice ao L.length cap ∧ (0 < L.length → ao = some ⟨r, 0, none⟩ ∧ r < w.heap.size) ∧ ∀ i p, L[i]? = some p → w.cell? ⟨r, i, none⟩ = some (slv p) := by
  rcases h.2 with ⟨hv, hn⟩ | ⟨g, cap, cur, hv, hb, hg, h1, h2, h3, h4⟩
  · refine ⟨none, 0, 0, by rw [hn]; exact hv, fun h0 => by omega, fun i p hp => ?_⟩
    have := (List.getElem?_eq_some_iff.1 hp).1
    omega
  · refine ⟨_, cap, g, hv, fun _ => ⟨rfl, lt_of_block hg⟩, fun i p hp => ?_⟩
    rw [cell_of_blk hg]
    have hi := (List.getElem?_eq_some_iff.1 hp).1
    have hm : (L.map slv)[i]? = some (slv p) := by simp [hp]
    rw [← h4, List.getElem?_take] at hm
    split at hm
    · simpa using hm
    · cases hm

set_option maxRecDepth 100000 in
set_option maxHeartbeats 1600000 in
theorem stay_v (B g : Nat) (LE LS : List (Nat × Nat)) (vS vE : Value) (w : World) (hBh : Bh w B g LE LS vS vE) (hle : LE.length ≤ 1000000000000) (hls : LS.length ≤ 1000000000000) :
    Calls Tryd.prog 11 #[.pointer (some ⟨g, 0, none⟩)] w fun e w' => e = .returned (.bool true) ∧ Keeps (fun _ => False) w w' := by
  have hbE : ∀ p ∈ LE, p.2 ≤ 2147483647 := fun p hp => by
    obtain ⟨_, _, _, h⟩ := hBh.ex p hp
    exact h
  have hbS : ∀ p ∈ LS, p.2 ≤ 2147483647 := fun p hp => by
    obtain ⟨_, _, _, h⟩ := hBh.st p hp
    exact h
  obtain ⟨oE, cE, rE, rfl, hE1, hE2⟩ := row_lent hBh.rowE
  obtain ⟨oS, cS, rS, rfl, hS1, hS2⟩ := row_lent hBh.rowS
  have g1 := (cell_of_blk hBh.blk 1).trans (show (#[Value.slice oS LS.length cS, Value.slice oE LE.length cE] : Array Value)[1]? = some (.slice oE LE.length cE) from rfl)
  have g0 := (cell_of_blk hBh.blk 0).trans (show (#[Value.slice oS LS.length cS, Value.slice oE LE.length cE] : Array Value)[0]? = some (.slice oS LS.length cS) from rfl)
  have hgl := lt_of_block hBh.blk
  have HBH := hide hBh
  have HE1 := hide hE1
  have HE2 := hide hE2
  have HS1 := hide hS1
  have HS2 := hide hS2
  have HBE := hide hbE
  have HBS := hide hbS
  clear hBh hE1 hE2 hS1 hS2 hbE hbS
  have G0 := hide g0
  have G1 := hide g1
  clear g0 g1
  go_enter Tryd.func11, Tryd.ntmps11
  go_wp2_with fail
  go_loopw [3] (fun i wr => ∃ k : Nat, k ≤ LE.length ∧ i = .int .i64 k ∧ Keeps (fun _ => False) w wr) (fun i _ => LE.length - (intOf i).toNat)
  case atStart => exact ⟨0, Nat.zero_le _, rfl, Keeps.refl _ _⟩
  case round =>
    obtain ⟨k, hk, rfl, hkp⟩ := hrel
    have c1 := (hkp.cell (o := 1) hgl id).trans (unhide G1)
    have HK := hide hkp
    clear hkp
    by_cases hlt : k < LE.length
    · obtain ⟨p, hp⟩ : ∃ p, LE[k]? = some p := ⟨_, List.getElem?_eq_getElem hlt⟩
      obtain ⟨rfl, hrl⟩ := (unhide HE1) (by omega)
      have cr := ((unhide HK).cell (o := k) hrl id).trans ((unhide HE2) k p hp)
      have hpm := List.mem_of_getElem? hp
      have hpb := (unhide HBE) p hpm
      have HM := hide ((unhide HBH).ex p hpm)
      have HCR := hide ((unhide HE2) k p hp)
      obtain ⟨a, n⟩ := p
      unfold slv at cr HCR
      simp only at cr hpb HCR
      have i1 : (k : Int) < (LE.length : Int) := by omega
      have i0 : (0 : Int) ≤ (k : Int) := by omega
      clear hp hpm
      go_wp2_with fail
      go_loopw [4] (fun i w2 => ∃ j : Nat, n ≤ j ∧ j ≤ n + 8 ∧ i = .int .i64 j ∧ Keeps (fun _ => False) w w2) (fun i _ => n + 8 - (intOf i).toNat)
      case atStart => exact ⟨n, Nat.le_refl _, by omega, by go_num, unhide HK⟩
      case round =>
        obtain ⟨j, hj1, hj2, rfl, hkp⟩ := hrel
        clear c1 cr
        have c1 := (hkp.cell (o := 1) hgl id).trans (unhide G1)
        have cr := (hkp.cell (o := k) hrl id).trans (unhide HCR)
        have HK2 := hide hkp
        have j0 : (0 : Int) ≤ (j : Int) := by omega
        by_cases hj8 : j < n + 8
        · have j1 : (j : Int) < (n : Int) + 8 := by omega
          obtain ⟨c, hc, hm, _⟩ := unhide HM
          obtain ⟨m0, m2⟩ := hm j hj1 hj8
          have e0 := (hkp.cell (o := j * 4) (lt_of_block hc) id).trans ((cell_of_blk hc _).trans m0)
          have e2 := (hkp.cell (o := j * 4 + 2) (lt_of_block hc) id).trans ((cell_of_blk hc _).trans m2)
          simp only at e0 e2
          clear hc hm m0 m2 hkp
          go_wp2_with fail
          go_roundw
          case rel => exact ⟨j + 1, by omega, by omega, by go_num, unhide HK2⟩
          case measure => simp [intOf]; omega
        · have j1 : ¬ (j : Int) < (n : Int) + 8 := by omega
          clear hkp
          go_wp2_with fail
          go_roundw
          case rel => exact ⟨k + 1, by omega, by go_num, unhide HK2⟩
          case measure => simp [intOf]; omega
    · have i1 : ¬ (k : Int) < (LE.length : Int) := by omega
      go_wp2_with fail
      have HK0 := hide (unhide HK)
      clear c1
      go_loopw [5] (fun i wr => ∃ k : Nat, k ≤ LS.length ∧ i = .int .i64 k ∧ Keeps (fun _ => False) w wr) (fun i _ => LS.length - (intOf i).toNat)
      case atStart => exact ⟨0, Nat.zero_le _, rfl, unhide HK⟩
      case round =>
        obtain ⟨k, hk, rfl, hkp⟩ := hrel
        have c1 := (hkp.cell (o := 0) hgl id).trans (unhide G0)
        have HK := hide hkp
        clear hkp
        by_cases hlt : k < LS.length
        · obtain ⟨p, hp⟩ : ∃ p, LS[k]? = some p := ⟨_, List.getElem?_eq_getElem hlt⟩
          obtain ⟨rfl, hrl⟩ := (unhide HS1) (by omega)
          have cr := ((unhide HK).cell (o := k) hrl id).trans ((unhide HS2) k p hp)
          have hpm := List.mem_of_getElem? hp
          have hpb := (unhide HBS) p hpm
          have HM := hide ((unhide HBH).st p hpm)
          have HCR := hide ((unhide HS2) k p hp)
          obtain ⟨a, n⟩ := p
          unfold slv at cr HCR
          simp only at cr hpb HCR
          have i1 : (k : Int) < (LS.length : Int) := by omega
          have i0 : (0 : Int) ≤ (k : Int) := by omega
          clear hp hpm
          go_wp2_with fail
          go_loopw [6] (fun i w2 => ∃ j : Nat, n ≤ j ∧ j ≤ n + 8 ∧ i = .int .i64 j ∧ Keeps (fun _ => False) w w2) (fun i _ => n + 8 - (intOf i).toNat)
          case atStart => exact ⟨n, Nat.le_refl _, by omega, by go_num, unhide HK⟩
          case round =>
            obtain ⟨j, hj1, hj2, rfl, hkp⟩ := hrel
            clear c1 cr
            have c1 := (hkp.cell (o := 0) hgl id).trans (unhide G0)
            have cr := (hkp.cell (o := k) hrl id).trans (unhide HCR)
            have HK2 := hide hkp
            have j0 : (0 : Int) ≤ (j : Int) := by omega
            by_cases hj8 : j < n + 8
            · have j1 : (j : Int) < (n : Int) + 8 := by omega
              obtain ⟨c, hc, hm, _⟩ := unhide HM
              obtain ⟨m0, m2⟩ := hm j hj1 hj8
              have e0 := (hkp.cell (o := j * 5) (lt_of_block hc) id).trans ((cell_of_blk hc _).trans m0)
              have e2 := (hkp.cell (o := j * 5 + 1) (lt_of_block hc) id).trans ((cell_of_blk hc _).trans m2)
              simp only at e0 e2
              clear hc hm m0 m2 hkp
              go_wp2_with fail
              go_roundw
              case rel => exact ⟨j + 1, by omega, by omega, by go_num, unhide HK2⟩
              case measure => simp [intOf]; omega
            · have j1 : ¬ (j : Int) < (n : Int) + 8 := by omega
              clear hkp
              go_wp2_with fail
              go_roundw
              case rel => exact ⟨k + 1, by omega, by go_num, unhide HK2⟩
              case measure => simp [intOf]; omega
        · have i1 : ¬ (k : Int) < (LS.length : Int) := by omega
          go_wp2_with fail
          go_ret
          exact ⟨rfl, unhide HK⟩
end Go.Proofs.YtlnkleicnkfkpaaDoor
