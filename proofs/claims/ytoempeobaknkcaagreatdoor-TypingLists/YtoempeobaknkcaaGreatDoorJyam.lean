import Derived.Test.YtoempeobaknkcaaGreatDoorJyaq
import Derived.Deep.DeepCutAuto
import Derived.Deep.AppendLies
import Derived.Test.YtoempeobaknkcaaGreatDoorJyaw
namespace Go.Proofs.YtoempeobaknkcaaGreatDoor
open Go.RowKit Go.Maps

/-- What the lending of a list of expressions leaves. -/
def RxPost (B g : Nat) (LE LS : List Lent) (vS vNS : Value) (l : EL) (w : World) (e : Ending) (w' : World) : Prop :=
  ∃ v' LE' vE' vNE', e = .returned v' ∧ SlE (tyZ (fun k => w.heap.size ≤ k)) w' 0 v' l ∧ RoomsAt w' B g LE' LS vS vE' vNS vNE' ∧ (∀ p ∈ LE', p ∈ LE ∨ w.heap.size ≤ p.g) ∧ LE'.length ≤ LE.length + l.size + 1 ∧ Keeps (BF w B g) w w'

theorem BF.old {w w' : World} {B g k : Nat} (hk : Keeps (fun _ => False) w w') (hl : k < w.heap.size) (h : BF w' B g k) : BF w B g k := by
  rcases h with rfl | ⟨hB, c, t, ht, hc⟩
  · exact Or.inl rfl
  · exact Or.inr ⟨hB, c, t, ht, (hk.block k hl id).symm.trans hc⟩
theorem bf_of {w w1 w' : World} {B g : Nat} (hk : Keeps (fun _ => False) w w1) (h : Keeps (BF w1 B g) w1 w') : Keeps (BF w B g) w w' :=
  (hk.any (G := BF w B g)).then h fun _ hi hf => BF.old hk hi hf
theorem bf_two {w w1 w' : World} {B g : Nat} {F : Nat → Prop} (h : Keeps (BF w B g) w w1) (k : Keeps F w1 w') (hF : ∀ i, i < w.heap.size → F i → False) : Keeps (BF w B g) w w' :=
  h.then k fun i hi hf => (hF i hi hf).elim

set_option maxRecDepth 100000 in
set_option maxHeartbeats 2000000 in
theorem rExpr_of (B g : Nat) (LE LS : List Lent) (vS vE vNS vNE : Value) (op n : Int) (s : Txt) (kids : EL) (v : Value) (w : World) (hR : RoomsAt w B g LE LS vS vE vNS vNE) (hv : ∃ ao cap, v = .slice ao kids.len cap) (hK : ∀ w', Keeps (fun _ => False) w w' → Calls Tryz.prog 28 #[.pointer (some ⟨g, 0, none⟩), v] w' (RxPost B g LE LS vS vNS kids w')) :
    Calls Tryz.prog 45 #[.pointer (some ⟨g, 0, none⟩), exV op n s v] w fun e w' => ∃ v' LE' vE' vNE', e = .returned (exV op n s v') ∧ SlE (tyZ (fun k => w.heap.size ≤ k)) w' 0 v' kids ∧ RoomsAt w' B g LE' LS vS vE' vNS vNE' ∧ (∀ p ∈ LE', p ∈ LE ∨ w.heap.size ≤ p.g) ∧ LE'.length ≤ LE.length + kids.size + 1 ∧ Keeps (BF w B g) w w' := by
  obtain ⟨ao, cap, rfl⟩ := hv
  obtain ⟨X, hX⟩ : ∃ X, (w.alloc (.cells #[.int .i64 op, .int .i64 n, str s, .slice ao kids.len cap] 57)).alloc (.cells #[.int .i64 0, .int .i64 0, .string ⟨#[]⟩, .slice none 0 0] 57) = X := ⟨_, rfl⟩
  have hKX : Keeps (fun _ => False) w X := by rw [← hX]; exact ((Keeps.refl _ w).alloc _).alloc _
  have e1 : (w.alloc (.cells #[.int .i64 op, .int .i64 n, str s, .slice ao kids.len cap] 57)).heap.size = w.heap.size + 1 := by simp
  have e2 : X.heap.size = w.heap.size + 2 := by rw [← hX]; simp
  have hb0 : X.heap[w.heap.size]? = some (.cells #[.int .i64 op, .int .i64 n, str s, .slice ao kids.len cap] 57 (0, 0)) := by
    rw [← hX]
    exact (((Keeps.refl (fun _ => False) _).alloc _).block _ (by rw [e1]; omega) id).trans (heap_alloc_new w _)
  have hb1 : X.heap[w.heap.size + 1]? = some (.cells #[.int .i64 0, .int .i64 0, .string ⟨#[]⟩, .slice none 0 0] 57 (0, 0)) := by
    have := heap_alloc_new (w.alloc (.cells #[.int .i64 op, .int .i64 n, str s, .slice ao kids.len cap] 57)) (.cells #[.int .i64 0, .int .i64 0, .string ⟨#[]⟩, .slice none 0 0] 57)
    rw [e1, hX] at this
    exact this
  have c3 : X.cell? ⟨w.heap.size, 3, none⟩ = some (.slice ao kids.len cap) := by rw [cell_of_blk hb0]; rfl
  have HC := hide (hK X hKX)
  have HX := hide hX
  have HKX := hide hKX
  have HB0 := hide hb0
  have HB1 := hide hb1
  have HE2 := hide e2
  have HG := hide (lt_of_block hR.blk)
  have HLE := hide (fun p (hp : p ∈ LE) => (show p.g < w.heap.size from by obtain ⟨_, c, hc, _⟩ := hR.ex p hp; exact lt_of_block hc))
  have HLS := hide (fun p (hp : p ∈ LS) => (show p.g < w.heap.size from by obtain ⟨_, c, hc, _⟩ := hR.st p hp; exact lt_of_block hc))
  have hne : ¬ w.heap.size = w.heap.size + 1 := by omega
  have hn : ∀ k c, w.heap.size ≤ k → X.heap[k]? = some (.cells c 57 (0, 0)) → ¬ BF X B g k := by
    rintro k c hkk hc (rfl | ⟨_, x, t, ht, hx⟩)
    · have := unhide HG; omega
    · rw [hx] at hc
      simp only [Option.some.injEq, Obj.cells.injEq] at hc
      rcases ht with rfl | rfl | rfl <;> simp at hc
  have HN0 := hide (hn _ _ (Nat.le_refl _) hb0)
  have HN1 := hide (hn _ _ (Nat.le_succ _) hb1)
  clear hK hb0 hb1 e1 e2 hX hKX hR hn
  go_enter Tryz.func45, Tryz.ntmps45
  go_wp2_with (go_at_call 28; rw [unhide HX]; refine (unhide HC).mono ?_; rintro e w1 ⟨v', LE', vE', vNE', rfl, hs', hr', hl', hn', hk1⟩; obtain ⟨vo, vc, rfl, hvc⟩ := hs'.head; have k0 := (hk1.block _ (lt_of_block (unhide HB0)) (unhide HN0)).trans (unhide HB0); have k1 := (hk1.block _ (lt_of_block (unhide HB1)) (unhide HN1)).trans (unhide HB1); have y0 := cell_of_blk k0 0; have y1 := cell_of_blk k0 1; have y2 := cell_of_blk k0 2; have y3 := cell_of_blk k0 3; have f3 := frozen_of_blk k0 3; have m0 := cell_of_blk k1 0; have m1 := cell_of_blk k1 1; have m2 := cell_of_blk k1 2; have m3 := cell_of_blk k1 3; have g0 := frozen_of_blk k1 0; have g1 := frozen_of_blk k1 1; have g2 := frozen_of_blk k1 2; have g3 := frozen_of_blk k1 3; simp at y0 y1 y2 y3 m0 m1 m2 m3; have HS1 := hide hs'; have HR1 := hide hr'; have HL1 := hide hl'; have HLN := hide hn'; have HK1 := hide hk1; have K0 := hide k0; have K1 := hide k1; clear hs' hr' hl' hn' hk1 k0 k1)
  have hks : Keeps (fun q => q = w.heap.size ∨ q = w.heap.size + 1) w1 (((((w1.setCell ⟨w.heap.size, 3, none⟩ (.slice vo kids.len vc)).setCell ⟨w.heap.size + 1, 0, none⟩ (.int .i64 op)).setCell ⟨w.heap.size + 1, 1, none⟩ (.int .i64 n)).setCell ⟨w.heap.size + 1, 2, none⟩ (str s)).setCell ⟨w.heap.size + 1, 3, none⟩ (.slice vo kids.len vc)) :=
    (((((Keeps.refl _ w1).setCell (p := ⟨w.heap.size, 3, none⟩) (fun _ => Or.inl rfl) _).setCell (p := ⟨w.heap.size + 1, 0, none⟩) (fun _ => Or.inr rfl) _).setCell (p := ⟨w.heap.size + 1, 1, none⟩) (fun _ => Or.inr rfl) _).setCell (p := ⟨w.heap.size + 1, 2, none⟩) (fun _ => Or.inr rfl) _).setCell (p := ⟨w.heap.size + 1, 3, none⟩) (fun _ => Or.inr rfl) _
  have hkw := bf_of (unhide HKX) (unhide HK1)
  have e2 := unhide HE2
  refine bodyPost_ret (v := exV op n s (.slice vo kids.len vc)) (by simp [results, go_sem, m0, m1, m2, m3]) rfl ⟨_, LE', vE', vNE', rfl, ?_, ?_, ?_, unhide HLN, bf_two hkw hks (fun i hi e => by omega)⟩
  · exact ((unhide HS1).tyKeep hks (fun sb k c hA _ e => by omega)).tyMono (fun k _ h => by omega)
  · refine (unhide HR1).tree (fun k _ e => ?_) (fun p hp e => ?_) (fun p hp e => ?_) hks
    · rcases e with rfl | rfl
      · exact ⟨false, _, unhide K0⟩
      · exact ⟨false, _, unhide K1⟩
    · rcases unhide HL1 p hp with h | h
      · have := unhide HLE p h; omega
      · omega
    · have := unhide HLS p hp; omega
  · intro p hp
    rcases unhide HL1 p hp with h | h
    · exact Or.inl h
    · exact Or.inr (by omega)
end Go.Proofs.YtoempeobaknkcaaGreatDoor
namespace Go.Proofs.YtoempeobaknkcaaGreatDoor
open Go.RowKit Go.Maps

/-- A mark behind expressions. -/
def markRE (k : Nat) : List Value := [.int .i64 77, .int .i64 (k : Int), .string ⟨#[]⟩, .slice none 0 0]
def marksRE (j : Nat) : List Value := (List.range j).flatMap markRE
theorem marksRE_succ (j : Nat) : marksRE (j + 1) = marksRE j ++ markRE j := by simp [marksRE, List.range_succ]
theorem marksRE_at {j k m : Nat} (hk : k < j) (hm : m < 4) : (marksRE j)[k * 4 + m]? = (markRE k)[m]? := by
  induction j with
  | zero => omega
  | succ j ih =>
    have hl : (marksRE j).length = j * 4 := by
      clear ih hk
      induction j with
      | zero => rfl
      | succ j ih => rw [marksRE_succ, List.length_append, ih]; simp [markRE]; omega
    rw [marksRE_succ]
    by_cases h : k < j
    · rw [List.getElem?_append_left (by omega)]
      exact ih h
    · obtain rfl : k = j := by omega
      rw [List.getElem?_append_right (by omega), hl, Nat.add_sub_cancel_left]
theorem one_markRE (k : Nat) : ∀ u ∈ markRE k, u.oneCell' = true := by
  intro u hu
  simp only [markRE, List.mem_cons, List.not_mem_nil, or_false] at hu
  rcases hu with rfl | rfl | rfl | rfl <;> rfl
theorem one_ex (op n : Int) (s : Txt) (o : Option Addr) (a b : Nat) : ∀ u ∈ [Value.int .i64 op, .int .i64 n, str s, .slice o a b], u.oneCell' = true := by
  intro u hu
  simp only [List.mem_cons, List.not_mem_nil, or_false] at hu
  rcases hu with rfl | rfl | rfl | rfl <;> rfl
theorem Tryz.info51 : (Tryz.prog.info? 51).map (fun i => (i.zero, i.size, i.bytes)) = some (some (.slice none 0 0), 1, 24) := by kernel_rfl
theorem Tryz.info3' : (Tryz.prog.info? 3).map (fun i => (i.zero, i.size, i.bytes)) = some (some (.int .i64 0), 1, 8) := by kernel_rfl
theorem RoomsAt.st_typed {w : World} {B g : Nat} {LE LS : List Lent} {vS vE vNS vNE : Value} (h : RoomsAt w B g LE LS vS vE vNS vNE) {p : Lent} (hp : p ∈ LS) {c : Array Value} (hc : w.heap[p.g]? = some (.cells c 57 (0, 0))) : False := by
  obtain ⟨_, c', hc', _⟩ := h.st p hp
  rw [hc] at hc'
  simp at hc'
/-- The row that is being filled is written: the book stays. -/
theorem RoomsAt.row {w w' : World} {B g N k : Nat} {LE LS : List Lent} {vS vE vNS vNE o : Value} {xs : List Value} (h : RoomsAt w B g LE LS vS vE vNS vNE) (ho : w.ownsRow N 57 4 o k xs) (hp : ∀ p ∈ LE, o.ownBlock ≠ some p.g) (hk : Keeps (fun q => o.ownBlock = some q) w w') : RoomsAt w' B g LE LS vS vE vNS vNE :=
  h.tree (fun q _ e => by obtain ⟨_, c, hc⟩ := own_typed ho e; exact ⟨false, c, hc⟩) hp (fun p hp' e => by obtain ⟨_, c, hc⟩ := own_typed ho e; exact h.st_typed hp' hc) hk
theorem row_bf {w : World} {B g N k : Nat} {LE LS : List Lent} {vS vE vNS vNE o : Value} {xs : List Value} (h : RoomsAt w B g LE LS vS vE vNS vNE) (ho : w.ownsRow N 57 4 o k xs) (q : Nat) (e : o.ownBlock = some q) : ¬ BF w B g q := by
  obtain ⟨_, c, hc⟩ := own_typed ho e
  exact ty_bf (s := false) h hc
theorem RoomsAt.ex_lt {w : World} {B g : Nat} {LE LS : List Lent} {vS vE vNS vNE : Value} (h : RoomsAt w B g LE LS vS vE vNS vNE) {p : Lent} (hp : p ∈ LE) : p.g < w.heap.size := by
  obtain ⟨_, c, hc, _⟩ := h.ex p hp
  exact lt_of_block hc
/-- The zone of what was handed in. -/
def Plain (Z : Zone) (B : Nat) : Prop := ∀ (w1 w2 : World) (s : Bool) (k : Nat), Z.G w1 s k → k < B ∧ Z.G w2 s k
theorem SlE.plain {Z : Zone} {B g : Nat} {w w' : World} {up : Nat} {v : Value} {l : EL} (hZ : Plain Z B) (hg : B ≤ g) (h : SlE Z w up v l) (hk : Keeps (BF w B g) w w') : SlE Z w' up v l :=
  SlE.keep (Q := fun _ => True) (fun _ _ _ _ => trivial) hk (fun s k _ _ hG => ⟨fun e => by have := (hZ w w' s k hG).1; have := e.lo hg; omega, (hZ w w' s k hG).2⟩) trivial h

end Go.Proofs.YtoempeobaknkcaaGreatDoor
namespace Go.Proofs.YtoempeobaknkcaaGreatDoor
open Go.RowKit Go.Maps

theorem typed_ne {w : World} {k : Nat} {c c' : Array Value} {t t' : TypeId} {f f' : Nat × Nat} (h : w.heap[k]? = some (.cells c t f)) (h' : w.heap[k]? = some (.cells c' t' f')) (hn : t ≠ t') : False := by
  rw [h] at h'
  simp only [Option.some.injEq, Obj.cells.injEq] at h'
  exact hn h'.2.1
/-- The book while an entry is being made: the lists and their counts may part. -/
structure Rooms2 (w : World) (B g : Nat) (LE LN LS : List Lent) (vS vE vNS vNE : Value) : Prop where
  lo : B ≤ g
  blk : w.heap[g]? = some (.cells #[vS, vE, vNS, vNE] 47 (0, 0))
  rowS : w.ownsRow B 25 1 vS LS.length (LS.map Lent.v)
  rowE : w.ownsRow B 51 1 vE LE.length (LE.map Lent.v)
  rowNS : w.ownsRow B 3 1 vNS LS.length (LS.map Lent.c)
  rowNE : w.ownsRow B 3 1 vNE LN.length (LN.map Lent.c)
  apart : ∀ q, vNS.ownBlock = some q → vNE.ownBlock = some q → False
  ex : ∀ p ∈ LE, MarkE w p
  st : ∀ p ∈ LS, MarkS w p
theorem RoomsAt.two {w : World} {B g : Nat} {LE LS : List Lent} {vS vE vNS vNE : Value} (h : RoomsAt w B g LE LS vS vE vNS vNE) : Rooms2 w B g LE LE LS vS vE vNS vNE := ⟨h.lo, h.blk, h.rowS, h.rowE, h.rowNS, h.rowNE, h.apart, h.ex, h.st⟩
theorem Rooms2.one {w : World} {B g : Nat} {LE LS : List Lent} {vS vE vNS vNE : Value} (h : Rooms2 w B g LE LE LS vS vE vNS vNE) : RoomsAt w B g LE LS vS vE vNS vNE := ⟨h.lo, h.blk, h.rowS, h.rowE, h.rowNS, h.rowNE, h.apart, h.ex, h.st⟩
section
variable {w w3 : World} {B g ge ce : Nat} {LE LN LS : List Lent} {vS vE vNS vNE : Value} {P : Lent}
theorem Rooms2.keeps (h : Rooms2 w B g LE LN LS vS vE vNS vNE) {r : Value} {e n : Nat} {xs : List Value} (hr : w.ownsRow B e 1 r n xs) (he : e = 25 ∨ e = 51 ∨ e = 3) {F : Nat → Prop} {w' : World} (hk : Keeps F w w') (hF : ∀ q, F q → q = g ∨ r.ownBlock = some q) : Keeps (BF w B g) w w' :=
  hk.mono fun q _ hq => by
    rcases hF q hq with rfl | e'
    · exact Or.inl rfl
    · obtain ⟨h1, c, hc⟩ := own_typed hr e'
      exact Or.inr ⟨h1, c, e, he, hc⟩
/-- A list is entered. -/
theorem Rooms2.entE (h : Rooms2 w B g LE LN LS vS vE vNS vNE) (hP : MarkE w P) (hk : Keeps (fun q => vE.ownBlock = some q) w w3) (ho : w3.ownsRow B 51 1 (.slice (some ⟨ge, 0, none⟩) (LE.length + 1) ce) (LE.length + 1) (LE.map Lent.v ++ [P.v])) :
    w3.heap[g]? = some (.cells #[vS, vE, vNS, vNE] 47 (0, 0)) ∧ Rooms2 (w3.setCell ⟨g, 1, none⟩ (.slice (some ⟨ge, 0, none⟩) (LE.length + 1) ce)) B g (LE ++ [P]) LN LS vS (.slice (some ⟨ge, 0, none⟩) (LE.length + 1) ce) vNS vNE ∧ Keeps (BF w B g) w (w3.setCell ⟨g, 1, none⟩ (.slice (some ⟨ge, 0, none⟩) (LE.length + 1) ce)) := by
  have hn : ∀ k c t, w.heap[k]? = some (.cells c t (0, 0)) → t ≠ 51 → ¬ vE.ownBlock = some k := fun k c t hc ht e => by
    obtain ⟨_, c', hc'⟩ := own_typed h.rowE e
    exact typed_ne hc hc' ht
  have hg3 := (hk.block g (lt_of_block h.blk) (hn g _ 47 h.blk (by decide))).trans h.blk
  have hks := keeps_set w3 g 1 (.slice (some ⟨ge, 0, none⟩) (LE.length + 1) ce)
  have hk2 : Keeps (fun q => q = g ∨ vE.ownBlock = some q) w (w3.setCell ⟨g, 1, none⟩ (.slice (some ⟨ge, 0, none⟩) (LE.length + 1) ce)) := (hk.mono (fun _ _ e => Or.inr e)).trans (((Keeps.refl _ w3).setCell (p := ⟨g, 1, none⟩) (fun _ => Or.inl rfl) _))
  have hF : ∀ k c t, w.heap[k]? = some (.cells c t (0, 0)) → t ≠ 47 → t ≠ 51 → ¬ (k = g ∨ vE.ownBlock = some k) := fun k c t hc h1 h2 e => by
    rcases e with rfl | e
    · exact typed_ne hc h.blk h1
    · exact hn k c t hc h2 e
  refine ⟨hg3, ⟨h.lo, ?_, ?_, ?_, ?_, ?_, h.apart, ?_, ?_⟩, h.keeps h.rowE (Or.inr (Or.inl rfl)) hk2 (fun q e => e)⟩
  · exact heap_setCell_at (o := 1) hg3 _
  · exact ownsRow_kept h.rowS hk2 (fun q e => by obtain ⟨_, c, hc⟩ := own_typed h.rowS e; exact hF q c 25 hc (by decide) (by decide))
  · have := ownsRow_kept ho hks (fun q e f => by obtain ⟨_, c, hc⟩ := own_typed ho e; subst f; exact typed_ne hc hg3 (by decide))
    simpa using this
  · exact ownsRow_kept h.rowNS hk2 (fun q e => by obtain ⟨_, c, hc⟩ := own_typed h.rowNS e; exact hF q c 3 hc (by decide) (by decide))
  · exact ownsRow_kept h.rowNE hk2 (fun q e => by obtain ⟨_, c, hc⟩ := own_typed h.rowNE e; exact hF q c 3 hc (by decide) (by decide))
  · intro p hp
    rcases List.mem_append.1 hp with hp | hp
    · have hm := h.ex p hp
      obtain ⟨_, c, hc, _⟩ := hm
      exact (h.ex p hp).keep hk2 (hF _ c 57 hc (by decide) (by decide))
    · obtain rfl := List.mem_singleton.1 hp
      have hP2 := hP
      obtain ⟨_, c, hc, _⟩ := hP2
      exact hP.keep hk2 (hF _ c 57 hc (by decide) (by decide))
  · intro p hp
    obtain ⟨_, c, hc, _⟩ := h.st p hp
    exact (h.st p hp).keep hk2 (hF _ c 53 hc (by decide) (by decide))
/-- Its count is entered. -/
theorem Rooms2.entNE (h : Rooms2 w B g LE LN LS vS vE vNS vNE) (hk : Keeps (fun q => vNE.ownBlock = some q) w w3) (ho : w3.ownsRow B 3 1 (.slice (some ⟨ge, 0, none⟩) (LN.length + 1) ce) (LN.length + 1) (LN.map Lent.c ++ [P.c])) (ha : vNE.ownBlock = some ge ∨ w.heap.size ≤ ge) :
    w3.heap[g]? = some (.cells #[vS, vE, vNS, vNE] 47 (0, 0)) ∧ Rooms2 (w3.setCell ⟨g, 3, none⟩ (.slice (some ⟨ge, 0, none⟩) (LN.length + 1) ce)) B g LE (LN ++ [P]) LS vS vE vNS (.slice (some ⟨ge, 0, none⟩) (LN.length + 1) ce) ∧ Keeps (BF w B g) w (w3.setCell ⟨g, 3, none⟩ (.slice (some ⟨ge, 0, none⟩) (LN.length + 1) ce)) := by
  have hn : ∀ k c t, w.heap[k]? = some (.cells c t (0, 0)) → t ≠ 3 → ¬ vNE.ownBlock = some k := fun k c t hc ht e => by
    obtain ⟨_, c', hc'⟩ := own_typed h.rowNE e
    exact typed_ne hc hc' ht
  have hg3 := (hk.block g (lt_of_block h.blk) (hn g _ 47 h.blk (by decide))).trans h.blk
  have hks := keeps_set w3 g 3 (.slice (some ⟨ge, 0, none⟩) (LN.length + 1) ce)
  have hk2 : Keeps (fun q => q = g ∨ vNE.ownBlock = some q) w (w3.setCell ⟨g, 3, none⟩ (.slice (some ⟨ge, 0, none⟩) (LN.length + 1) ce)) := (hk.mono (fun _ _ e => Or.inr e)).trans (((Keeps.refl _ w3).setCell (p := ⟨g, 3, none⟩) (fun _ => Or.inl rfl) _))
  have hF : ∀ k c t, w.heap[k]? = some (.cells c t (0, 0)) → t ≠ 47 → t ≠ 3 → ¬ (k = g ∨ vNE.ownBlock = some k) := fun k c t hc h1 h2 e => by
    rcases e with rfl | e
    · exact typed_ne hc h.blk h1
    · exact hn k c t hc h2 e
  refine ⟨hg3, ⟨h.lo, ?_, ?_, ?_, ?_, ?_, ?_, ?_, ?_⟩, h.keeps h.rowNE (Or.inr (Or.inr rfl)) hk2 (fun q e => e)⟩
  · exact heap_setCell_at (o := 3) hg3 _
  · exact ownsRow_kept h.rowS hk2 (fun q e => by obtain ⟨_, c, hc⟩ := own_typed h.rowS e; exact hF q c 25 hc (by decide) (by decide))
  · exact ownsRow_kept h.rowE hk2 (fun q e => by obtain ⟨_, c, hc⟩ := own_typed h.rowE e; exact hF q c 51 hc (by decide) (by decide))
  · refine ownsRow_kept h.rowNS hk2 (fun q e f => ?_)
    rcases f with rfl | f
    · obtain ⟨_, c, hc⟩ := own_typed h.rowNS e
      exact typed_ne hc h.blk (by decide)
    · exact h.apart q e f
  · have := ownsRow_kept ho hks (fun q e f => by obtain ⟨_, c, hc⟩ := own_typed ho e; subst f; exact typed_ne hc hg3 (by decide))
    simpa using this
  · intro q e f
    have f' : ge = q := by simpa [Value.ownBlock] using f
    rcases ha with ha | ha
    · exact h.apart q e (by rw [ha, f'])
    · have := own_lt h.rowNS e
      omega
  · intro p hp
    obtain ⟨_, c, hc, _⟩ := h.ex p hp
    exact (h.ex p hp).keep hk2 (hF _ c 57 hc (by decide) (by decide))
  · intro p hp
    obtain ⟨_, c, hc, _⟩ := h.st p hp
    exact (h.st p hp).keep hk2 (hF _ c 53 hc (by decide) (by decide))
end
end Go.Proofs.YtoempeobaknkcaaGreatDoor
namespace Go.Proofs.YtoempeobaknkcaaGreatDoor
open Go.RowKit Go.Maps

set_option maxRecDepth 100000 in
set_option maxHeartbeats 8000000 in
theorem rExprs_v (Z : Zone) (B g : Nat) (hZ : Plain Z B) (LS : List Lent) (vS vNS : Value) (N : Nat) : ∀ (l : EL), l.size < N → l.size ≤ 4294967294 → ∀ (w : World) (up : Nat) (v : Value) (LE : List Lent) (vE vNE : Value), SlE Z w up v l → RoomsAt w B g LE LS vS vE vNS vNE → LE.length + l.size + 1 ≤ 100000000000 →
    Calls Tryz.prog 28 #[.pointer (some ⟨g, 0, none⟩), v] w (RxPost B g LE LS vS vNS l w) := by
  induction N with
  | zero => intro l h; omega
  | succ N ih =>
    intro l hsz hlen' w up v LE vE vNE hS hR hLB
    have hlen : l.len ≤ 4294967294 := by have := EL.len_le l; omega
    obtain ⟨ao, cap, b, off, rfl, hcap, ha, hx⟩ := hS.open
    obtain ⟨i0, hi, hz0, hz1, hz2⟩ := info_parts Tryz.info57
    obtain ⟨i1_, hi1, hy0, hy1, hy2⟩ := info_parts Tryz.info51
    obtain ⟨i2_, hi2, hx0, hx1, hx2⟩ := info_parts Tryz.info3'
    have hlo := hR.lo
    have IH := hide ih
    have HX := hide hx
    have HA := hide ha
    have HLB := hide hLB
    have HZ := hide hZ
    clear hS ih hx ha hZ
    go_enter Tryz.func28, Tryz.ntmps28
    go_wp2_with fail
    go_loopw [5, 6] (fun o i wr => ∃ (pre rest : EL) (k : Nat) (xs : List Value) (A : Nat → Prop) (LE1 : List Lent) (vE1 vNE1 : Value), i = .int .i64 k ∧ l = pre.app rest ∧ k = pre.len ∧ wr.ownsRow w.heap.size 57 4 o k xs ∧ TsE A wr pre xs ∧ (∀ q, A q → w.heap.size ≤ q ∧ q < wr.heap.size ∧ o.ownBlock ≠ some q) ∧ RoomsAt wr B g LE1 LS vS vE1 vNS vNE1 ∧ (∀ p ∈ LE1, (p ∈ LE ∨ w.heap.size ≤ p.g) ∧ o.ownBlock ≠ some p.g) ∧ LE1.length ≤ LE.length + pre.size ∧ Keeps (BF w B g) w wr ∧ ExIn Z w rest b (off + k * 4)) (fun _ i _ => l.len - (intOf i).toNat)
    case atStart => exact ⟨.nil, l, 0, [], fun _ => False, LE, vE, vNE, rfl, rfl, rfl, World.ownsRow_nil w w.heap.size 57 4, rfl, fun q h => h.elim, hR, fun p hp => ⟨Or.inl hp, by simp [Value.ownBlock]⟩, Nat.le_add_right _ _, Keeps.refl _ _, by simpa using unhide HX⟩
    case round =>
      obtain ⟨pre, rest, k, xs, A, LE1, vE1, vNE1, rfl, happ, hkp, hown, hcs, hAq, hR1, hLE, hLN, hkeep, hr⟩ := hrel
      obtain ⟨oo, oc, rfl⟩ := (rowAt_own hown).form
      have hll := congrArg EL.len happ
      have hls := congrArg EL.size happ
      rw [EL.len_app] at hll
      rw [EL.size_app] at hls
      have HO := hide hown
      have HCS := hide hcs
      have HAQ := hide hAq
      have HK := hide hkeep
      have HR1 := hide hR1
      have HLE := hide hLE
      have HLN := hide hLN
      have HAPP := hide happ
      cases rest with
      | nil =>
        rw [EL.app_nil] at happ
        subst happ
        simp only [EL.len, EL.size, Nat.add_zero] at hll hls
        have i1 : ¬ (k : Int) < (l.len : Int) := by omega
        subst hkp
        have HXL := hide (unhide HCS).length
        clear hown hcs hAq hkeep hr hll hls HAPP hR1 hLE hLN
        go_wp2_with fail
        go_loopw [5, 8] (fun o i w2 => ∃ j : Nat, j ≤ 64 ∧ i = .int .i64 (j : Int) ∧ Hid (w2.ownsRow w.heap.size 57 4 o (l.len + j) (xs ++ marksRE j)) ∧ Hid (TsE A w2 l xs) ∧ Hid (∀ q, A q → w.heap.size ≤ q ∧ q < w2.heap.size ∧ o.ownBlock ≠ some q) ∧ Hid (RoomsAt w2 B g LE1 LS vS vE1 vNS vNE1) ∧ Hid (∀ p ∈ LE1, (p ∈ LE ∨ w.heap.size ≤ p.g) ∧ o.ownBlock ≠ some p.g) ∧ Hid (Keeps (BF w B g) w w2)) (fun _ i _ => 64 - (intOf i).toNat)
        case atStart => exact ⟨0, by omega, rfl, by simpa [Hid, marksRE] using unhide HO, HCS, HAQ, HR1, HLE, HK⟩
        case round =>
          clear HO HCS HAQ HR1 HLE HK
          obtain ⟨j, hj, rfl, HO, HCS, HAQ, HR1, HLE, HK⟩ := hrel
          obtain ⟨oo, oc, rfl⟩ := (rowAt_own (unhide HO)).form
          by_cases hlt : j < 64
          · have i2 : (j : Int) < 64 := by omega
            have i0' : (0 : Int) ≤ (j : Int) := by omega
            have HOX := hide ((unhide HO).alloc (.cells #[.int .i64 77, .int .i64 (j : Int), .string ⟨#[]⟩, .slice none 0 0] 57))
            have HNB := hide (heap_alloc_new wr (.cells #[.int .i64 77, .int .i64 (j : Int), .string ⟨#[]⟩, .slice none 0 0] 57))
            have HB0 := hide (unhide HK).size
            go_wp2_with (at_builtin; refine wpList_append_lies _ rfl _ _ _ rfl w.heap.size 57 i0 _ 4 56 Tryz.underlying51 hi hz0 hz1 hz2 rfl (by omega) (.slice oo (l.len + j) oc) (l.len + j) (xs ++ marksRE j) rfl (unhide HOX) ⟨wr.heap.size, 0, none⟩ 1 1 (markRE j) rfl rfl (World.news_of_block (cs := #[.int .i64 77, .int .i64 (j : Int), .string ⟨#[]⟩, .slice none 0 0]) (t := 57) (fr := (0, 0)) (unhide HNB)) (one_markRE j) (by omega) (by unfold maxLen; omega) (by omega) (by have := unhide HB0; simp; omega) (wr.heap.size + 1) (by simp) ?_; intro g' cap6 w6 hown6 hgrow hat hlt6; have HO6 := hide hown6; have HGR := hide hgrow; have HAT := hide hat; clear hown6 hgrow hat)
            go_roundw
            case rel =>
              have hgr := unhide HGR
              have hkA : Keeps (fun _ => False) wr (wr.alloc (.cells #[.int .i64 77, .int .i64 (j : Int), .string ⟨#[]⟩, .slice none 0 0] 57)) := (Keeps.refl _ wr).alloc _
              have hk3 : Keeps (fun q => (Value.slice oo (l.len + j) oc).ownBlock = some q) wr w6 := hkA.any.grown hgr (fun q e _ => e)
              have hol : ∀ q, (Value.slice oo (l.len + j) oc).ownBlock = some q → w.heap.size ≤ q ∧ q < wr.heap.size := fun q e => (unhide HO).lt q e
              have hs6 : wr.heap.size + 1 ≤ w6.heap.size := by have := hgr.size; simp at this; omega
              refine ⟨j + 1, by omega, by go_num, ?_, hide ((unhide HCS).keep hk3 (fun sb q c h _ e => ((unhide HAQ) q h).2.2 e)), hide (fun q hq => ?_), hide ((unhide HR1).row (unhide HO) (fun p hp => (unhide HLE p hp).2) hk3), hide (fun p hp => ⟨(unhide HLE p hp).1, fun e => ?_⟩), hide (bf_two (unhide HK) hk3 (fun i hi e => by have := (hol i e).1; omega))⟩
              · have := unhide HO6
                rw [marksRE_succ, ← List.append_assoc, ← Nat.add_assoc]
                exact this
              · obtain ⟨a1, a2, a3⟩ := (unhide HAQ) q hq
                refine ⟨a1, by omega, fun e => ?_⟩
                have e' : g' = q := by simpa [Value.ownBlock] using e
                rcases unhide HAT with h | h
                · exact a3 (by rw [h, e'])
                · omega
              · have e' : g' = p.g := by simpa [Value.ownBlock] using e
                rcases unhide HAT with h | h
                · exact (unhide HLE p hp).2 (by rw [h, e'])
                · have := (unhide HR1).ex_lt hp; omega
            case measure => simp [intOf]; omega
          · obtain rfl : j = 64 := by omega
            obtain ⟨w2, rfl⟩ : ∃ W, W = wr := ⟨_, rfl⟩
            obtain ⟨g2, cp, cur, e, hgl, hgb, hc⟩ : ∃ g cp cur, (Value.slice oo (l.len + 64) oc) = .slice (some ⟨g, 0, none⟩) (l.len + 64) cp ∧ w.heap.size ≤ g ∧ w2.heap[g]? = some (.cells cur 57 (0, 0)) ∧ l.len + 64 ≤ cp := by
              rcases (unhide HO).2 with ⟨_, h0⟩ | ⟨g, cp, cur, a1, a2, a3, a4, _⟩
              · omega
              · exact ⟨g, cp, cur, a1, a2, a3, a4⟩
            simp only [Value.slice.injEq] at e
            obtain ⟨rfl, _, rfl⟩ := e
            have hxs : xs.length = l.len * 4 := unhide HXL
            have hrow := fun j x (hx : (xs ++ marksRE 64)[j]? = some x) => (show w2.cell? ⟨g2, j, none⟩ = some x from by
              have hl := (List.getElem?_eq_some_iff.1 hx).1
              rw [(unhide HO).1] at hl
              exact ((unhide HO).cellAt j hl).trans hx)
            have HSL : Hid (SlE (tyZ (fun q => w.heap.size ≤ q)) w2 0 (.slice (some ⟨g2, 0, none⟩) l.len oc) l) := by
              refine ⟨some ⟨g2, 0, none⟩, oc, rfl, by omega, fun _ => ⟨g2, 0, rfl, trivial, TsE.exIn hgb hgl (fun q _ h => ((unhide HAQ) q h).1) (unhide HCS) (fun j x hx => ?_)⟩⟩
              rw [Nat.zero_add]
              exact hrow j x (by rw [List.getElem?_append_left (List.getElem?_eq_some_iff.1 hx).1]; exact hx)
            have HMP : Hid (MarkE w2 ⟨g2, l.len, oc⟩) := by
              refine ⟨hlen, cur, hgb, fun k hk => ?_⟩
              have hm : ∀ m, m < 4 → cur[(l.len + k) * 4 + m]? = (markRE k)[m]? := fun m hm => by
                have h1 := marksRE_at (j := 64) hk hm
                obtain ⟨x, hx⟩ : ∃ x, (markRE k)[m]? = some x := ⟨_, List.getElem?_eq_getElem (by simpa [markRE] using hm)⟩
                rw [hx] at h1 ⊢
                have := hrow (l.len * 4 + (k * 4 + m)) x (by rw [List.getElem?_append_right (by omega), hxs, Nat.add_sub_cancel_left]; exact h1)
                rw [cell_of_blk hgb, show l.len * 4 + (k * 4 + m) = (l.len + k) * 4 + m by omega] at this
                exact this
              exact ⟨hm 0 (by decide), hm 1 (by decide), hm 2 (by decide), hm 3 (by decide)⟩
            obtain ⟨eo, ec, rfl⟩ := (rowAt_own (unhide HR1).rowE).form
            obtain ⟨no, nc, rfl⟩ := (rowAt_own (unhide HR1).rowNE).form
            have r1 := (cell_of_blk (unhide HR1).blk 1).trans (show _ = some (Value.slice eo LE1.length ec) from rfl)
            have hlb : LE1.length + 1 ≤ 100000000000 := by have := unhide HLB; have := unhide HLN; omega
            have i2 : ¬ ((64 : Nat) : Int) < 64 := by omega
            have c1 : (l.len : Int) ≤ (oc : Int) := by omega
            have c2 : l.len ≤ oc := by omega
            have HOE := hide ((unhide HR1).rowE.alloc (.cells #[.slice (some ⟨g2, 0, none⟩) (l.len + 64) oc] 51))
            have HNE := hide (heap_alloc_new w2 (.cells #[.slice (some ⟨g2, 0, none⟩) (l.len + 64) oc] 51))
            have HBS := hide (Nat.le_trans (unhide HR1).lo (Nat.le_of_lt (lt_of_block (unhide HR1).blk)))
            have HTB := hide (fun (sb : Bool) (q : Nat) (c : Array Value) (hc : w2.heap[q]? = some (.cells c (kindT sb) (0, 0))) => ty_bf (unhide HR1) hc)
            have HONE : Hid (∀ u ∈ [Value.slice (some ⟨g2, 0, none⟩) (l.len + 64) oc], u.oneCell' = true) := fun u hu => by
              obtain rfl := List.mem_singleton.1 hu
              rfl
            clear hrow hxs hgb
            go_upto_region 12 with (at_builtin; refine wpList_append_lies _ rfl _ _ _ rfl B 51 i1_ _ 1 24 (by kernel_rfl) hi1 hy0 hy1 hy2 rfl (by omega) (.slice eo LE1.length ec) LE1.length (LE1.map Lent.v) rfl (unhide HOE) ⟨w2.heap.size, 0, none⟩ 1 1 [.slice (some ⟨g2, 0, none⟩) (l.len + 64) oc] rfl rfl (World.news_of_block (cs := #[.slice (some ⟨g2, 0, none⟩) (l.len + 64) oc]) (t := 51) (fr := (0, 0)) (unhide HNE)) (unhide HONE) (by omega) (by unfold maxLen; omega) (by omega) (by have := unhide HBS; simp; omega) (w2.heap.size + 1) (by simp) ?_; intro ge ce w3 hown6 hgrow hat hlt6; have hk3 : Keeps (fun q => (Value.slice eo LE1.length ec).ownBlock = some q) w2 w3 := (((Keeps.refl (fun _ => False) w2).alloc _).any).grown hgrow (fun q e _ => e); obtain ⟨hg3, hr3, hk4⟩ := (unhide HR1).two.entE (P := ⟨g2, l.len, oc⟩) (unhide HMP) hk3 hown6; have y1 := cell_of_blk hg3 1; have f1 := frozen_of_blk hg3 1; simp at y1; have HR3 := hide hr3; have HK4 := hide hk4; clear hown6 hgrow hat hlt6 hk3 hg3 hr3 hk4)
            generalize w3.setCell ⟨g, 1, none⟩ (.slice (some ⟨ge, 0, none⟩) (LE1.length + 1) ce) = w4 at *
            have HLE1 := hide (fun p (hp : p ∈ LE1) => (unhide HLE p hp).1)
            have r3 := (cell_of_blk (unhide HR3).blk 3).trans (show _ = some (Value.slice no LE1.length nc) from rfl)
            have HOE := hide ((unhide HR3).rowNE.alloc (.cells #[.int .i64 (l.len : Int)] 3))
            have HNE := hide (heap_alloc_new w4 (.cells #[.int .i64 (l.len : Int)] 3))
            have HBS := hide (Nat.le_trans (unhide HR3).lo (Nat.le_of_lt (lt_of_block (unhide HR3).blk)))
            have HONE : Hid (∀ u ∈ [Value.int .i64 (l.len : Int)], u.oneCell' = true) := fun u hu => by
              obtain rfl := List.mem_singleton.1 hu
              rfl
            clear r1 y1 f1 HR1 HO HAQ HCS HLE
            go_wp2_with (at_builtin; refine wpList_append_lies _ rfl _ _ _ rfl B 3 i2_ _ 1 8 (by kernel_rfl) hi2 hx0 hx1 hx2 rfl (by omega) (.slice no LE1.length nc) LE1.length (LE1.map Lent.c) rfl (unhide HOE) ⟨w4.heap.size, 0, none⟩ 1 1 [.int .i64 (l.len : Int)] rfl rfl (World.news_of_block (cs := #[.int .i64 (l.len : Int)]) (t := 3) (fr := (0, 0)) (unhide HNE)) (unhide HONE) (by omega) (by unfold maxLen; omega) (by omega) (by have := unhide HBS; simp; omega) (w4.heap.size + 1) (by simp) ?_; intro gn cn w5 hown6 hgrow hat hlt6; have hk3 : Keeps (fun q => (Value.slice no LE1.length nc).ownBlock = some q) w4 w5 := (((Keeps.refl (fun _ => False) w4).alloc _).any).grown hgrow (fun q e _ => e); obtain ⟨hg3, hr3, hk4⟩ := (unhide HR3).entNE (P := ⟨g2, l.len, oc⟩) hk3 hown6 (hat.imp id (fun e => by omega)); have y1 := cell_of_blk hg3 3; have f1 := frozen_of_blk hg3 3; simp at y1; have HR5 := hide hr3; have HK5 := hide hk4; clear hown6 hgrow hat hlt6 hk3 hg3 hr3 hk4)
            go_ret
            have hk6 := bf_trans (unhide HK4) (unhide HK5)
            refine ⟨_, LE1 ++ [⟨g2, l.len, oc⟩], _, _, rfl, (unhide HSL).tyKeep hk6 (fun sb q c _ hc => unhide HTB sb q c hc), (unhide HR5).one, fun p hp => ?_, ?_, bf_trans (unhide HK) hk6⟩
            · rcases List.mem_append.1 hp with hp | hp
              · exact unhide HLE1 p hp
              · obtain rfl := List.mem_singleton.1 hp
                exact Or.inr hgl
            · have := unhide HLN
              simp only [List.length_append, List.length_cons, List.length_nil]
              omega
      | cons op n s kids rest =>
        obtain ⟨h1, h2, h3, h4, h5, ⟨kao, kcap, h6, h7, h8⟩, h9⟩ := hr
        simp only [EL.len, EL.size] at hll hls
        have hkl : k + (rest.len + 1) = l.len := by omega
        have hks : pre.size + (kids.size + rest.size + 1) = l.size := by omega
        have HKP := hide hkp
        clear hll hls hkp
        obtain ⟨rfl, hp⟩ := (unhide HA) (by omega)
        have HKID : Hid (SlE Z w b (.slice kao kids.len kcap) kids) := ⟨kao, kcap, rfl, h7, h8⟩
        have HRX := hide h9
        have i1 : (k : Int) < (l.len : Int) := by omega
        have ix0 : (0 : Int) ≤ (k : Int) := by omega
        have hbn : ¬ BF w B g b := fun e => by have := (unhide HZ w w false b h2).1; have := e.lo hlo; omega
        have q0 := (hkeep.cell h1 hbn).trans h3
        have q1 := (hkeep.cell h1 hbn).trans h4
        have q2 := (hkeep.cell h1 hbn).trans h5
        have q3 := (hkeep.cell h1 hbn).trans h6
        have HC := hide (rExpr_of B g LE1 LS vS vE1 vNS vNE1 op n s kids (.slice kao kids.len kcap) wr hR1 ⟨_, _, rfl⟩ (fun w' hk => unhide IH kids (by omega) (by omega) w' b _ LE1 vE1 vNE1 (((unhide HKID).plain (unhide HZ) hlo (unhide HK)).keepF hk) (hR1.keepF hk) (by have := unhide HLB; omega)))
        have HB0 : Hid (w.heap.size ≤ wr.heap.size) := hkeep.size
        have HBF := hide (row_bf hR1 hown)
        clear hown hcs hAq hkeep hR1 hLE hLN h2 h3 h4 h5 h6 h8 h9 happ hbn
        go_wp2_with (first
          | (go_at_call 45; refine (unhide HC).mono ?_; rintro e w1 ⟨kv, LE2, vE2, vNE2, rfl, hs1, hr2, hl2, hn2, hk1⟩; obtain ⟨vo, vc, rfl, hvc⟩ := hs1.head; have HO1 := hide (ownsRow_kept (unhide HO) hk1 (unhide HBF)); have HOX := hide (((unhide HO1).alloc (.cells #[.int .i64 op, .int .i64 n, str s, .slice vo kids.len vc] 57)).alloc (.cells #[.int .i64 op, .int .i64 n, str s, .slice vo kids.len vc] 57)); have HNB := hide (heap_alloc_new (w1.alloc (.cells #[.int .i64 op, .int .i64 n, str s, .slice vo kids.len vc] 57)) (.cells #[.int .i64 op, .int .i64 n, str s, .slice vo kids.len vc] 57)); rw [show (w1.alloc (.cells #[.int .i64 op, .int .i64 n, str s, .slice vo kids.len vc] 57)).heap.size = w1.heap.size + 1 by simp] at HNB; have HS1 := hide hs1; have HR2 := hide hr2; have HL2 := hide hl2; have HN2 := hide hn2; have HK1 := hide hk1; have hsz1 := hk1.size; clear hs1 hr2 hl2 hn2 hk1)
          | (at_builtin; refine wpList_append_lies _ rfl _ _ _ rfl w.heap.size 57 i0 _ 4 56 Tryz.underlying51 hi hz0 hz1 hz2 rfl (by omega) (.slice oo k oc) k xs rfl (unhide HOX) ⟨w1.heap.size + 1, 0, none⟩ 1 1 [.int .i64 op, .int .i64 n, str s, .slice vo kids.len vc] rfl rfl (World.news_of_block (cs := #[.int .i64 op, .int .i64 n, str s, .slice vo kids.len vc]) (t := 57) (fr := (0, 0)) (unhide HNB)) (one_ex _ _ _ _ _ _) (by omega) (by unfold maxLen; omega) (by omega) (by have := unhide HB0; simp; omega) (w1.heap.size + 2) (by simp) ?_; intro g' cap6 w6 hown6 hgrow hat hlt6; have HO6 := hide hown6; have HGR := hide hgrow; have HAT := hide hat; clear hown6 hgrow hat))
        go_roundw
        case rel =>
          have hgr := unhide HGR
          have hkA : Keeps (fun _ => False) w1 ((w1.alloc (.cells #[.int .i64 op, .int .i64 n, str s, .slice vo kids.len vc] 57)).alloc (.cells #[.int .i64 op, .int .i64 n, str s, .slice vo kids.len vc] 57)) := ((Keeps.refl _ w1).alloc _).alloc _
          have hk3 : Keeps (fun q => (Value.slice oo k oc).ownBlock = some q) w1 w6 := hkA.any.grown hgr (fun q e _ => e)
          have hol : ∀ q, (Value.slice oo k oc).ownBlock = some q → w.heap.size ≤ q ∧ q < wr.heap.size := fun q e => (unhide HO).lt q e
          have hkw : Keeps (BF w B g) w w6 := bf_two (bf_trans (unhide HK) (unhide HK1)) hk3 (fun i hi e => by have := (hol i e).1; omega)
          have c0 : TsE A w1 pre xs := (unhide HCS).keep (unhide HK1) (fun sb q c _ hc => ty_bf (unhide HR1) hc)
          have c1 := TsE.mono (C := fun q => A q ∨ (wr.heap.size ≤ q ∧ q < w1.heap.size)) (fun _ _ h => Or.inl h) (c0.keep hk3 (fun sb q c h _ e => ((unhide HAQ) q h).2.2 e))
          have c2 : SlE (tyZ (fun q => A q ∨ (wr.heap.size ≤ q ∧ q < w1.heap.size))) w6 0 (.slice vo kids.len vc) kids :=
            (((unhide HS1).tyMono (up' := 0) (C := fun q => wr.heap.size ≤ q ∧ q < w1.heap.size) (fun q hq h => ⟨h, hq⟩)).tyKeep hk3 (fun sb q c h _ e => by have := (hol q e).2; omega)).tyMono (fun _ _ h => Or.inr h)
          have hs6 : w1.heap.size + 2 ≤ w6.heap.size := by have := hgr.size; simp at this; omega
          have hp2 : ∀ p ∈ LE2, (Value.slice oo k oc).ownBlock ≠ some p.g := fun p hp e => by
            rcases unhide HL2 p hp with h | h
            · exact (unhide HLE p h).2 e
            · have := (hol _ e).2; omega
          have hr6 := (unhide HR2).row (unhide HO1) hp2 hk3
          have hn2 := unhide HN2
          have hln := unhide HLN
          refine ⟨pre.app (.cons op n s kids .nil), rest, k + 1, _, _, LE2, vE2, vNE2, by go_num, ?_, ?_, unhide HO6, c1.snoc c2, fun q hq => ?_, hr6, fun p hp => ⟨?_, fun e => ?_⟩, ?_, hkw, ?_⟩
          · rw [app_one]; exact unhide HAPP
          · rw [EL.len_app, unhide HKP]; rfl
          · have hb0 := unhide HB0
            rcases hq with hq | hq
            · obtain ⟨a1, a2, a3⟩ := (unhide HAQ) q hq
              refine ⟨a1, by omega, fun e => ?_⟩
              have e' : g' = q := by simpa [Value.ownBlock] using e
              rcases unhide HAT with h | h
              · exact a3 (by rw [h, e'])
              · omega
            · refine ⟨by omega, by omega, fun e => ?_⟩
              have e' : g' = q := by simpa [Value.ownBlock] using e
              rcases unhide HAT with h | h
              · have := (hol _ h).2; omega
              · omega
          · have hb0 := unhide HB0
            rcases unhide HL2 p hp with h | h
            · exact (unhide HLE p h).1
            · exact Or.inr (by omega)
          · have e' : g' = p.g := by simpa [Value.ownBlock] using e
            rcases unhide HAT with h | h
            · exact hp2 p hp (by rw [h, e'])
            · have := (unhide HR2).ex_lt hp; omega
          · rw [EL.size_app]; simp only [EL.size]; omega
          · rw [show off + (k + 1) * 4 = off + k * 4 + 4 by omega]
            exact unhide HRX
        case measure => simp [intOf]; omega
end Go.Proofs.YtoempeobaknkcaaGreatDoor
namespace Go.Proofs.YtoempeobaknkcaaGreatDoor
open Go.RowKit Go.Maps

section
variable {A C F : Nat → Prop} {w w' : World}
theorem StIn.tyMono (hAC : ∀ k, k < w.heap.size → A k → C k) : ∀ {l : SL} {b o : Nat}, StIn (tyZ A) w l b o → StIn (tyZ C) w l b o
  | .nil, _, _, _ => trivial
  | .cons _ _ _ _ _ _, _, _, ⟨h1, ⟨h2, hc⟩, h3, h4, ⟨v, h5, h5'⟩, ⟨ao, cap, h6, h7, h8⟩, ⟨ao2, cap2, k6, k7, k8⟩, h9⟩ =>
    ⟨h1, ⟨hAC _ h1 h2, hc⟩, h3, h4, ⟨v, h5, h5'.tyMono hAC⟩, ⟨ao, cap, h6, h7, fun h0 => by
      obtain ⟨b', o', e, _, hr⟩ := h8 h0
      exact ⟨b', o', e, trivial, hr.tyMono hAC⟩⟩, ⟨ao2, cap2, k6, k7, fun h0 => by
      obtain ⟨b', o', e, _, hr⟩ := k8 h0
      exact ⟨b', o', e, trivial, hr.tyMono hAC⟩⟩, h9.tyMono hAC⟩
theorem SlS.tyMono {up up' : Nat} {v : Value} {l : SL} (h : SlS (tyZ A) w up v l) (hAC : ∀ k, k < w.heap.size → A k → C k) : SlS (tyZ C) w up' v l := by
  obtain ⟨ao, cap, e, hc, hr⟩ := h
  refine ⟨ao, cap, e, hc, fun h0 => ?_⟩
  obtain ⟨b, o, e1, _, hx⟩ := hr h0
  exact ⟨b, o, e1, trivial, hx.tyMono hAC⟩
theorem SsIn.tyKeep (hk : Keeps F w w') (hF : ∀ s k c, A k → w.heap[k]? = some (.cells c (kindT s) (0, 0)) → ¬ F k) : ∀ {l : SL} {xs : List Value}, SsIn (tyZ A) w l xs → SsIn (tyZ A) w' l xs
  | .nil, _, h => h
  | .cons _ _ _ _ _ _, _, ⟨xv, tv, ev, xs', e, h1, h2, h3, h⟩ => ⟨xv, tv, ev, xs', e, h1.tyKeep hk hF, h2.tyKeep hk hF, h3.tyKeep hk hF, h.tyKeep hk hF⟩
theorem SsIn.tyMono (hAC : ∀ k, k < w.heap.size → A k → C k) : ∀ {l : SL} {xs : List Value}, SsIn (tyZ A) w l xs → SsIn (tyZ C) w l xs
  | .nil, _, h => h
  | .cons _ _ _ _ _ _, _, ⟨xv, tv, ev, xs', e, h1, h2, h3, h⟩ => ⟨xv, tv, ev, xs', e, h1.tyMono hAC, h2.tyMono hAC, h3.tyMono hAC, h.tyMono hAC⟩
theorem SsIn.stTy {b : Nat} {c : Array Value} (hb : w.heap[b]? = some (.cells c 53 (0, 0))) (hC : C b) (hAC : ∀ k, k < w.heap.size → A k → C k) : ∀ {l : SL} {xs : List Value} {o : Nat}, SsIn (tyZ A) w l xs → (∀ j x, xs[j]? = some x → w.cell? ⟨b, o + j, none⟩ = some x) → StIn (tyZ C) w l b o
  | .nil, _, _, _, _ => trivial
  | .cons _ _ _ _ _ _, _, o, ⟨xv, tv, ev, xs', ee, h1, h2, h3, h4⟩, hc => by
    subst ee
    obtain ⟨ao, cap, et, hcap, hr⟩ := h2.tyMono (up' := b) hAC
    obtain ⟨ao2, cap2, ee2, hcap2, hr2⟩ := h3.tyMono (up' := b) hAC
    refine ⟨lt_of_block hb, ⟨hC, c, hb⟩, hc 0 _ rfl, hc 1 _ rfl, ⟨xv, hc 2 _ rfl, h1.tyMono hAC⟩, ⟨ao, cap, by rw [← et]; exact hc 3 _ rfl, hcap, hr⟩, ⟨ao2, cap2, by rw [← ee2]; exact hc 4 _ rfl, hcap2, hr2⟩, SsIn.stTy hb hC hAC h4 (fun j x hx => ?_)⟩
    rw [show o + 5 + j = o + (j + 5) by omega]
    exact hc (j + 5) x (by simpa using hx)
end
theorem SlS.plain {Z : Zone} {B g : Nat} {w w' : World} {up : Nat} {v : Value} {l : SL} (hZ : Plain Z B) (hg : B ≤ g) (h : SlS Z w up v l) (hk : Keeps (BF w B g) w w') : SlS Z w' up v l :=
  SlS.keep (Q := fun _ => True) (fun _ _ _ _ => trivial) hk (fun s k _ _ hG => ⟨fun e => by have := (hZ w w' s k hG).1; have := e.lo hg; omega, (hZ w w' s k hG).2⟩) trivial h
/-- A mark behind statements. -/
def markRS (k : Nat) : List Value := [.int .i64 (1000 + (k : Int)), .string ⟨#[114, 111, 111, 109]⟩, .slice none 0 0, .slice none 0 0, .slice none 0 0]
def marksRS (j : Nat) : List Value := (List.range j).flatMap markRS
theorem marksRS_succ (j : Nat) : marksRS (j + 1) = marksRS j ++ markRS j := by simp [marksRS, List.range_succ]
theorem marksRS_at {j k m : Nat} (hk : k < j) (hm : m < 5) : (marksRS j)[k * 5 + m]? = (markRS k)[m]? := by
  induction j with
  | zero => omega
  | succ j ih =>
    have hl : (marksRS j).length = j * 5 := by
      clear ih hk
      induction j with
      | zero => rfl
      | succ j ih => rw [marksRS_succ, List.length_append, ih]; simp [markRS]; omega
    rw [marksRS_succ]
    by_cases h : k < j
    · rw [List.getElem?_append_left (by omega)]
      exact ih h
    · obtain rfl : k = j := by omega
      rw [List.getElem?_append_right (by omega), hl, Nat.add_sub_cancel_left]
theorem one_markRS (k : Nat) : ∀ u ∈ markRS k, u.oneCell' = true := by
  intro u hu
  simp only [markRS, List.mem_cons, List.not_mem_nil, or_false] at hu
  rcases hu with rfl | rfl | rfl | rfl | rfl <;> rfl
theorem one_st (op : Int) (f : Txt) (a b c : Option Addr) (x y z x' y' z' : Nat) : ∀ u ∈ [Value.int .i64 op, str f, .slice a x x', .slice b y y', .slice c z z'], u.oneCell' = true := by
  intro u hu
  simp only [List.mem_cons, List.not_mem_nil, or_false] at hu
  rcases hu with rfl | rfl | rfl | rfl | rfl <;> rfl
theorem RoomsAt.ex_typed {w : World} {B g : Nat} {LE LS : List Lent} {vS vE vNS vNE : Value} (h : RoomsAt w B g LE LS vS vE vNS vNE) {p : Lent} (hp : p ∈ LE) {c : Array Value} (hc : w.heap[p.g]? = some (.cells c 53 (0, 0))) : False := by
  obtain ⟨_, c', hc', _⟩ := h.ex p hp
  exact typed_ne hc hc' (by decide)
theorem RoomsAt.st_lt {w : World} {B g : Nat} {LE LS : List Lent} {vS vE vNS vNE : Value} (h : RoomsAt w B g LE LS vS vE vNS vNE) {p : Lent} (hp : p ∈ LS) : p.g < w.heap.size := by
  obtain ⟨_, c, hc, _⟩ := h.st p hp
  exact lt_of_block hc
/-- Blocks of statements that are not lent out yet are written: the book stays. -/
theorem RoomsAt.rowS' {w w' : World} {B g : Nat} {LE LS : List Lent} {vS vE vNS vNE : Value} {F : Nat → Prop} (h : RoomsAt w B g LE LS vS vE vNS vNE) (hF : ∀ q, F q → ∃ c, w.heap[q]? = some (.cells c 53 (0, 0))) (hp : ∀ p ∈ LS, ¬ F p.g) (hk : Keeps F w w') : RoomsAt w' B g LE LS vS vE vNS vNE :=
  h.tree (fun q _ e => by obtain ⟨c, hc⟩ := hF q e; exact ⟨true, c, hc⟩) (fun p hp' e => by obtain ⟨c, hc⟩ := hF _ e; exact h.ex_typed hp' hc) hp hk
theorem rowS_bf {w : World} {B g N k : Nat} {LE LS : List Lent} {vS vE vNS vNE o : Value} {xs : List Value} (h : RoomsAt w B g LE LS vS vE vNS vNE) (ho : w.ownsRow N 53 5 o k xs) (q : Nat) (e : o.ownBlock = some q) : ¬ BF w B g q := by
  obtain ⟨_, c, hc⟩ := own_typed ho e
  exact ty_bf (s := true) h hc

/-- What the lending of a program leaves. -/
def RsPost (B g : Nat) (LE LS : List Lent) (l : SL) (w : World) (e : Ending) (w' : World) : Prop :=
  ∃ v' LE' LS' vS' vE' vNS' vNE', e = .returned v' ∧ SlS (tyZ (fun k => w.heap.size ≤ k)) w' 0 v' l ∧ RoomsAt w' B g LE' LS' vS' vE' vNS' vNE' ∧ (∀ p ∈ LE', p ∈ LE ∨ w.heap.size ≤ p.g) ∧ (∀ p ∈ LS', p ∈ LS ∨ w.heap.size ≤ p.g) ∧ LE'.length ≤ LE.length + l.size ∧ LS'.length ≤ LS.length + 2 * l.size + 1 ∧ Keeps (BF w B g) w w'
end Go.Proofs.YtoempeobaknkcaaGreatDoor
