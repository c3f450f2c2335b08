import Derived.Test.YtoempeobaknkcaaGreatDoorJyam
import Derived.Test.YtoempeobaknkcaaGreatDoorKl
import Derived.Test.YtoempeobaknkcaaGreatDoorJyau
namespace Go.Proofs.YtoempeobaknkcaaGreatDoor
open Go.RowKit Go.Maps

/-- Where the lending of a program stands within a statement: the row that is filled, the statement in its box, the book. -/
structure Mid (w wr W : World) (B g : Nat) (o : Value) (k : Nat) (xs : List Value) (A : Nat → Prop) (pre : SL) (LE1 LS1 LE LS : List Lent) (vS vE vNS vNE : Value) (cs : Array Value) : Prop where
  R : RoomsAt W B g LE LS vS vE vNS vNE
  O : W.ownsRow w.heap.size 53 5 o k xs
  P : SsIn (tyZ A) W pre xs
  bx : W.heap[wr.heap.size]? = some (.cells cs 53 (0, 0))
  le : ∀ p ∈ LE, p ∈ LE1 ∨ wr.heap.size + 1 ≤ p.g
  ls : ∀ p ∈ LS, p ∈ LS1 ∨ wr.heap.size + 1 ≤ p.g
  keep : Keeps (BF w B g) w W
  sz : wr.heap.size + 1 ≤ W.heap.size
section
variable {w wr W W' : World} {B g : Nat} {o : Value} {k : Nat} {xs : List Value} {A : Nat → Prop} {pre : SL} {LE1 LS1 LE LS LE' LS' : List Lent} {vS vE vNS vNE vS' vE' vNS' vNE' : Value} {cs : Array Value}
theorem Mid.call (h : Mid w wr W B g o k xs A pre LE1 LS1 LE LS vS vE vNS vNE cs) (hk : Keeps (BF W B g) W W') (hr : RoomsAt W' B g LE' LS' vS' vE' vNS' vNE') (hl : ∀ p ∈ LE', p ∈ LE ∨ W.heap.size ≤ p.g) (hs : ∀ p ∈ LS', p ∈ LS ∨ W.heap.size ≤ p.g) :
    Mid w wr W' B g o k xs A pre LE1 LS1 LE' LS' vS' vE' vNS' vNE' cs := by
  have hz := h.sz
  refine ⟨hr, ownsRow_kept h.O hk (rowS_bf h.R h.O), h.P.tyKeep hk (fun s q c _ hc => ty_bf h.R hc), (hk.block _ (lt_of_block h.bx) (ty_bf (s := true) h.R h.bx)).trans h.bx, fun p hp => ?_, fun p hp => ?_, bf_trans h.keep hk, Nat.le_trans h.sz hk.size⟩
  · rcases hl p hp with e | e
    · exact h.le p e
    · exact Or.inr (by omega)
  · rcases hs p hp with e | e
    · exact h.ls p e
    · exact Or.inr (by omega)
theorem Mid.set (h : Mid w wr W B g o k xs A pre LE1 LS1 LE LS vS vE vNS vNE cs) (m : Nat) (u : Value) (hw : w.heap.size ≤ wr.heap.size) (hA : ∀ q, A q → q < wr.heap.size) (ho : ∀ q, o.ownBlock = some q → q < wr.heap.size) (h1 : ∀ p ∈ LS1, p.g < wr.heap.size) :
    Mid w wr (W.setCell ⟨wr.heap.size, m, none⟩ u) B g o k xs A pre LE1 LS1 LE LS vS vE vNS vNE (cs.setIfInBounds m u) := by
  have hk := keeps_set W wr.heap.size m u
  refine ⟨h.R.rowS' (fun q e => by subst e; exact ⟨cs, h.bx⟩) (fun p hp e => ?_) hk, ownsRow_kept h.O hk (fun q e f => by have := ho q e; omega), h.P.tyKeep hk (fun s q c hq _ e => by have := hA q hq; omega), ?_, h.le, h.ls, bf_two h.keep hk (fun i hi e => by omega), by have := hk.size; have := h.sz; omega⟩
  · rcases h.ls p hp with e' | e'
    · have := h1 p e'; omega
    · omega
  · exact heap_setCell_at (o := m) h.bx u
end
end Go.Proofs.YtoempeobaknkcaaGreatDoor
namespace Go.Proofs.YtoempeobaknkcaaGreatDoor
open Go.RowKit Go.Maps

/-- The book while a program is being entered: the lists and their counts may part. -/
structure Rooms3 (w : World) (B g : Nat) (LE LS LM : List Lent) (vS vE vNS vNE : Value) : Prop where
  lo : B ≤ g
  blk : w.heap[g]? = some (.cells #[vS, vE, vNS, vNE] 47 (0, 0))
  rowS : w.ownsRow B 25 1 vS LS.length (LS.map Lent.v)
  rowE : w.ownsRow B 51 1 vE LE.length (LE.map Lent.v)
  rowNS : w.ownsRow B 3 1 vNS LM.length (LM.map Lent.c)
  rowNE : w.ownsRow B 3 1 vNE LE.length (LE.map Lent.c)
  apart : ∀ q, vNS.ownBlock = some q → vNE.ownBlock = some q → False
  ex : ∀ p ∈ LE, MarkE w p
  st : ∀ p ∈ LS, MarkS w p
theorem RoomsAt.three {w : World} {B g : Nat} {LE LS : List Lent} {vS vE vNS vNE : Value} (h : RoomsAt w B g LE LS vS vE vNS vNE) : Rooms3 w B g LE LS LS vS vE vNS vNE := ⟨h.lo, h.blk, h.rowS, h.rowE, h.rowNS, h.rowNE, h.apart, h.ex, h.st⟩
theorem Rooms3.one {w : World} {B g : Nat} {LE LS : List Lent} {vS vE vNS vNE : Value} (h : Rooms3 w B g LE LS LS vS vE vNS vNE) : RoomsAt w B g LE LS vS vE vNS vNE := ⟨h.lo, h.blk, h.rowS, h.rowE, h.rowNS, h.rowNE, h.apart, h.ex, h.st⟩
section
variable {w w3 : World} {B g ge ce : Nat} {LE LS LM : List Lent} {vS vE vNS vNE : Value} {P : Lent}
theorem Rooms3.keeps (h : Rooms3 w B g LE LS LM vS vE vNS vNE) {r : Value} {e n : Nat} {xs : List Value} (hr : w.ownsRow B e 1 r n xs) (he : e = 25 ∨ e = 51 ∨ e = 3) {F : Nat → Prop} {w' : World} (hk : Keeps F w w') (hF : ∀ q, F q → q = g ∨ r.ownBlock = some q) : Keeps (BF w B g) w w' :=
  hk.mono fun q _ hq => by
    rcases hF q hq with rfl | e'
    · exact Or.inl rfl
    · obtain ⟨h1, c, hc⟩ := own_typed hr e'
      exact Or.inr ⟨h1, c, e, he, hc⟩
/-- A program is entered. -/
theorem Rooms3.entS (h : Rooms3 w B g LE LS LM vS vE vNS vNE) (hP : MarkS w P) (hk : Keeps (fun q => vS.ownBlock = some q) w w3) (ho : w3.ownsRow B 25 1 (.slice (some ⟨ge, 0, none⟩) (LS.length + 1) ce) (LS.length + 1) (LS.map Lent.v ++ [P.v])) :
    w3.heap[g]? = some (.cells #[vS, vE, vNS, vNE] 47 (0, 0)) ∧ Rooms3 (w3.setCell ⟨g, 0, none⟩ (.slice (some ⟨ge, 0, none⟩) (LS.length + 1) ce)) B g LE (LS ++ [P]) LM (.slice (some ⟨ge, 0, none⟩) (LS.length + 1) ce) vE vNS vNE ∧ Keeps (BF w B g) w (w3.setCell ⟨g, 0, none⟩ (.slice (some ⟨ge, 0, none⟩) (LS.length + 1) ce)) := by
  have hn : ∀ k c t, w.heap[k]? = some (.cells c t (0, 0)) → t ≠ 25 → ¬ vS.ownBlock = some k := fun k c t hc ht e => by
    obtain ⟨_, c', hc'⟩ := own_typed h.rowS e
    exact typed_ne hc hc' ht
  have hg3 := (hk.block g (lt_of_block h.blk) (hn g _ 47 h.blk (by decide))).trans h.blk
  have hks := keeps_set w3 g 0 (.slice (some ⟨ge, 0, none⟩) (LS.length + 1) ce)
  have hk2 : Keeps (fun q => q = g ∨ vS.ownBlock = some q) w (w3.setCell ⟨g, 0, none⟩ (.slice (some ⟨ge, 0, none⟩) (LS.length + 1) ce)) := (hk.mono (fun _ _ e => Or.inr e)).trans (((Keeps.refl _ w3).setCell (p := ⟨g, 0, none⟩) (fun _ => Or.inl rfl) _))
  have hF : ∀ k c t, w.heap[k]? = some (.cells c t (0, 0)) → t ≠ 47 → t ≠ 25 → ¬ (k = g ∨ vS.ownBlock = some k) := fun k c t hc h1 h2 e => by
    rcases e with rfl | e
    · exact typed_ne hc h.blk h1
    · exact hn k c t hc h2 e
  refine ⟨hg3, ⟨h.lo, ?_, ?_, ?_, ?_, ?_, h.apart, ?_, ?_⟩, h.keeps h.rowS (Or.inl rfl) hk2 (fun q e => e)⟩
  · exact heap_setCell_at (o := 0) hg3 _
  · have := ownsRow_kept ho hks (fun q e f => by obtain ⟨_, c, hc⟩ := own_typed ho e; subst f; exact typed_ne hc hg3 (by decide))
    simpa using this
  · exact ownsRow_kept h.rowE hk2 (fun q e => by obtain ⟨_, c, hc⟩ := own_typed h.rowE e; exact hF q c 51 hc (by decide) (by decide))
  · exact ownsRow_kept h.rowNS hk2 (fun q e => by obtain ⟨_, c, hc⟩ := own_typed h.rowNS e; exact hF q c 3 hc (by decide) (by decide))
  · exact ownsRow_kept h.rowNE hk2 (fun q e => by obtain ⟨_, c, hc⟩ := own_typed h.rowNE e; exact hF q c 3 hc (by decide) (by decide))
  · intro p hp
    obtain ⟨_, c, hc, _⟩ := h.ex p hp
    exact (h.ex p hp).keep hk2 (hF _ c 57 hc (by decide) (by decide))
  · intro p hp
    rcases List.mem_append.1 hp with hp | hp
    · obtain ⟨_, c, hc, _⟩ := h.st p hp
      exact (h.st p hp).keep hk2 (hF _ c 53 hc (by decide) (by decide))
    · obtain rfl := List.mem_singleton.1 hp
      have hP2 := hP
      obtain ⟨_, c, hc, _⟩ := hP2
      exact hP.keep hk2 (hF _ c 53 hc (by decide) (by decide))
/-- Its count is entered. -/
theorem Rooms3.entNS (h : Rooms3 w B g LE LS LM vS vE vNS vNE) (hk : Keeps (fun q => vNS.ownBlock = some q) w w3) (ho : w3.ownsRow B 3 1 (.slice (some ⟨ge, 0, none⟩) (LM.length + 1) ce) (LM.length + 1) (LM.map Lent.c ++ [P.c])) (ha : vNS.ownBlock = some ge ∨ w.heap.size ≤ ge) :
    w3.heap[g]? = some (.cells #[vS, vE, vNS, vNE] 47 (0, 0)) ∧ Rooms3 (w3.setCell ⟨g, 2, none⟩ (.slice (some ⟨ge, 0, none⟩) (LM.length + 1) ce)) B g LE LS (LM ++ [P]) vS vE (.slice (some ⟨ge, 0, none⟩) (LM.length + 1) ce) vNE ∧ Keeps (BF w B g) w (w3.setCell ⟨g, 2, none⟩ (.slice (some ⟨ge, 0, none⟩) (LM.length + 1) ce)) := by
  have hn : ∀ k c t, w.heap[k]? = some (.cells c t (0, 0)) → t ≠ 3 → ¬ vNS.ownBlock = some k := fun k c t hc ht e => by
    obtain ⟨_, c', hc'⟩ := own_typed h.rowNS e
    exact typed_ne hc hc' ht
  have hg3 := (hk.block g (lt_of_block h.blk) (hn g _ 47 h.blk (by decide))).trans h.blk
  have hks := keeps_set w3 g 2 (.slice (some ⟨ge, 0, none⟩) (LM.length + 1) ce)
  have hk2 : Keeps (fun q => q = g ∨ vNS.ownBlock = some q) w (w3.setCell ⟨g, 2, none⟩ (.slice (some ⟨ge, 0, none⟩) (LM.length + 1) ce)) := (hk.mono (fun _ _ e => Or.inr e)).trans (((Keeps.refl _ w3).setCell (p := ⟨g, 2, none⟩) (fun _ => Or.inl rfl) _))
  have hF : ∀ k c t, w.heap[k]? = some (.cells c t (0, 0)) → t ≠ 47 → t ≠ 3 → ¬ (k = g ∨ vNS.ownBlock = some k) := fun k c t hc h1 h2 e => by
    rcases e with rfl | e
    · exact typed_ne hc h.blk h1
    · exact hn k c t hc h2 e
  refine ⟨hg3, ⟨h.lo, ?_, ?_, ?_, ?_, ?_, ?_, ?_, ?_⟩, h.keeps h.rowNS (Or.inr (Or.inr rfl)) hk2 (fun q e => e)⟩
  · exact heap_setCell_at (o := 2) hg3 _
  · exact ownsRow_kept h.rowS hk2 (fun q e => by obtain ⟨_, c, hc⟩ := own_typed h.rowS e; exact hF q c 25 hc (by decide) (by decide))
  · exact ownsRow_kept h.rowE hk2 (fun q e => by obtain ⟨_, c, hc⟩ := own_typed h.rowE e; exact hF q c 51 hc (by decide) (by decide))
  · have := ownsRow_kept ho hks (fun q e f => by obtain ⟨_, c, hc⟩ := own_typed ho e; subst f; exact typed_ne hc hg3 (by decide))
    simpa using this
  · refine ownsRow_kept h.rowNE hk2 (fun q e f => ?_)
    rcases f with rfl | f
    · obtain ⟨_, c, hc⟩ := own_typed h.rowNE e
      exact typed_ne hc h.blk (by decide)
    · exact h.apart q f e
  · intro q e f
    have e' : ge = q := by simpa [Value.ownBlock] using e
    rcases ha with ha | ha
    · exact h.apart q (by rw [ha, e']) f
    · have := own_lt h.rowNE f
      omega
  · intro p hp
    obtain ⟨_, c, hc, _⟩ := h.ex p hp
    exact (h.ex p hp).keep hk2 (hF _ c 57 hc (by decide) (by decide))
  · intro p hp
    obtain ⟨_, c, hc, _⟩ := h.st p hp
    exact (h.st p hp).keep hk2 (hF _ c 53 hc (by decide) (by decide))
end
theorem SsIn.length {Z : Zone} {w : World} : ∀ {l : SL} {xs : List Value}, SsIn Z w l xs → xs.length = l.len * 5
  | .nil, _, h => by have h' : _ = _ := h; subst h'; rfl
  | .cons _ _ _ _ _ r, _, ⟨_, _, _, xs', e, _, _, _, h⟩ => by have := SsIn.length h; subst e; simp [SL.len, this]; omega
end Go.Proofs.YtoempeobaknkcaaGreatDoor
namespace Go.Proofs.YtoempeobaknkcaaGreatDoor
open Go.RowKit Go.Maps

theorem Tryz.info25' : (Tryz.prog.info? 25).map (fun i => (i.zero, i.size, i.bytes)) = some (some (.slice none 0 0), 1, 24) := by kernel_rfl

set_option maxRecDepth 100000 in
set_option maxHeartbeats 8000000 in
theorem rStmts_v (Z : Zone) (B g : Nat) (hZ : Plain Z B) (N : Nat) : ∀ (l : SL), l.size < N → l.size ≤ 4294967294 → ∀ (w : World) (up : Nat) (v : Value) (LE LS : List Lent) (vS vE vNS vNE : Value), SlS Z w up v l → RoomsAt w B g LE LS vS vE vNS vNE → LE.length + l.size ≤ 50000000000 → LS.length + 2 * l.size + 1 ≤ 50000000000 →
    Calls Tryz.prog 13 #[.pointer (some ⟨g, 0, none⟩), v] w (RsPost B g LE LS l w) := by
  induction N with
  | zero => intro l h; omega
  | succ N ih =>
    intro l hsz hlen' w up v LE LS vS vE vNS vNE hS hR hLB hSB
    have hlen : l.len ≤ 4294967294 := by have := SL.len_le l; omega
    obtain ⟨ao, cap, b, off, rfl, hcap, ha, hx⟩ := hS.open
    obtain ⟨i0, hi, hz0, hz1, hz2⟩ := info_parts Tryz.info53
    obtain ⟨i1_, hi1, hy0, hy1, hy2⟩ := info_parts Tryz.info25'
    obtain ⟨i2_, hi2, hx0, hx1, hx2⟩ := info_parts Tryz.info3'
    have hlo := hR.lo
    have IH := hide ih
    have HX := hide hx
    have HA := hide ha
    have HLB := hide hLB
    have HSB := hide hSB
    have HZ := hide hZ
    clear hS ih hx ha hZ hLB hSB
    go_enter Tryz.func13, Tryz.ntmps13
    go_wp2_with fail
    go_loopw [5, 6] (fun o i wr => ∃ (pre rest : SL) (k : Nat) (xs : List Value) (A : Nat → Prop) (LE1 LS1 : List Lent) (vS1 vE1 vNS1 vNE1 : Value), i = .int .i64 k ∧ l = pre.app rest ∧ k = pre.len ∧ wr.ownsRow w.heap.size 53 5 o k xs ∧ SsIn (tyZ A) wr pre xs ∧ (∀ q, A q → w.heap.size ≤ q ∧ q < wr.heap.size ∧ o.ownBlock ≠ some q) ∧ RoomsAt wr B g LE1 LS1 vS1 vE1 vNS1 vNE1 ∧ (∀ p ∈ LE1, p ∈ LE ∨ w.heap.size ≤ p.g) ∧ (∀ p ∈ LS1, (p ∈ LS ∨ w.heap.size ≤ p.g) ∧ o.ownBlock ≠ some p.g) ∧ LE1.length ≤ LE.length + pre.size ∧ LS1.length ≤ LS.length + 2 * pre.size ∧ Keeps (BF w B g) w wr ∧ StIn Z w rest b (off + k * 5)) (fun _ i _ => l.len - (intOf i).toNat)
    case atStart => exact ⟨.nil, l, 0, [], fun _ => False, LE, LS, vS, vE, vNS, vNE, rfl, rfl, rfl, World.ownsRow_nil w w.heap.size 53 5, rfl, fun q h => h.elim, hR, fun p hp => Or.inl hp, fun p hp => ⟨Or.inl hp, by simp [Value.ownBlock]⟩, Nat.le_add_right _ _, Nat.le_add_right _ _, Keeps.refl _ _, by simpa using unhide HX⟩
    case round =>
      obtain ⟨pre, rest, k, xs, A, LE1, LS1, vS1, vE1, vNS1, vNE1, rfl, happ, hkp, hown, hcs, hAq, hR1, hLE, hLS, hLN, hSN, hkeep, hr⟩ := hrel
      obtain ⟨oo, oc, rfl⟩ := (rowAt_own hown).form
      have hll := congrArg SL.len happ
      have hls := congrArg SL.size happ
      rw [SL.len_app] at hll
      rw [SL.size_app] at hls
      have HO := hide hown
      have HCS := hide hcs
      have HAQ := hide hAq
      have HK := hide hkeep
      have HR1 := hide hR1
      have HLE := hide hLE
      have HLS := hide hLS
      have HLN := hide hLN
      have HSN := hide hSN
      have HAPP := hide happ
      cases rest with
      | nil =>
        rw [SL.app_nil] at happ
        subst happ
        simp only [SL.len, SL.size, Nat.add_zero] at hll hls
        have i1 : ¬ (k : Int) < (l.len : Int) := by omega
        subst hkp
        have HXL := hide (SsIn.length (unhide HCS))
        clear hown hcs hAq hkeep hr hll hls HAPP hR1 hLE hLS hLN hSN
        go_wp2_with fail
        go_loopw [5, 8] (fun o i w2 => ∃ j : Nat, j ≤ 64 ∧ i = .int .i64 (j : Int) ∧ Hid (w2.ownsRow w.heap.size 53 5 o (l.len + j) (xs ++ marksRS j)) ∧ Hid (SsIn (tyZ A) w2 l xs) ∧ Hid (∀ q, A q → w.heap.size ≤ q ∧ q < w2.heap.size ∧ o.ownBlock ≠ some q) ∧ Hid (RoomsAt w2 B g LE1 LS1 vS1 vE1 vNS1 vNE1) ∧ Hid (∀ p ∈ LS1, (p ∈ LS ∨ w.heap.size ≤ p.g) ∧ o.ownBlock ≠ some p.g) ∧ Hid (Keeps (BF w B g) w w2)) (fun _ i _ => 64 - (intOf i).toNat)
        case atStart => exact ⟨0, by omega, rfl, by simpa [Hid, marksRS] using unhide HO, HCS, HAQ, HR1, HLS, HK⟩
        case round =>
          clear HO HCS HAQ HR1 HLS HK
          obtain ⟨j, hj, rfl, HO, HCS, HAQ, HR1, HLS, HK⟩ := hrel
          obtain ⟨oo, oc, rfl⟩ := (rowAt_own (unhide HO)).form
          by_cases hlt : j < 64
          · have i2 : (j : Int) < 64 := by omega
            have i0' : (0 : Int) ≤ (j : Int) := by omega
            have HOX := hide ((unhide HO).alloc (.cells #[.int .i64 (1000 + (j : Int)), .string ⟨#[114, 111, 111, 109]⟩, .slice none 0 0, .slice none 0 0, .slice none 0 0] 53))
            have HNB := hide (heap_alloc_new wr (.cells #[.int .i64 (1000 + (j : Int)), .string ⟨#[114, 111, 111, 109]⟩, .slice none 0 0, .slice none 0 0, .slice none 0 0] 53))
            have HB0 := hide (unhide HK).size
            go_wp2_with (at_builtin; refine wpList_append_lies _ rfl _ _ _ rfl w.heap.size 53 i0 _ 5 96 Tryz.underlying25 hi hz0 hz1 hz2 rfl (by omega) (.slice oo (l.len + j) oc) (l.len + j) (xs ++ marksRS j) rfl (unhide HOX) ⟨wr.heap.size, 0, none⟩ 1 1 (markRS j) rfl rfl (World.news_of_block (cs := #[.int .i64 (1000 + (j : Int)), .string ⟨#[114, 111, 111, 109]⟩, .slice none 0 0, .slice none 0 0, .slice none 0 0]) (t := 53) (fr := (0, 0)) (unhide HNB)) (one_markRS j) (by omega) (by unfold maxLen; omega) (by omega) (by have := unhide HB0; simp; omega) (wr.heap.size + 1) (by simp) ?_; intro g' cap6 w6 hown6 hgrow hat hlt6; have HO6 := hide hown6; have HGR := hide hgrow; have HAT := hide hat; clear hown6 hgrow hat)
            go_roundw
            case rel =>
              have hgr := unhide HGR
              have hkA : Keeps (fun _ => False) wr (wr.alloc (.cells #[.int .i64 (1000 + (j : Int)), .string ⟨#[114, 111, 111, 109]⟩, .slice none 0 0, .slice none 0 0, .slice none 0 0] 53)) := (Keeps.refl _ wr).alloc _
              have hk3 : Keeps (fun q => (Value.slice oo (l.len + j) oc).ownBlock = some q) wr w6 := hkA.any.grown hgr (fun q e _ => e)
              have hol : ∀ q, (Value.slice oo (l.len + j) oc).ownBlock = some q → w.heap.size ≤ q ∧ q < wr.heap.size := fun q e => (unhide HO).lt q e
              have hs6 : wr.heap.size + 1 ≤ w6.heap.size := by have := hgr.size; simp at this; omega
              refine ⟨j + 1, by omega, by go_num, ?_, hide ((unhide HCS).tyKeep hk3 (fun sb q c h _ e => ((unhide HAQ) q h).2.2 e)), hide (fun q hq => ?_), hide ((unhide HR1).rowS' (fun q e => (own_typed (unhide HO) e).2) (fun p hp => (unhide HLS p hp).2) hk3), hide (fun p hp => ⟨(unhide HLS p hp).1, fun e => ?_⟩), hide (bf_two (unhide HK) hk3 (fun i hi e => by have := (hol i e).1; omega))⟩
              · have := unhide HO6
                rw [marksRS_succ, ← List.append_assoc, ← Nat.add_assoc]
                exact this
              · obtain ⟨a1, a2, a3⟩ := (unhide HAQ) q hq
                refine ⟨a1, by omega, fun e => ?_⟩
                have e' : g' = q := by simpa [Value.ownBlock] using e
                rcases unhide HAT with h | h
                · exact a3 (by rw [h, e'])
                · omega
              · have e' : g' = p.g := by simpa [Value.ownBlock] using e
                rcases unhide HAT with h | h
                · exact (unhide HLS p hp).2 (by rw [h, e'])
                · have := (unhide HR1).st_lt hp; omega
            case measure => simp [intOf]; omega
          · obtain rfl : j = 64 := by omega
            obtain ⟨w2, rfl⟩ : ∃ W, W = wr := ⟨_, rfl⟩
            obtain ⟨g2, cp, cur, e, hgl, hgb, hc⟩ : ∃ g cp cur, (Value.slice oo (l.len + 64) oc) = .slice (some ⟨g, 0, none⟩) (l.len + 64) cp ∧ w.heap.size ≤ g ∧ w2.heap[g]? = some (.cells cur 53 (0, 0)) ∧ l.len + 64 ≤ cp := by
              rcases (unhide HO).2 with ⟨_, h0⟩ | ⟨g, cp, cur, a1, a2, a3, a4, _⟩
              · omega
              · exact ⟨g, cp, cur, a1, a2, a3, a4⟩
            simp only [Value.slice.injEq] at e
            obtain ⟨rfl, _, rfl⟩ := e
            have hxs : xs.length = l.len * 5 := unhide HXL
            have hrow := fun j x (hx : (xs ++ marksRS 64)[j]? = some x) => (show w2.cell? ⟨g2, j, none⟩ = some x from by
              have hl := (List.getElem?_eq_some_iff.1 hx).1
              rw [(unhide HO).1] at hl
              exact ((unhide HO).cellAt j hl).trans hx)
            have HSL : Hid (SlS (tyZ (fun q => w.heap.size ≤ q)) w2 0 (.slice (some ⟨g2, 0, none⟩) l.len oc) l) := by
              refine ⟨some ⟨g2, 0, none⟩, oc, rfl, by omega, fun _ => ⟨g2, 0, rfl, trivial, SsIn.stTy hgb hgl (fun q _ h => ((unhide HAQ) q h).1) (unhide HCS) (fun j x hx => ?_)⟩⟩
              rw [Nat.zero_add]
              exact hrow j x (by rw [List.getElem?_append_left (List.getElem?_eq_some_iff.1 hx).1]; exact hx)
            have HMP : Hid (MarkS w2 ⟨g2, l.len, oc⟩) := by
              refine ⟨hlen, cur, hgb, fun k hk => ?_⟩
              have hm : ∀ m, m < 5 → cur[(l.len + k) * 5 + m]? = (markRS k)[m]? := fun m hm => by
                have h1 := marksRS_at (j := 64) hk hm
                obtain ⟨x, hx⟩ : ∃ x, (markRS k)[m]? = some x := ⟨_, List.getElem?_eq_getElem (by simpa [markRS] using hm)⟩
                rw [hx] at h1 ⊢
                have := hrow (l.len * 5 + (k * 5 + m)) x (by rw [List.getElem?_append_right (by omega), hxs, Nat.add_sub_cancel_left]; exact h1)
                rw [cell_of_blk hgb, show l.len * 5 + (k * 5 + m) = (l.len + k) * 5 + m by omega] at this
                exact this
              exact ⟨hm 0 (by decide), hm 1 (by decide), hm 2 (by decide), hm 3 (by decide), hm 4 (by decide)⟩
            obtain ⟨eo, ec, rfl⟩ := (rowAt_own (unhide HR1).rowS).form
            obtain ⟨no, nc, rfl⟩ := (rowAt_own (unhide HR1).rowNS).form
            have r1 := (cell_of_blk (unhide HR1).blk 0).trans (show _ = some (Value.slice eo LS1.length ec) from rfl)
            have hlb : LS1.length + 1 ≤ 100000000000 := by have := unhide HSB; have := unhide HSN; omega
            have i2 : ¬ ((64 : Nat) : Int) < 64 := by omega
            have c1 : (l.len : Int) ≤ (oc : Int) := by omega
            have c2 : l.len ≤ oc := by omega
            have HOE := hide ((unhide HR1).rowS.alloc (.cells #[.slice (some ⟨g2, 0, none⟩) (l.len + 64) oc] 25))
            have HNE := hide (heap_alloc_new w2 (.cells #[.slice (some ⟨g2, 0, none⟩) (l.len + 64) oc] 25))
            have HBS := hide (Nat.le_trans (unhide HR1).lo (Nat.le_of_lt (lt_of_block (unhide HR1).blk)))
            have HTB := hide (fun (sb : Bool) (q : Nat) (c : Array Value) (hc : w2.heap[q]? = some (.cells c (kindT sb) (0, 0))) => ty_bf (unhide HR1) hc)
            have HONE : Hid (∀ u ∈ [Value.slice (some ⟨g2, 0, none⟩) (l.len + 64) oc], u.oneCell' = true) := fun u hu => by
              obtain rfl := List.mem_singleton.1 hu
              rfl
            clear hrow hxs hgb
            go_upto_region 15 with (at_builtin; refine wpList_append_lies _ rfl _ _ _ rfl B 25 i1_ _ 1 24 (by kernel_rfl) hi1 hy0 hy1 hy2 rfl (by omega) (.slice eo LS1.length ec) LS1.length (LS1.map Lent.v) rfl (unhide HOE) ⟨w2.heap.size, 0, none⟩ 1 1 [.slice (some ⟨g2, 0, none⟩) (l.len + 64) oc] rfl rfl (World.news_of_block (cs := #[.slice (some ⟨g2, 0, none⟩) (l.len + 64) oc]) (t := 25) (fr := (0, 0)) (unhide HNE)) (unhide HONE) (by omega) (by unfold maxLen; omega) (by omega) (by have := unhide HBS; simp; omega) (w2.heap.size + 1) (by simp) ?_; intro ge ce w3 hown6 hgrow hat hlt6; have hk3 : Keeps (fun q => (Value.slice eo LS1.length ec).ownBlock = some q) w2 w3 := (((Keeps.refl (fun _ => False) w2).alloc _).any).grown hgrow (fun q e _ => e); obtain ⟨hg3, hr3, hk4⟩ := (unhide HR1).three.entS (P := ⟨g2, l.len, oc⟩) (unhide HMP) hk3 hown6; have y1 := cell_of_blk hg3 0; have f1 := frozen_of_blk hg3 0; simp at y1; have HR3 := hide hr3; have HK4 := hide hk4; clear hown6 hgrow hat hlt6 hk3 hg3 hr3 hk4)
            generalize w3.setCell ⟨g, 0, none⟩ (.slice (some ⟨ge, 0, none⟩) (LS1.length + 1) ce) = w4 at *
            have HLS1 := hide (fun p (hp : p ∈ LS1) => (unhide HLS p hp).1)
            have r3 := (cell_of_blk (unhide HR3).blk 2).trans (show _ = some (Value.slice no LS1.length nc) from rfl)
            have HOE := hide ((unhide HR3).rowNS.alloc (.cells #[.int .i64 (l.len : Int)] 3))
            have HNE := hide (heap_alloc_new w4 (.cells #[.int .i64 (l.len : Int)] 3))
            have HBS := hide (Nat.le_trans (unhide HR3).lo (Nat.le_of_lt (lt_of_block (unhide HR3).blk)))
            have HONE : Hid (∀ u ∈ [Value.int .i64 (l.len : Int)], u.oneCell' = true) := fun u hu => by
              obtain rfl := List.mem_singleton.1 hu
              rfl
            clear r1 y1 f1 HR1 HO HAQ HCS HLS
            go_wp2_with (at_builtin; refine wpList_append_lies _ rfl _ _ _ rfl B 3 i2_ _ 1 8 (by kernel_rfl) hi2 hx0 hx1 hx2 rfl (by omega) (.slice no LS1.length nc) LS1.length (LS1.map Lent.c) rfl (unhide HOE) ⟨w4.heap.size, 0, none⟩ 1 1 [.int .i64 (l.len : Int)] rfl rfl (World.news_of_block (cs := #[.int .i64 (l.len : Int)]) (t := 3) (fr := (0, 0)) (unhide HNE)) (unhide HONE) (by omega) (by unfold maxLen; omega) (by omega) (by have := unhide HBS; simp; omega) (w4.heap.size + 1) (by simp) ?_; intro gn cn w5 hown6 hgrow hat hlt6; have hk3 : Keeps (fun q => (Value.slice no LS1.length nc).ownBlock = some q) w4 w5 := (((Keeps.refl (fun _ => False) w4).alloc _).any).grown hgrow (fun q e _ => e); obtain ⟨hg3, hr3, hk4⟩ := (unhide HR3).entNS (P := ⟨g2, l.len, oc⟩) hk3 hown6 (hat.imp id (fun e => by omega)); have y1 := cell_of_blk hg3 2; have f1 := frozen_of_blk hg3 2; simp at y1; have HR5 := hide hr3; have HK5 := hide hk4; clear hown6 hgrow hat hlt6 hk3 hg3 hr3 hk4)
            go_ret
            have hk6 := bf_trans (unhide HK4) (unhide HK5)
            refine ⟨_, LE1, LS1 ++ [⟨g2, l.len, oc⟩], _, _, _, _, rfl, (unhide HSL).tyKeep hk6 (fun sb q c _ hc => unhide HTB sb q c hc), (unhide HR5).one, unhide HLE, fun p hp => ?_, ?_, ?_, bf_trans (unhide HK) hk6⟩
            · rcases List.mem_append.1 hp with hp | hp
              · exact unhide HLS1 p hp
              · obtain rfl := List.mem_singleton.1 hp
                exact Or.inr hgl
            · exact unhide HLN
            · have := unhide HSN
              simp only [List.length_append, List.length_cons, List.length_nil]
              omega
      | cons op f x t el rest =>
        obtain ⟨h1, h2, h3, h4, ⟨xv, h5, hxs⟩, ⟨tao, tcap, h6, h7, h8⟩, ⟨eao, ecap, j6, j7, j8⟩, h9⟩ := hr
        simp only [SL.len, SL.size] at hll hls
        have hkl : k + (rest.len + 1) = l.len := by omega
        obtain ⟨xao, xcap, rfl, hxl⟩ := hxs.head
        have hst : x.size < N ∧ x.size ≤ 4294967294 ∧ t.size < N ∧ t.size ≤ 4294967294 ∧ el.size < N ∧ el.size ≤ 4294967294 ∧ pre.size + x.size + t.size + el.size + 1 ≤ l.size := by omega
        have HKP := hide hkp
        have HST := hide hst
        clear hll hls hkp hst
        obtain ⟨rfl, hp⟩ := (unhide HA) (by omega)
        have HXS : Hid (SlE Z w b (.slice xao x.len xcap) x) := hxs
        have HTS : Hid (SlS Z w b (.slice tao t.len tcap) t) := ⟨tao, tcap, rfl, h7, h8⟩
        have HES : Hid (SlS Z w b (.slice eao el.len ecap) el) := ⟨eao, ecap, rfl, j7, j8⟩
        have HRX := hide h9
        have i1 : (k : Int) < (l.len : Int) := by omega
        have ix0 : (0 : Int) ≤ (k : Int) := by omega
        have hbn : ¬ BF w B g b := fun e => by have := (unhide HZ w w true b h2).1; have := e.lo hlo; omega
        have q0 := (hkeep.cell h1 hbn).trans h3
        have q1 := (hkeep.cell h1 hbn).trans h4
        have q2 := (hkeep.cell h1 hbn).trans h5
        have q3 := (hkeep.cell h1 hbn).trans h6
        have q4 := (hkeep.cell h1 hbn).trans j6
        have HB0 : Hid (w.heap.size ≤ wr.heap.size) := hkeep.size
        have hol : ∀ q, (Value.slice oo k oc).ownBlock = some q → w.heap.size ≤ q ∧ q < wr.heap.size := fun q e => hown.lt q e
        have HOL := hide hol
        have HL1 := hide (fun p (hp : p ∈ LS1) => hR1.st_lt hp)
        have HA1 := hide (fun q (hq : A q) => (hAq q hq).2.1)
        have hkA : Keeps (fun _ => False) wr (wr.alloc (.cells #[.int .i64 op, str f, .slice xao x.len xcap, .slice tao t.len tcap, .slice eao el.len ecap] 53)) := (Keeps.refl _ wr).alloc _
        have M0 : Hid (Mid w wr (wr.alloc (.cells #[.int .i64 op, str f, .slice xao x.len xcap, .slice tao t.len tcap, .slice eao el.len ecap] 53)) B g (.slice oo k oc) k xs A pre LE1 LS1 LE1 LS1 vS1 vE1 vNS1 vNE1 #[.int .i64 op, str f, .slice xao x.len xcap, .slice tao t.len tcap, .slice eao el.len ecap]) :=
          ⟨hR1.keepF hkA, hown.alloc _, hcs.tyKeep hkA (fun _ _ _ _ _ => id), heap_alloc_new wr _, fun p hp => Or.inl hp, fun p hp => Or.inl hp, bf_two hkeep hkA (fun _ _ => id), by simp⟩
        have HCX := hide (rExprs_v Z B g (unhide HZ) LS1 vS1 vNS1 (x.size + 1) x (by omega) (unhide HST).2.1 _ b _ LE1 vE1 vNE1 ((unhide HXS).plain (unhide HZ) hlo (unhide M0).keep) (unhide M0).R (by have := unhide HST; have := unhide HLB; have := unhide HLN; omega))
        have r2 := (cell_of_blk (unhide M0).bx 2).trans (show _ = some (Value.slice xao x.len xcap) from rfl)
        clear hown hcs hAq hkeep hR1 hLE hLS hLN hSN h1 h2 h3 h4 h5 h6 h8 h9 j6 j8 happ hxs hbn hkA hol
        go_upto_region 6 with fail
        generalize wr.alloc (.cells #[.int .i64 op, str f, .slice xao x.len xcap, .slice tao t.len tcap, .slice eao el.len ecap] 53) = W0 at *
        go_upto_region 7 with (go_at_call 28; refine (unhide HCX).mono ?_; rintro e w1 ⟨xv1, LE2, vE2, vNE2, rfl, hs1, hr1, hl1, hn1, hk1⟩; obtain ⟨xo1, xc1, rfl, _⟩ := hs1.head; have HM1 := hide ((unhide M0).call hk1 hr1 hl1 (fun p hp => Or.inl hp)); have y2 := cell_of_blk (unhide HM1).bx 2; simp at y2; have f2 := frozen_of_blk (unhide HM1).bx 2; have HS1 := hide hs1; have HN1 := hide hn1; clear hs1 hr1 hl1 hn1 hk1)
        have M1 : Hid (Mid w wr (w1.setCell ⟨wr.heap.size, 2, none⟩ (.slice xo1 x.len xc1)) B g (.slice oo k oc) k xs A pre LE1 LS1 LE2 LS1 vS1 vE2 vNS1 vNE2 #[.int .i64 op, str f, .slice xo1 x.len xc1, .slice tao t.len tcap, .slice eao el.len ecap]) := by
          simpa [Hid] using (unhide HM1).set 2 (.slice xo1 x.len xc1) (unhide HB0) (unhide HA1) (fun q e => (unhide HOL q e).2) (unhide HL1)
        have SX1 : Hid (SlE (tyZ (fun q => wr.heap.size + 1 ≤ q)) (w1.setCell ⟨wr.heap.size, 2, none⟩ (.slice xo1 x.len xc1)) 0 (.slice xo1 x.len xc1) x) :=
          ((unhide HS1).tyMono (up' := 0) (C := fun q => wr.heap.size + 1 ≤ q) (fun q _ h => Nat.le_trans (unhide M0).sz h)).tyKeep (keeps_set _ _ _ _) (fun _ q _ hq _ e => by omega)
        generalize w1.setCell ⟨wr.heap.size, 2, none⟩ (.slice xo1 x.len xc1) = W1 at *
        have HCT := hide (unhide IH t (unhide HST).2.2.1 (unhide HST).2.2.2.1 W1 b _ LE2 LS1 vS1 vE2 vNS1 vNE2 ((unhide HTS).plain (unhide HZ) hlo (unhide M1).keep) (unhide M1).R (by have := unhide HST; have := unhide HLB; have := unhide HLN; have := unhide HN1; omega) (by have := unhide HST; have := unhide HSB; have := unhide HSN; omega))
        have r3 := (cell_of_blk (unhide M1).bx 3).trans (show _ = some (Value.slice tao t.len tcap) from rfl)
        clear r2 y2 f2 HM1 HS1 HCX
        go_upto_region 8 with (go_at_call 13; refine (unhide HCT).mono ?_; rintro e w2 ⟨tv2, LE3, LS3, vS3, vE3, vNS3, vNE3, rfl, hs2, hr2, hl2, hm2, hn2, ho2, hk2⟩; obtain ⟨to2, tc2, rfl, _⟩ := hs2.head; have HM2 := hide ((unhide M1).call hk2 hr2 hl2 hm2); have y3 := cell_of_blk (unhide HM2).bx 3; simp at y3; have f3 := frozen_of_blk (unhide HM2).bx 3; have HSX := hide ((unhide SX1).tyKeep hk2 (fun sb q c _ hc => ty_bf (unhide M1).R hc)); have HS2 := hide hs2; have HN2 := hide hn2; have HP2 := hide ho2; clear hs2 hr2 hl2 hm2 hn2 ho2 hk2)
        have M2 : Hid (Mid w wr (w2.setCell ⟨wr.heap.size, 3, none⟩ (.slice to2 t.len tc2)) B g (.slice oo k oc) k xs A pre LE1 LS1 LE3 LS3 vS3 vE3 vNS3 vNE3 #[.int .i64 op, str f, .slice xo1 x.len xc1, .slice to2 t.len tc2, .slice eao el.len ecap]) := by
          simpa [Hid] using (unhide HM2).set 3 (.slice to2 t.len tc2) (unhide HB0) (unhide HA1) (fun q e => (unhide HOL q e).2) (unhide HL1)
        have SX2 : Hid (SlE (tyZ (fun q => wr.heap.size + 1 ≤ q)) (w2.setCell ⟨wr.heap.size, 3, none⟩ (.slice to2 t.len tc2)) 0 (.slice xo1 x.len xc1) x) :=
          (unhide HSX).tyKeep (keeps_set _ _ _ _) (fun _ q _ hq _ e => by omega)
        have ST2 : Hid (SlS (tyZ (fun q => wr.heap.size + 1 ≤ q)) (w2.setCell ⟨wr.heap.size, 3, none⟩ (.slice to2 t.len tc2)) 0 (.slice to2 t.len tc2) t) :=
          ((unhide HS2).tyMono (up' := 0) (C := fun q => wr.heap.size + 1 ≤ q) (fun q _ h => Nat.le_trans (unhide M1).sz h)).tyKeep (keeps_set _ _ _ _) (fun _ q _ hq _ e => by omega)
        generalize w2.setCell ⟨wr.heap.size, 3, none⟩ (.slice to2 t.len tc2) = W2 at *
        have HCE := hide (unhide IH el (unhide HST).2.2.2.2.1 (unhide HST).2.2.2.2.2.1 W2 b _ LE3 LS3 vS3 vE3 vNS3 vNE3 ((unhide HES).plain (unhide HZ) hlo (unhide M2).keep) (unhide M2).R (by have := unhide HST; have := unhide HLB; have := unhide HLN; have := unhide HN1; have := unhide HN2; omega) (by have := unhide HST; have := unhide HSB; have := unhide HSN; have := unhide HP2; omega))
        have r4 := (cell_of_blk (unhide M2).bx 4).trans (show _ = some (Value.slice eao el.len ecap) from rfl)
        clear r3 y3 f3 HM2 HS2 HSX SX1 M1 HCT
        go_upto_region 9 with (go_at_call 13; refine (unhide HCE).mono ?_; rintro e w3 ⟨ev3, LE4, LS4, vS4, vE4, vNS4, vNE4, rfl, hs3, hr3, hl3, hm3, hn3, ho3, hk3⟩; obtain ⟨eo3, ec3, rfl, _⟩ := hs3.head; have HM3 := hide ((unhide M2).call hk3 hr3 hl3 hm3); have y4 := cell_of_blk (unhide HM3).bx 4; simp at y4; have f4 := frozen_of_blk (unhide HM3).bx 4; have HSX := hide ((unhide SX2).tyKeep hk3 (fun sb q c _ hc => ty_bf (unhide M2).R hc)); have HST2 := hide ((unhide ST2).tyKeep hk3 (fun sb q c _ hc => ty_bf (unhide M2).R hc)); have HS3 := hide hs3; have HN3 := hide hn3; have HP3 := hide ho3; clear hs3 hr3 hl3 hm3 hn3 ho3 hk3)
        have M3 : Hid (Mid w wr (w3.setCell ⟨wr.heap.size, 4, none⟩ (.slice eo3 el.len ec3)) B g (.slice oo k oc) k xs A pre LE1 LS1 LE4 LS4 vS4 vE4 vNS4 vNE4 #[.int .i64 op, str f, .slice xo1 x.len xc1, .slice to2 t.len tc2, .slice eo3 el.len ec3]) := by
          simpa [Hid] using (unhide HM3).set 4 (.slice eo3 el.len ec3) (unhide HB0) (unhide HA1) (fun q e => (unhide HOL q e).2) (unhide HL1)
        have SX3 : Hid (SlE (tyZ (fun q => wr.heap.size + 1 ≤ q)) (w3.setCell ⟨wr.heap.size, 4, none⟩ (.slice eo3 el.len ec3)) 0 (.slice xo1 x.len xc1) x) :=
          (unhide HSX).tyKeep (keeps_set _ _ _ _) (fun _ q _ hq _ e => by omega)
        have ST3 : Hid (SlS (tyZ (fun q => wr.heap.size + 1 ≤ q)) (w3.setCell ⟨wr.heap.size, 4, none⟩ (.slice eo3 el.len ec3)) 0 (.slice to2 t.len tc2) t) :=
          (unhide HST2).tyKeep (keeps_set _ _ _ _) (fun _ q _ hq _ e => by omega)
        have SE3 : Hid (SlS (tyZ (fun q => wr.heap.size + 1 ≤ q)) (w3.setCell ⟨wr.heap.size, 4, none⟩ (.slice eo3 el.len ec3)) 0 (.slice eo3 el.len ec3) el) :=
          ((unhide HS3).tyMono (up' := 0) (C := fun q => wr.heap.size + 1 ≤ q) (fun q _ h => Nat.le_trans (unhide M2).sz h)).tyKeep (keeps_set _ _ _ _) (fun _ q _ hq _ e => by omega)
        generalize w3.setCell ⟨wr.heap.size, 4, none⟩ (.slice eo3 el.len ec3) = W3 at *
        have s0 := (cell_of_blk (unhide M3).bx 0).trans (show _ = some (Value.int .i64 op) from rfl)
        have s1 := (cell_of_blk (unhide M3).bx 1).trans (show _ = some (str f) from rfl)
        have s2 := (cell_of_blk (unhide M3).bx 2).trans (show _ = some (Value.slice xo1 x.len xc1) from rfl)
        have s3 := (cell_of_blk (unhide M3).bx 3).trans (show _ = some (Value.slice to2 t.len tc2) from rfl)
        have s4 := (cell_of_blk (unhide M3).bx 4).trans (show _ = some (Value.slice eo3 el.len ec3) from rfl)
        have HOX := hide ((unhide M3).O.alloc (.cells #[.int .i64 op, str f, .slice xo1 x.len xc1, .slice to2 t.len tc2, .slice eo3 el.len ec3] 53))
        have HNB := hide (heap_alloc_new W3 (.cells #[.int .i64 op, str f, .slice xo1 x.len xc1, .slice to2 t.len tc2, .slice eo3 el.len ec3] 53))
        have hz3 := (unhide M3).sz
        clear r4 y4 f4 HM3 HS3 HSX HST2 SX2 ST2 M2 HCE
        go_wp2_with (at_builtin; refine wpList_append_lies _ rfl _ _ _ rfl w.heap.size 53 i0 _ 5 96 Tryz.underlying25 hi hz0 hz1 hz2 rfl (by omega) (.slice oo k oc) k xs rfl (unhide HOX) ⟨W3.heap.size, 0, none⟩ 1 1 [.int .i64 op, str f, .slice xo1 x.len xc1, .slice to2 t.len tc2, .slice eo3 el.len ec3] rfl rfl (World.news_of_block (cs := #[.int .i64 op, str f, .slice xo1 x.len xc1, .slice to2 t.len tc2, .slice eo3 el.len ec3]) (t := 53) (fr := (0, 0)) (unhide HNB)) (one_st _ _ _ _ _ _ _ _ _ _ _) (by omega) (by unfold maxLen; omega) (by omega) (by have := unhide HB0; simp; omega) (W3.heap.size + 1) (by simp) ?_; intro g6 c6 w6 hown6 hgrow hat hlt6; have HO6 := hide hown6; have HGR := hide hgrow; have HAT := hide hat; clear hown6 hgrow hat)
        go_roundw
        case rel =>
          have hgr := unhide HGR
          have hB0 := unhide HB0
          have hol := unhide HOL
          have hk6 : Keeps (fun q => (Value.slice oo k oc).ownBlock = some q) W3 w6 := (((Keeps.refl (fun _ => False) W3).alloc _).any).grown hgr (fun q e _ => e)
          have hs6 : W3.heap.size + 1 ≤ w6.heap.size := by have := hgr.size; simp at this; omega
          have far : ∀ q, wr.heap.size + 1 ≤ q → ¬ (Value.slice oo k oc).ownBlock = some q := fun q hq e => by have := hol q e; omega
          have c1 := SsIn.tyMono (C := fun q => A q ∨ (wr.heap.size + 1 ≤ q ∧ q < W3.heap.size)) (fun _ _ h => Or.inl h) ((unhide M3).P.tyKeep hk6 (fun _ q _ h _ e => ((unhide HAQ) q h).2.2 e))
          have sx : SlE (tyZ (fun q => A q ∨ (wr.heap.size + 1 ≤ q ∧ q < W3.heap.size))) w6 0 (.slice xo1 x.len xc1) x :=
            (((unhide SX3).tyMono (up' := 0) (C := fun q => wr.heap.size + 1 ≤ q ∧ q < W3.heap.size) (fun q hq h => ⟨h, hq⟩)).tyKeep hk6 (fun _ q _ h _ => far q h.1)).tyMono (fun _ _ h => Or.inr h)
          have st : SlS (tyZ (fun q => A q ∨ (wr.heap.size + 1 ≤ q ∧ q < W3.heap.size))) w6 0 (.slice to2 t.len tc2) t :=
            (((unhide ST3).tyMono (up' := 0) (C := fun q => wr.heap.size + 1 ≤ q ∧ q < W3.heap.size) (fun q hq h => ⟨h, hq⟩)).tyKeep hk6 (fun _ q _ h _ => far q h.1)).tyMono (fun _ _ h => Or.inr h)
          have se : SlS (tyZ (fun q => A q ∨ (wr.heap.size + 1 ≤ q ∧ q < W3.heap.size))) w6 0 (.slice eo3 el.len ec3) el :=
            (((unhide SE3).tyMono (up' := 0) (C := fun q => wr.heap.size + 1 ≤ q ∧ q < W3.heap.size) (fun q hq h => ⟨h, hq⟩)).tyKeep hk6 (fun _ q _ h _ => far q h.1)).tyMono (fun _ _ h => Or.inr h)
          have c2 : SsIn (tyZ (fun q => A q ∨ (wr.heap.size + 1 ≤ q ∧ q < W3.heap.size))) w6 (.cons op f x t el .nil) [.int .i64 op, str f, .slice xo1 x.len xc1, .slice to2 t.len tc2, .slice eo3 el.len ec3] := ⟨_, _, _, [], rfl, sx, st, se, rfl⟩
          have hp4 : ∀ p ∈ LS4, (Value.slice oo k oc).ownBlock ≠ some p.g := fun p hp e => by
            rcases (unhide M3).ls p hp with h | h
            · exact (unhide HLS p h).2 e
            · exact far _ h e
          have hr6 := (unhide M3).R.rowS' (fun q e => (own_typed (unhide M3).O e).2) hp4 hk6
          have hkw : Keeps (BF w B g) w w6 := bf_two (unhide M3).keep hk6 (fun i hi e => by have := hol i e; omega)
          have hst := unhide HST
          have n0 := unhide HLN
          have n1 := unhide HN1
          have n2 := unhide HN2
          have n3 := unhide HN3
          have p0 := unhide HSN
          have p2 := unhide HP2
          have p3 := unhide HP3
          refine ⟨pre.app (.cons op f x t el .nil), rest, k + 1, _, _, LE4, LS4, vS4, vE4, vNS4, vNE4, by go_num, ?_, ?_, unhide HO6, c1.app c2, fun q hq => ?_, hr6, fun p hp => ?_, fun p hp => ⟨?_, fun e => ?_⟩, ?_, ?_, hkw, ?_⟩
          · rw [app_oneS]; exact unhide HAPP
          · rw [SL.len_app, unhide HKP]; rfl
          · rcases hq with hq | hq
            · obtain ⟨a1, a2, a3⟩ := (unhide HAQ) q hq
              refine ⟨a1, by omega, fun e => ?_⟩
              have e' : g6 = q := by simpa [Value.ownBlock] using e
              rcases unhide HAT with h | h
              · exact a3 (by rw [h, e'])
              · omega
            · refine ⟨by omega, by omega, fun e => ?_⟩
              have e' : g6 = q := by simpa [Value.ownBlock] using e
              rcases unhide HAT with h | h
              · have := hol _ h; omega
              · omega
          · rcases (unhide M3).le p hp with h | h
            · exact unhide HLE p h
            · exact Or.inr (by omega)
          · rcases (unhide M3).ls p hp with h | h
            · exact (unhide HLS p h).1
            · exact Or.inr (by omega)
          · have e' : g6 = p.g := by simpa [Value.ownBlock] using e
            rcases unhide HAT with h | h
            · exact hp4 p hp (by rw [h, e'])
            · have := (unhide M3).R.st_lt hp; omega
          · rw [SL.size_app]; simp only [SL.size]; omega
          · rw [SL.size_app]; simp only [SL.size]; omega
          · rw [show off + (k + 1) * 5 = off + k * 5 + 5 by omega]
            exact unhide HRX
        case measure => simp [intOf]; omega
end Go.Proofs.YtoempeobaknkcaaGreatDoor
namespace Go.Proofs.YtoempeobaknkcaaGreatDoor
open Go.RowKit Go.Maps

def RuleA.isOK : RuleA → Bool
  | .takes is _ => decide (is = 1) || (decide (is = 2) || decide (is = 3))
  | _ => true
theorem rule_is {m : Nat} {r : RuleA} (hr : (ruleL[m]?).join = some r) : r.isOK = true := by
  have h : ∀ i : Fin 26, (match ((ruleL[i.val]?).join).map RuleA.isOK with | some x => x | none => true) = true := by decide
  by_cases hm : m < 26
  · have := h ⟨m, hm⟩
    simp only [hr, Option.map_some] at this
    exact this
  · have : ruleL[m]? = none := List.getElem?_eq_none (by show 26 ≤ m; omega)
    rw [this] at hr
    cases hr
theorem kth_mem {ks : List KA} {i : Nat} (h : i < ks.length) : kth ks i ∈ ks := by
  have e : kth ks i = ks[i] := by simp [kth, List.getD, List.getElem?_eq_getElem h]
  rw [e]
  exact List.getElem_mem h
theorem rule_okT {S : List FieldA} (hS : schemaB S = true) {op n : Int} {s : Txt} {ks : List KA} (hr : rootB op n s ks.length = true) (hk : ∀ k ∈ ks, okT k.t) (h0 : (ruleP S op s ks).2 = 0) : okT (ruleP S op s ks).1.t := by
  obtain ⟨m, r, rfl, _, hrl, hkids, _, _⟩ := root_open hr
  have his := rule_is hrl
  rw [ruleP_fit hrl] at h0 ⊢
  cases r with
  | takes is ts =>
    simp only [RuleA.fit, takesK] at h0 ⊢
    by_cases h : takesI ks ts = 0
    · rw [if_pos h]
      simp only [RuleA.isOK, Bool.or_eq_true, decide_eq_true_eq] at his
      exact his
    · rw [if_neg h] at h0
      exact absurd h0 h
  | field =>
    simp only [RuleA.fit, namedK] at h0 ⊢
    cases hf : fieldOf S s with
    | none => rw [hf] at h0; exact absurd h0 (by decide)
    | some f => exact field_okT hS hf
  | has => exact Or.inr (Or.inl rfl)
  | compares ts => exact Or.inr (Or.inl rfl)
  | orElse =>
    have : 2 = ks.length := hkids
    exact hk (kth ks 0) (kth_mem (by omega))
  | pick =>
    have : 3 = ks.length := hkids
    exact hk (kth ks 1) (kth_mem (by omega))
theorem kinds_okT {S : List FieldA} (hS : schemaB S = true) : ∀ l : EL, wellE l = true → (kindsP S l).2 = 0 → ∀ k ∈ (kindsP S l).1, okT k.t
  | .nil, _, _, k, hk => by simp [kindsP] at hk
  | .cons op n s kids rest, hw, h0, k, hk => by
    have ih1 := kinds_okT hS kids
    have ih2 := kinds_okT hS rest
    simp only [wellE, Bool.and_eq_true] at hw
    obtain ⟨hr, hwk, hwr⟩ := hw
    rw [kindsP_cons] at h0 hk
    by_cases h1 : (kindP S op s kids).2 = 0
    · by_cases h2 : (kindsP S rest).2 = 0
      · simp [h1, h2] at hk
        rcases hk with rfl | hk
        · unfold kindP at h1 ⊢
          by_cases h3 : (kindsP S kids).2 = 0
          · simp only [h3, ne_eq, not_true_eq_false, if_false] at h1 ⊢
            exact rule_okT hS (n := n) (by rw [kindsP_len S kids h3]; exact hr) (ih1 hwk h3) h1
          · rw [if_pos h3] at h1
            exact absurd h1 h3
        · exact ih2 hwr h2 k hk
      · simp [h1, h2] at h0
    · simp [h1] at h0
theorem wantL_len : ∀ m : Nat, 7 ≤ m → m ≤ 25 → ((wantL m).1.length : Int) = kidsB m := by
  have h : ∀ i : Fin 26, 7 ≤ i.val → ((wantL i.val).1.length : Int) = kidsB i.val := by decide
  intro m h1 h2
  exact h ⟨m, by omega⟩ h1
/-- What a rule asks of the kids is there. -/
def wantFits (ws : List (Int × Bool)) (n : Nat) : Bool := ws.all fun p => (decide (p.1 ≠ -2) || decide (0 < n)) && (decide (p.1 ≠ -3) || decide (1 < n))
theorem wantL_fits : ∀ m : Nat, 7 ≤ m → m ≤ 25 → wantFits (wantL m).1 (wantL m).1.length = true ∧ ((wantL m).2 = -2 → 0 < (wantL m).1.length) ∧ ((wantL m).2 = -3 → 1 < (wantL m).1.length) := by
  have h : ∀ i : Fin 26, 7 ≤ i.val → wantFits (wantL i.val).1 (wantL i.val).1.length = true ∧ ((wantL i.val).2 = -2 → 0 < (wantL i.val).1.length) ∧ ((wantL i.val).2 = -3 → 1 < (wantL i.val).1.length) := by decide
  intro m h1 h2
  exact h ⟨m, by omega⟩ h1
theorem wantsI_step {all ks : List KA} {ws : List (Int × Bool)} {j : Nat} {k : KA} {p : Int × Bool} (hk : ks[j]? = some k) (ht : ws[j]? = some p) : wantsI all (ks.drop j) (ws.drop j) = if askedB p.1 k.t all = false then 91 else if p.2 ≠ k.o then 92 else wantsI all (ks.drop (j + 1)) (ws.drop (j + 1)) := by
  obtain ⟨h1, e1⟩ := List.getElem?_eq_some_iff.1 hk
  obtain ⟨h2, e2⟩ := List.getElem?_eq_some_iff.1 ht
  rw [List.drop_eq_getElem_cons h1, List.drop_eq_getElem_cons h2, e1, e2]
  rfl
end Go.Proofs.YtoempeobaknkcaaGreatDoor
