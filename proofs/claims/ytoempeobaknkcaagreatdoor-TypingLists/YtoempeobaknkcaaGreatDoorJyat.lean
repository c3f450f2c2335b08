import Derived.Test.YtoempeobaknkcaaGreatDoorJyak
import Derived.Test.YtoempeobaknkcaaGreatDoorRows
import Derived.Test.YtoempeobaknkcaaGreatDoorJyab
import Derived.ProofKit
import Derived.LaidLaws
import Derived.LaidMore
import Derived.LaidSub
import Derived.Lib.LaidTab
import Derived.OpenShut
import Derived.ShutString
import Derived.ChangeOld
import Derived.Deep.Slices
import Derived.Deep.Strs
import Derived.SizedLaws
import Derived.Deep.CondSized
import Derived.Test.YtoempeobaknkcaaGreatDoorKy
import Derived.Test.YtoempeobaknkcaaGreatDoorJyac
import Derived.Test.YtoempeobaknkcaaGreatDoorJyaq
import Derived.Test.YtoempeobaknkcaaGreatDoorJyay
namespace Go.Proofs.YtoempeobaknkcaaGreatDoor
open Go.RowKit Go.Maps

set_option maxRecDepth 100000 in
set_option maxHeartbeats 2000000 in
theorem copySchema_big (w : World) (v : Value) (l : List FieldA) (h : FldsAt w v l) (hl : l.length ≤ 4398046511104) :
    Calls Tryz.prog 22 #[.agg #[v]] w fun e w' => ∃ v', e = .returned (.agg #[v']) ∧ w'.ownsRow w.heap.size 67 3 v' l.length (fcs l) ∧ Keeps (fun _ => False) w w' := by
  obtain ⟨i0, hi, hz0, hz1, hz2⟩ := info_parts Tryz.info67
  obtain ⟨ao, cap, rfl⟩ := RowAt.form h
  obtain ⟨w3, hw3⟩ : ∃ w3, w3 = ((w.alloc (.cells #[.slice ao l.length cap] 24)).alloc (.cells #[.slice none 0 0] 24)).alloc (.cells #[.slice none 0 0] 24) := ⟨_, rfl⟩
  have hK : Keeps (fun _ => False) w w3 := by rw [hw3]; exact (((Keeps.refl _ _).alloc _).alloc _).alloc _
  have hs3 : w3.heap.size = w.heap.size + 3 := by rw [hw3]; simp
  have b0 : w3.heap[w.heap.size]? = some (.cells #[.slice ao l.length cap] 24 (0, 0)) := by
    rw [hw3, Below.heap_alloc _ _ _ (by simp; omega), Below.heap_alloc _ _ _ (by simp)]
    exact heap_alloc_new w _
  have b1 : w3.heap[w.heap.size + 1]? = some (.cells #[.slice none 0 0] 24 (0, 0)) := by
    rw [hw3, Below.heap_alloc _ _ _ (by simp)]
    have := heap_alloc_new (w.alloc (.cells #[.slice ao l.length cap] 24)) (.cells #[.slice none 0 0] 24)
    simpa using this
  have b2 : w3.heap[w.heap.size + 1 + 1]? = some (.cells #[.slice none 0 0] 24 (0, 0)) := by
    rw [hw3]
    have := heap_alloc_new ((w.alloc (.cells #[.slice ao l.length cap] 24)).alloc (.cells #[.slice none 0 0] 24)) (.cells #[.slice none 0 0] 24)
    simpa using this
  have HF := hide (h.keepF hK)
  have HW := hide hw3
  have HK := hide hK
  have HL := hide hl
  have B0 := hide b0
  have B1 := hide b1
  have B2 := hide b2
  have HS := hide hs3
  clear h hw3 hK b0 b1 b2 hs3 hl
  have hl' : l.length ≤ 9223372036854775807 := by have := unhide HL; omega
  go_enter Tryz.func22, Tryz.ntmps22
  go_wp2
  rw [← unhide HW]
  go_loopw [4] (fun i wr => ∃ (k : Nat) (o : Value), k ≤ l.length ∧ i = .int .i64 k ∧ wr.heap[w.heap.size + 1 + 1]? = some (.cells #[o] 24 (0, 0)) ∧ wr.ownsRow w3.heap.size 67 3 o k (fcs (l.take k)) ∧ Keeps (fun q => q = w.heap.size + 1 + 1) w3 wr) (fun i _ => l.length - (intOf i).toNat)
  case atStart => exact ⟨0, _, Nat.zero_le _, rfl, unhide B2, by simpa [fcs] using World.ownsRow_nil w3 w3.heap.size 67 3, Keeps.refl _ _⟩
  case round =>
    obtain ⟨k, o, hk, rfl, hbo, hown, hkp⟩ := hrel
    obtain ⟨oo, oc, rfl⟩ := (rowAt_own hown).form
    have HBo := hide hbo
    have HO := hide hown
    have HP := hide hkp
    have p0 : wr.cell? ⟨w.heap.size, 0, none⟩ = some (.slice ao l.length cap) := (hkp.cell (lt_of_block (unhide B0)) (by show ¬ _ = _; omega)).trans (by rw [cell_of_blk (unhide B0)]; rfl)
    have p2 : wr.cell? ⟨w.heap.size + 1 + 1, 0, none⟩ = some (.slice oo k oc) := by rw [cell_of_blk hbo]; rfl
    have f2 := frozen_of_blk hbo 0
    have z2 := lt_of_block hbo
    have z0 : w.heap.size < wr.heap.size := by omega
    by_cases hlt : k < l.length
    · obtain ⟨b, off, c1, e1, hbl, hc⟩ := (unhide HF).cells (by omega)
      simp at e1
      obtain ⟨rfl, rfl⟩ := e1
      obtain ⟨f, hf⟩ : ∃ f, l[k]? = some f := ⟨_, List.getElem?_eq_getElem hlt⟩
      have hbne : b ≠ w.heap.size + 1 + 1 := by
        rintro rfl
        have h1 := (hc k f hf).2.1
        have h2 := (hc k f hf).2.2
        rw [cell_of_blk (unhide B2)] at h1 h2
        rw [Array.getElem?_eq_none (by simp)] at h2
        cases h2
      have c0 := (hkp.cell hbl (by show ¬ _ = _; omega)).trans (hc k f hf).1
      have c1 := (hkp.cell hbl (by show ¬ _ = _; omega)).trans (hc k f hf).2.1
      have c2 := (hkp.cell hbl (by show ¬ _ = _; omega)).trans (hc k f hf).2.2
      have z1 : b < wr.heap.size := Nat.lt_of_lt_of_le hbl hkp.size
      have HX := hide hf
      have HN := hide (ownsRow_ne hown hbo (by decide))
      have i1 : (k : Int) < (l.length : Int) := by omega
      have i0' : (0 : Int) ≤ (k : Int) := by omega
      clear hc hf hbo hown hkp
      go_wp2_with fail
      go_region_law (first
        | (refine step_append_lies _ (by rfl) _ _ _ (by rfl) w3.heap.size 67 i0 _ 3 32 Tryz.underlying22 hi hz0 hz1 hz2 rfl (by omega) (.slice oo k oc) k (fcs (l.take k)) (by rfl) (((unhide HO).alloc _).drew)
            ⟨wr.heap.size, 0, none⟩ 1 1 f.cs (by rfl) (by rfl) (World.news_of_block (cs := #[str f.name, .int .i64 f.type, .bool f.opt]) (t := 67) (fr := (0, 0)) (by exact heap_alloc_new wr _)) (by simp [Value.oneCell', FieldA.cs])
            (by omega) (by unfold maxLen; omega) (by have := unhide HL; omega) (by have := (unhide HP).size; simp; omega) (wr.heap.size + 1) (by simp) ?_; intro g cap' w5 hown2 hgrow hat hlt2
           have f2' : w5.frozen? ⟨w.heap.size + 1 + 1, 0, none⟩ = false := by (rw [hgrow.frozen_far _ (by simp; omega) (Ne.symm (unhide HN))]; simpa [World.frozen?_alloc_past, z2] using f2)
           have p2' : w5.cell? ⟨w.heap.size + 1 + 1, 0, none⟩ = some (.slice oo k oc) := by (rw [hgrow.cell_far _ (by simp; omega) (Ne.symm (unhide HN))]; simpa [World.cell?_alloc_past, z2] using p2)))
      all_goals
        have hb5 : w5.heap[w.heap.size + 1 + 1]? = some (.cells #[.slice oo k oc] 24 (0, 0)) := by
          rw [hgrow.block (w.heap.size + 1 + 1) (by simp; omega) (Ne.symm (unhide HN))]
          show (wr.alloc _).heap[w.heap.size + 1 + 1]? = _
          rw [Below.heap_alloc _ _ _ z2]
          exact unhide HBo
        have H5 := hide hb5
        have HO2 := hide hown2
        have HG2 := hide hgrow
        clear hb5 hown2 hgrow
        go_wp2
        go_roundw
        case rel =>
          refine ⟨k + 1, .slice (some ⟨g, 0, none⟩) (k + 1) cap', by omega, by go_num, ?_, ?_, ?_⟩
          · rw [heap_setCell_at (unhide H5)]; rfl
          · rw [take_snoc _ _ _ (unhide HX)]
            have h1 : w5.ownsRow w3.heap.size 67 3 (.slice (some ⟨g, 0, none⟩) (k + 1) cap') (k + 1) (fcs (l.take k ++ [f])) := by simpa [fcs] using unhide HO2
            exact ownsRow_kept (F := fun q => q = w.heap.size + 1 + 1) h1 (keeps_set w5 _ 0 _) (fun q e e2 => by subst e2; exact ownsRow_ne h1 (unhide H5) (by decide) e)
          · exact ((((unhide HP).alloc _).drew).grown (unhide HG2) (fun q e hq => by have := ((unhide HO).lt q e).1; omega)).setCell (fun _ => rfl) _
        case measure => simp [intOf]; omega
    · obtain rfl : k = l.length := by omega
      have hb1 : wr.heap[w.heap.size + 1]? = some (.cells #[.slice none 0 0] 24 (0, 0)) := by rw [hkp.block _ (lt_of_block (unhide B1)) (by show ¬ _ = _; omega)]; exact unhide B1
      have p1 : wr.cell? ⟨w.heap.size + 1, 0, none⟩ = some (.slice none 0 0) := by rw [cell_of_blk hb1]; rfl
      have f1 := frozen_of_blk hb1 0
      have H1 := hide hb1
      have HN1 := hide (ownsRow_ne hown hb1 (by decide))
      clear hb1 hown hkp hbo
      go_wp2
      have hq : (wr.setCell ⟨w.heap.size + 1, 0, none⟩ (.slice oo l.length oc)).cell? ⟨w.heap.size + 1, 0, none⟩ = some (.slice oo l.length oc) := by rw [cell_of_blk (heap_setCell_at (unhide H1) _)]; rfl
      refine bodyPost_ret (v := .agg #[.slice oo l.length oc]) (by simp [results, go_sem, hq]) rfl ?_
      refine ⟨.slice oo l.length oc, rfl, ?_, ?_⟩
      · have h1 := unhide HO
        rw [List.take_length] at h1
        exact ownsRow_lower (ownsRow_kept (F := fun q => q = w.heap.size + 1) h1 (keeps_set wr _ 0 _) (fun q e e2 => unhide HN1 (by rw [← e2]; exact e))) (unhide HK).size
      · exact (unhide HK).narrow (F := fun q => q = w.heap.size + 1 + 1 ∨ q = w.heap.size + 1) (((unhide HP).mono (fun q _ h => Or.inl h)).then (keeps_set wr (w.heap.size + 1) 0 _) (fun q _ h => Or.inr h)) (fun q h => by omega)

end Go.Proofs.YtoempeobaknkcaaGreatDoor
namespace Go.Proofs.YtoempeobaknkcaaGreatDoor
open Go.ChangeShapes Go.WideShapes Go.ChangeAt Go.RowKit Go.Deep

theorem Tryz.cells57 : Tryz.prog.cellsOf 57 = 4 := by kernel_rfl
theorem Tryz.cells53 : Tryz.prog.cellsOf 53 = 5 := by kernel_rfl
theorem e2 : Tryz.prog.cellsOf 2 = 1 := by kernel_rfl
theorem e3 : Tryz.prog.cellsOf 3 = 1 := by kernel_rfl
theorem e9 : Tryz.prog.cellsOf 9 = 1 := by kernel_rfl
theorem e22 : Tryz.prog.cellsOf 25 = 1 := by kernel_rfl
theorem e23 : Tryz.prog.cellsOf 51 = 1 := by kernel_rfl
theorem str_of (s : ByteArray) : Value.string s = str s.data.toList := by cases s; simp

section
variable {H : Type} {enc : TypeId × Value → H} {W : World}
set_option maxRecDepth 100000 in
/-- What is read of an expression. -/
theorem expr_read {fuel : Nat} {cs : List Value} {x : DataW H × List MemPlace} (h : DataW.trod enc Tryz.prog W 0 (fun _ => true) true fuel 57 cs = some x) :
    ∃ (op n : Int) (s : Txt) (kv : Value) (m : Nat) (y : DataW H × List MemPlace), fuel = m + 1 ∧ cs = [.int .i64 op, .int .i64 n, str s, kv] ∧ DataW.trod enc Tryz.prog W 0 (fun _ => true) true m 51 [kv] = some y := by
  obtain ⟨xs, m, hm, _, hl, hlen, hf⟩ := DataW.trod_struct Tryz.underlying57 h
  have hl' : cs.length = 4 := hl.trans Tryz.cells57
  match xs, hlen, cs, hl' with
  | [y0, y1, y2, y3], _, [c0, c1, c2, c3], _ =>
    have h0 : DataW.trod enc Tryz.prog W 0 (fun _ => true) true m 3 (([c0, c1, c2, c3].drop 0).take (Tryz.prog.cellsOf 3)) = some y0 := hf 0 _ rfl
    have h1 : DataW.trod enc Tryz.prog W 0 (fun _ => true) true m 2 (([c0, c1, c2, c3].drop 1).take (Tryz.prog.cellsOf 2)) = some y1 := hf 1 _ rfl
    have h2 : DataW.trod enc Tryz.prog W 0 (fun _ => true) true m 9 (([c0, c1, c2, c3].drop 2).take (Tryz.prog.cellsOf 9)) = some y2 := hf 2 _ rfl
    have h3 : DataW.trod enc Tryz.prog W 0 (fun _ => true) true m 51 (([c0, c1, c2, c3].drop 3).take (Tryz.prog.cellsOf 51)) = some y3 := hf 3 _ rfl
    rw [e3] at h0
    rw [e2] at h1
    rw [e9] at h2
    rw [e23] at h3
    simp only [List.drop_zero, List.take_succ_cons, List.take_zero, List.drop_succ_cons] at h0 h1 h2 h3
    obtain ⟨k, q0, _, _⟩ := DataW.trod_int Tryz.underlying3 h0
    obtain ⟨i, q1, _, _⟩ := DataW.trod_int Tryz.underlying2 h1
    obtain ⟨s, q2, _, _⟩ := DataW.trod_string Tryz.underlying9 h2
    simp at q0 q1 q2
    exact ⟨k, i, s.data.toList, c3, m, y3, hm, by rw [q0, q1, q2, str_of], h3⟩
set_option maxRecDepth 100000 in
theorem stmt_read {fuel : Nat} {cs : List Value} {x : DataW H × List MemPlace} (h : DataW.trod enc Tryz.prog W 0 (fun _ => true) true fuel 53 cs = some x) :
    ∃ (op : Int) (f : Txt) (xv tv ev : Value) (m : Nat) (y z u : DataW H × List MemPlace), fuel = m + 1 ∧ cs = [.int .i64 op, str f, xv, tv, ev] ∧ DataW.trod enc Tryz.prog W 0 (fun _ => true) true m 51 [xv] = some y ∧ DataW.trod enc Tryz.prog W 0 (fun _ => true) true m 25 [tv] = some z ∧ DataW.trod enc Tryz.prog W 0 (fun _ => true) true m 25 [ev] = some u := by
  obtain ⟨xs, m, hm, _, hl, hlen, hf⟩ := DataW.trod_struct Tryz.underlying53 h
  have hl' : cs.length = 5 := hl.trans Tryz.cells53
  match xs, hlen, cs, hl' with
  | [y0, y1, y2, y3, y4], _, [c0, c1, c2, c3, c4], _ =>
    have h0 : DataW.trod enc Tryz.prog W 0 (fun _ => true) true m 3 (([c0, c1, c2, c3, c4].drop 0).take (Tryz.prog.cellsOf 3)) = some y0 := hf 0 _ rfl
    have h1 : DataW.trod enc Tryz.prog W 0 (fun _ => true) true m 9 (([c0, c1, c2, c3, c4].drop 1).take (Tryz.prog.cellsOf 9)) = some y1 := hf 1 _ rfl
    have h2 : DataW.trod enc Tryz.prog W 0 (fun _ => true) true m 51 (([c0, c1, c2, c3, c4].drop 2).take (Tryz.prog.cellsOf 51)) = some y2 := hf 2 _ rfl
    have h3 : DataW.trod enc Tryz.prog W 0 (fun _ => true) true m 25 (([c0, c1, c2, c3, c4].drop 3).take (Tryz.prog.cellsOf 25)) = some y3 := hf 3 _ rfl
    have h4 : DataW.trod enc Tryz.prog W 0 (fun _ => true) true m 25 (([c0, c1, c2, c3, c4].drop 4).take (Tryz.prog.cellsOf 25)) = some y4 := hf 4 _ rfl
    rw [e3] at h0
    rw [e9] at h1
    rw [e23] at h2
    rw [e22] at h3
    rw [e22] at h4
    simp only [List.drop_zero, List.take_succ_cons, List.take_zero, List.drop_succ_cons] at h0 h1 h2 h3 h4
    obtain ⟨k, q0, _, _⟩ := DataW.trod_int Tryz.underlying3 h0
    obtain ⟨s, q1, _, _⟩ := DataW.trod_string Tryz.underlying9 h1
    simp at q0 q1
    exact ⟨k, s.data.toList, c2, c3, c4, m, y2, y3, y4, hm, by rw [q0, q1, str_of], h2, h3, h4⟩

/-- A slice, opened element by element. -/
theorem slice_read {fuel : Nat} {t e sz : Nat} (ht : Tryz.prog.underlying t = some (.slice e)) (hsz : Tryz.prog.cellsOf e = sz) (h0 : 0 < sz) {c : Value} {x : DataW H × List MemPlace} (h : DataW.trod enc Tryz.prog W 0 (fun _ => true) true fuel t [c] = some x) :
    c = .slice none 0 0 ∨ ∃ (b off len cap n : Nat) (spot : _), c = .slice (some ⟨b, off, spot⟩) len cap ∧ len ≤ cap ∧ fuel = n + 1 ∧ ∀ i, i < len → spot = none ∧ b < W.heap.size ∧ ∃ cs y, (∀ j v, cs[j]? = some v → W.cell? ⟨b, off + i * sz + j, none⟩ = some v) ∧ DataW.trod enc Tryz.prog W 0 (fun _ => true) true n e cs = some y ∧ cs.length = sz := by
  rcases DataW.trod_slice ht h with ⟨hcs, _⟩ | ⟨a, len, cap, elems, rest, n, hn, hcs, _, _, hl, _, hlen, hel, _, _⟩
  · simp at hcs
    exact Or.inl hcs
  · simp at hcs
    subst hcs
    obtain ⟨b, off, spot⟩ := a
    have cell : ∀ i, i < len → ∃ cs y, W.cells? 0 (Addr.add ⟨b, off, spot⟩ (i * sz)) sz = some cs ∧ DataW.trod enc Tryz.prog W 0 (fun _ => true) true n e cs = some y := fun i hi => by
      have hi' := hel i hi
      rw [hsz] at hi'
      obtain ⟨y, hy⟩ : ∃ y, elems[i]? = some y := ⟨_, List.getElem?_eq_getElem (by omega)⟩
      rw [hy] at hi'
      cases hcells : W.cells? 0 (Addr.add ⟨b, off, spot⟩ (i * sz)) sz with
      | none => rw [hcells] at hi'; cases hi'
      | some cs =>
        rw [hcells] at hi'
        exact ⟨cs, y, rfl, hi'⟩
    have hspot : 0 < len → spot = none := fun h1 => by
      obtain ⟨cs, y, hcs, _⟩ := cell 0 h1
      obtain ⟨_, hcl, hcc⟩ := World.cells?_some hcs
      have hc0 := hcc 0 h0
      obtain ⟨v0, hv0⟩ : ∃ v, cs[0]? = some v := ⟨_, List.getElem?_eq_getElem (by omega)⟩
      rw [hv0] at hc0
      have := World.cell?_spot hc0
      simpa [Addr.add] using this
    refine Or.inr ⟨b, off, len, cap, n, spot, rfl, hl, hn, fun i hi => ?_⟩
    obtain rfl := hspot (by omega)
    obtain ⟨cs, y, hcs, hy⟩ := cell i hi
    obtain ⟨_, hcl, hcc⟩ := World.cells?_some hcs
    simp only [Addr.add_lit] at hcc
    have hat : ∀ j v, cs[j]? = some v → W.cell? ⟨b, off + i * sz + j, none⟩ = some v := fun j v hv => by
      have hj := (List.getElem?_eq_some_iff.1 hv).1
      have := hcc j (by omega)
      rw [hv] at this
      exact this
    obtain ⟨v0, hv0⟩ : ∃ v, cs[0]? = some v := ⟨_, List.getElem?_eq_getElem (by omega)⟩
    exact ⟨rfl, World.block_lt_of_cell? W _ (hat 0 v0 hv0), cs, y, hat, hy, hcl⟩

/-- The expressions that came in. -/
theorem exprs_in (F : Nat) : ∀ (fuel : Nat) (c : Value) (x : DataW H × List MemPlace), fuel < F → DataW.trod enc Tryz.prog W 0 (fun _ => true) true fuel 51 [c] = some x → ∃ l : EL, ∀ up, SlE (argZ W.heap.size) W up c l := by
  induction F with
  | zero => intro fuel c x h; omega
  | succ F ih =>
    intro fuel c x hF h
    rcases slice_read Tryz.underlying51 Tryz.cells57 (by omega) h with rfl | ⟨b, off, len, cap, n, spot, rfl, hl, hn, hel⟩
    · exact ⟨.nil, fun up => ⟨none, 0, rfl, Nat.le_refl _, fun h => absurd rfl h⟩⟩
    · have key : ∀ k i, i + k = len → ∃ l : EL, l.len = k ∧ ExIn (argZ W.heap.size) W l b (off + i * 4) := by
        intro k
        induction k with
        | zero => exact fun i _ => ⟨.nil, rfl, trivial⟩
        | succ k ihk =>
          intro i hi
          obtain ⟨r, hr1, hr2⟩ := ihk (i + 1) (by omega)
          obtain ⟨_, hb, cs, y, hc, ht, _⟩ := hel i (by omega)
          obtain ⟨op, nn, s, kv, m, z, hm, rfl, hk⟩ := expr_read ht
          obtain ⟨kids, hkids⟩ := ih m kv z (by omega) hk
          obtain ⟨ao, kc, rfl, hkc, hkx⟩ := hkids b
          refine ⟨.cons op nn s kids r, by simp [EL.len, hr1], hb, hb, hc 0 _ rfl, hc 1 _ rfl, hc 2 _ rfl, ⟨ao, kc, hc 3 _ rfl, hkc, hkx⟩, ?_⟩
          rw [show off + i * 4 + 4 = off + (i + 1) * 4 by omega]
          exact hr2
      obtain ⟨l, hl1, hl2⟩ := key len 0 (by omega)
      subst hl1
      refine ⟨l, fun up => ⟨_, cap, rfl, hl, fun h0 => ?_⟩⟩
      obtain ⟨rfl, _⟩ := hel 0 (by omega)
      exact ⟨b, off, rfl, trivial, by simpa using hl2⟩
theorem stmts_in (F : Nat) : ∀ (fuel : Nat) (c : Value) (x : DataW H × List MemPlace), fuel < F → DataW.trod enc Tryz.prog W 0 (fun _ => true) true fuel 25 [c] = some x → ∃ l : SL, ∀ up, SlS (argZ W.heap.size) W up c l := by
  induction F with
  | zero => intro fuel c x h; omega
  | succ F ih =>
    intro fuel c x hF h
    rcases slice_read Tryz.underlying25 Tryz.cells53 (by omega) h with rfl | ⟨b, off, len, cap, n, spot, rfl, hl, hn, hel⟩
    · exact ⟨.nil, fun up => ⟨none, 0, rfl, Nat.le_refl _, fun h => absurd rfl h⟩⟩
    · have key : ∀ k i, i + k = len → ∃ l : SL, l.len = k ∧ StIn (argZ W.heap.size) W l b (off + i * 5) := by
        intro k
        induction k with
        | zero => exact fun i _ => ⟨.nil, rfl, trivial⟩
        | succ k ihk =>
          intro i hi
          obtain ⟨r, hr1, hr2⟩ := ihk (i + 1) (by omega)
          obtain ⟨_, hb, cs, y, hc, ht, _⟩ := hel i (by omega)
          obtain ⟨op, f, xv, tv, ev, m, z1, z2, z3, hm, rfl, hk1, hk2, hk3⟩ := stmt_read ht
          obtain ⟨ex, hex⟩ := exprs_in (m + 1) m xv z1 (by omega) hk1
          obtain ⟨th, hth⟩ := ih m tv z2 (by omega) hk2
          obtain ⟨el, hel'⟩ := ih m ev z3 (by omega) hk3
          obtain ⟨ao, kc, rfl, hkc, hkx⟩ := hth b
          obtain ⟨ao2, kc2, rfl, hkc2, hkx2⟩ := hel' b
          refine ⟨.cons op f ex th el r, by simp [SL.len, hr1], hb, hb, hc 0 _ rfl, hc 1 _ rfl, ⟨xv, hc 2 _ rfl, hex b⟩, ⟨ao, kc, hc 3 _ rfl, hkc, hkx⟩, ⟨ao2, kc2, hc 4 _ rfl, hkc2, hkx2⟩, ?_⟩
          rw [show off + i * 5 + 5 = off + (i + 1) * 5 by omega]
          exact hr2
      obtain ⟨l, hl1, hl2⟩ := key len 0 (by omega)
      subst hl1
      refine ⟨l, fun up => ⟨_, cap, rfl, hl, fun h0 => ?_⟩⟩
      obtain ⟨rfl, _⟩ := hel 0 (by omega)
      exact ⟨b, off, rfl, trivial, by simpa using hl2⟩
end
end Go.Proofs.YtoempeobaknkcaaGreatDoor
namespace Go.Proofs.YtoempeobaknkcaaGreatDoor
open Go.ChangeShapes Go.WideShapes Go.ChangeAt Go.RowKit Go.Deep

theorem gForms : Tryz.prog.globalNamed "arbor/syntax.forms" = some 1 := by kernel_rfl
theorem tForms : (Tryz.prog.globals[1]?).map (·.type) = some 137 := by kernel_rfl
theorem c76 : Tryz.prog.cellsOf 136 = 6 := by kernel_rfl
theorem c77 : Tryz.prog.cellsOf 137 = 156 := by kernel_rfl
/-- A row of the table, as a datum. -/
def FormA.dat (f : FormA) : DataW Unit := .agg [.lit (.int .i64 f.shape), .lit (.string f.text), .lit (.int .i64 f.kids), .lit (.int .i64 f.rank), .lit (.int .i64 f.left), .lit (.int .i64 f.right)]
theorem forms_dat : (Rows.laid_arbor_syntax_forms : DataW Unit) = .agg (formsL.map FormA.dat) := rfl
set_option maxRecDepth 100000 in
theorem form_el {W : World} {m : Nat} {cs : List Value} {x : DataW Unit × List MemPlace} {f : FormA} (h : DataW.trod (fun _ => ()) Tryz.prog W 0 (fun _ => true) false m 136 cs = some x) (hx : x.1 = f.dat) : cs = f.cs := by
  obtain ⟨xs, k, _, rfl, hl, hlen, hf⟩ := DataW.trod_struct Tryz.underlying136 h
  have hl' : cs.length = 6 := hl.trans c76
  match xs, hlen, cs, hl' with
  | [y0, y1, y2, y3, y4, y5], _, [a0, a1, a2, a3, a4, a5], _ =>
    have h0 : DataW.trod (fun _ => ()) Tryz.prog W 0 (fun _ => true) false k 3 (([a0, a1, a2, a3, a4, a5].drop 0).take (Tryz.prog.cellsOf 3)) = some y0 := hf 0 _ rfl
    have h1 : DataW.trod (fun _ => ()) Tryz.prog W 0 (fun _ => true) false k 9 (([a0, a1, a2, a3, a4, a5].drop 1).take (Tryz.prog.cellsOf 9)) = some y1 := hf 1 _ rfl
    have h2 : DataW.trod (fun _ => ()) Tryz.prog W 0 (fun _ => true) false k 3 (([a0, a1, a2, a3, a4, a5].drop 2).take (Tryz.prog.cellsOf 3)) = some y2 := hf 2 _ rfl
    have h3 : DataW.trod (fun _ => ()) Tryz.prog W 0 (fun _ => true) false k 3 (([a0, a1, a2, a3, a4, a5].drop 3).take (Tryz.prog.cellsOf 3)) = some y3 := hf 3 _ rfl
    have h4 : DataW.trod (fun _ => ()) Tryz.prog W 0 (fun _ => true) false k 3 (([a0, a1, a2, a3, a4, a5].drop 4).take (Tryz.prog.cellsOf 3)) = some y4 := hf 4 _ rfl
    have h5 : DataW.trod (fun _ => ()) Tryz.prog W 0 (fun _ => true) false k 3 (([a0, a1, a2, a3, a4, a5].drop 5).take (Tryz.prog.cellsOf 3)) = some y5 := hf 5 _ rfl
    rw [e3] at h0 h2 h3 h4 h5
    rw [e9] at h1
    obtain ⟨n0, q0, w0, _⟩ := DataW.trod_int Tryz.underlying3 h0
    obtain ⟨s1, q1, w1, _⟩ := DataW.trod_string Tryz.underlying9 h1
    obtain ⟨n2, q2, w2, _⟩ := DataW.trod_int Tryz.underlying3 h2
    obtain ⟨n3, q3, w3, _⟩ := DataW.trod_int Tryz.underlying3 h3
    obtain ⟨n4, q4, w4, _⟩ := DataW.trod_int Tryz.underlying3 h4
    obtain ⟨n5, q5, w5, _⟩ := DataW.trod_int Tryz.underlying3 h5
    simp only [FormA.dat, DataW.agg.injEq, List.map_cons, List.map_nil, List.cons.injEq, and_true] at hx
    rw [w0, w1, w2, w3, w4, w5] at hx
    simp at hx q0 q1 q2 q3 q4 q5
    obtain ⟨r0, r1, r2, r3, r4, r5⟩ := hx
    rw [q0, q1, q2, q3, q4, q5, str_of, r0, r1, r2, r3, r4, r5]
    rfl
theorem forms_met {W : World} (h : laidMetH Tryz.prog [("arbor/syntax.forms", Rows.laid_arbor_syntax_forms)] W) : Forms W := by
  rw [MakeChecks.laidMetH_plain _ _ _ (by kernel_rfl)] at h
  obtain ⟨ps, ⟨g0, t0, cs0, f0, p0, q0, hg0, ht0, hv0, hd0, _, _⟩, _, _⟩ := h
  obtain rfl := Option.some.inj (gForms.symm.trans hg0)
  obtain rfl := Option.some.inj (tForms.symm.trans ht0)
  obtain ⟨xs, m1, rfl, hx1, hlen, hn3, hel⟩ := DataW.trod_array Tryz.underlying137 hd0
  have q := fun j => World.var?_cell hg0 hv0 j
  obtain ⟨cl⟩ := cs0
  have hlen' : cl.length = 156 := hlen.trans c77
  have hxs : xs.map (·.1) = formsL.map FormA.dat := by
    have := (Prod.mk.inj hx1).1
    rw [forms_dat] at this
    exact (DataW.agg.inj this).symm
  have el : ∀ (i : Nat) (f : FormA), formsL[i]? = some f → (cl.drop (i * 6)).take 6 = f.cs := fun i f hf => by
    have hi : i < 26 := (List.getElem?_eq_some_iff.1 hf).1
    have h1 : (xs.map (·.1))[i]? = some f.dat := by rw [hxs]; simp [hf]
    cases hx : xs[i]? with
    | none => rw [List.getElem?_map, hx] at h1; cases h1
    | some x =>
      rw [List.getElem?_map, hx] at h1
      have h2 := hel i hi
      rw [c76, hx] at h2
      exact form_el h2 (Option.some.inj h1)
  have hlt : 1 < W.heap.size := by
    obtain ⟨c, hc⟩ : ∃ c, cl[0]? = some c := ⟨_, List.getElem?_eq_getElem (by omega)⟩
    have := World.block_lt_of_cell? W ⟨1, 0, none⟩ (u := c) (by rw [q 0]; simpa using hc)
    exact this
  refine ⟨hlt, fun i f hf j x hx => ?_⟩
  have hj : j < 6 := (List.getElem?_eq_some_iff.1 hx).1
  have hq := q (i * 6 + j)
  rw [hq]
  have := congrArg (fun l => l[j]?) (el i f hf)
  simp only [List.getElem?_take, hj, if_true, List.getElem?_drop] at this
  simpa [this] using hx
end Go.Proofs.YtoempeobaknkcaaGreatDoor
namespace Go.Proofs.YtoempeobaknkcaaGreatDoor
open Go.RowKit Go.Maps

theorem refKind_v (Z : Zone) (S : List FieldA) (hS : schemaB S = true) (so : Option Addr) (sc : Nat) (N : Nat) : ∀ (l : EL), l.size < N → ∀ (op n : Int) (s : Txt) (w : World) (up : Nat) (v : Value), SlE Z w up v l → FldsAt w (.slice so S.length sc) S → rootB op n s l.len = true → wellE l = true →
    Calls Tryz.prog 65 #[.agg #[.slice so S.length sc], exV op n s v] w fun e w' => e = .returned (refV (zeroK (kindP S op s l))) ∧ Keeps (fun _ => False) w w' := by
  induction N with
  | zero => intro l h; omega
  | succ N ih =>
    intro l hsz op n s w up v hSl hf hroot hwell
    obtain ⟨m, r, rfl, hm25, hr, hrk, hl3, _⟩ := root_open hroot
    by_cases hm7 : 7 ≤ m
    · exact refKind_big Z S hS so sc l (fun l' hl' => ih l' (by omega)) m n s w up v hf hSl hroot hwell hm7
    · have hm1 : 1 ≤ m := by
        rcases Nat.eq_zero_or_pos m with h | h
        · subst h; cases hr
        · exact h
      have h0 : l.len = 0 := by
        have hb : rootB (m : Int) n s l.len = true := hroot
        unfold rootB at hb
        simp only [Bool.and_eq_true, decide_eq_true_eq] at hb
        have hk := hb.2.1
        unfold kidsB at hk
        rw [if_pos (by omega)] at hk
        omega
      obtain rfl := EL.len0 h0
      obtain ⟨ao, cap, rfl, _⟩ := hSl.head
      have hl8 : S.length ≤ 8 := by
        unfold schemaB at hS
        simp only [Bool.and_eq_true, decide_eq_true_eq] at hS
        exact hS.1.1.1.2
      rw [kindP_leaf]
      by_cases h45 : m = 4 ∨ m = 5
      · exact refKind_field S _ m n s ao _ cap w hf hl8 h45
      · exact refKind_lit S _ m n s ao _ cap w hf (by omega)

end Go.Proofs.YtoempeobaknkcaaGreatDoor
namespace Go.Proofs.YtoempeobaknkcaaGreatDoor
open Go.RowKit Go.Maps

end Go.Proofs.YtoempeobaknkcaaGreatDoor
namespace Go.Proofs.YtoempeobaknkcaaGreatDoor
open Go.RowKit Go.Maps

theorem ExIn.up {w : World} {B A : Nat} (hA : B ≤ A) : ∀ {l : EL} {b o : Nat}, ExIn (argZ B) w l b o → ExIn (argZ A) w l b o
  | .nil, _, _, _ => trivial
  | .cons op n s kids rest, b, o, ⟨h1, h2, h3, h4, h5, ⟨ao, cap, h6, h7, h8⟩, h9⟩ => by
    have hb : b < B := h2
    refine ⟨h1, (by show b < A; omega), h3, h4, h5, ⟨ao, cap, h6, h7, fun h0 => ?_⟩, ExIn.up hA h9⟩
    obtain ⟨b', o', e, _, hr⟩ := h8 h0
    exact ⟨b', o', e, trivial, ExIn.up hA hr⟩
theorem one_arg {w : World} {B A g : Nat} {op n : Int} {s : Txt} {v : Value} {kids : EL} {up c : Nat} (hb : w.heap[g]? = some (.cells #[.int .i64 op, .int .i64 n, str s, v] 57 (0, 0))) (hg : g < A) (hBA : B ≤ A) (hS : SlE (argZ B) w up v kids) (hc : 1 ≤ c) (up' : Nat) :
    SlE (argZ A) w up' (.slice (some ⟨g, 0, none⟩) 1 c) (.cons op n s kids .nil) := by
  obtain ⟨ao, cap, rfl, hl, hr⟩ := hS
  refine ⟨_, c, rfl, hc, fun _ => ⟨g, 0, rfl, trivial, lt_of_block hb, hg, ?_, ?_, ?_, ⟨ao, cap, ?_, hl, fun h0 => ?_⟩, trivial⟩⟩
  all_goals try (rw [cell_of_blk hb]; rfl)
  obtain ⟨b', o', e, _, hr⟩ := hr h0
  exact ⟨b', o', e, trivial, ExIn.up hBA hr⟩
theorem alloc_last (w : World) (o : Obj) {g : Nat} (hg : g = w.heap.size) : (w.alloc o).heap[g]? = some o := by
  subst hg
  exact heap_alloc_new w o


end Go.Proofs.YtoempeobaknkcaaGreatDoor
namespace Go.Proofs.YtoempeobaknkcaaGreatDoor
open Go.ChangeShapes Go.WideShapes Go.ChangeAt Go.RowKit Go.Deep

theorem gTypes : Tryz.prog.globalNamed "arbor/value.types" = some 0 := by kernel_rfl
theorem tTypes : (Tryz.prog.globals[0]?).map (·.type) = some 116 := by kernel_rfl

theorem c92 : Tryz.prog.cellsOf 115 = 2 := by kernel_rfl
theorem c93 : Tryz.prog.cellsOf 116 = 8 := by kernel_rfl

theorem types_el {W : World} {m : Nat} {a b : Value} {x : DataW Unit × List MemPlace} {s : Txt} {n : Int} (h : DataW.trod (fun _ => ()) Tryz.prog W 0 (fun _ => true) false m 115 [a, b] = some x) (hx : x.1 = .agg [.lit (.string s), .lit (.int .i64 n)]) : a = str s ∧ b = .int .i64 n := by
  obtain ⟨xs, k, _, rfl, hl, hlen, hf⟩ := DataW.trod_struct Tryz.underlying115 h
  match xs, hlen with
  | [y0, y1], _ =>
    have h0 : DataW.trod (fun _ => ()) Tryz.prog W 0 (fun _ => true) false k 9 (([a, b].drop 0).take (Tryz.prog.cellsOf 9)) = some y0 := hf 0 _ rfl
    have h1 : DataW.trod (fun _ => ()) Tryz.prog W 0 (fun _ => true) false k 3 (([a, b].drop 1).take (Tryz.prog.cellsOf 3)) = some y1 := hf 1 _ rfl
    rw [e9] at h0
    rw [e3] at h1
    obtain ⟨s', q0, hs', _⟩ := DataW.trod_string Tryz.underlying9 h0
    obtain ⟨n', q1, hn', _⟩ := DataW.trod_int Tryz.underlying3 h1
    simp only [DataW.agg.injEq, List.map_cons, List.map_nil, List.cons.injEq, and_true] at hx
    rw [hs', hn'] at hx
    simp at hx q0 q1
    rw [q0, q1, str_of, hx.1, hx.2]
    exact ⟨rfl, rfl⟩

set_option maxRecDepth 100000 in
theorem types_met {W : World} (h : laidMetH Tryz.prog [("arbor/value.types", Rows.laid_arbor_value_types)] W) : Types W := by
  rw [MakeChecks.laidMetH_plain _ _ _ (by kernel_rfl)] at h
  obtain ⟨ps, ⟨g0, t0, cs0, f0, p0, q0, hg0, ht0, hv0, hd0, _, _⟩, _, _⟩ := h
  obtain rfl := Option.some.inj (gTypes.symm.trans hg0)
  obtain rfl := Option.some.inj (tTypes.symm.trans ht0)
  obtain ⟨xs, m1, rfl, hx1, hlen, hn3, hel⟩ := DataW.trod_array Tryz.underlying116 hd0
  have q := fun j => World.var?_cell hg0 hv0 j
  obtain ⟨cl⟩ := cs0
  have hlen' : cl.length = 8 := hlen.trans c93
  have hel' : ∀ i, i < 4 → DataW.trod (fun _ => ()) Tryz.prog W 0 (fun _ => true) false m1 115 ((cl.drop (i * 2)).take 2) = xs[i]? := fun i hi => by
    have := hel i hi
    rw [c92] at this
    exact this
  clear hel hlen hd0
  match cl, hlen', xs, hn3 with
  | [c0, c1, c2, c3, c4, c5, c6, c7], _, [x0, x1, x2, x3], _ =>
    simp only [Prod.mk.injEq, Rows.laid_arbor_value_types, DataW.agg.injEq, List.map_cons, List.map_nil, List.cons.injEq, and_true] at hx1
    obtain ⟨⟨e0, e1, e2, e3⟩, _⟩ := hx1
    have h0 := types_el (hel' 0 (by decide)) e0.symm
    have h1 := types_el (hel' 1 (by decide)) e1.symm
    have h2 := types_el (hel' 2 (by decide)) e2.symm
    have h3 := types_el (hel' 3 (by decide)) e3.symm
    have hq0 := q 0
    have hlt : 0 < W.heap.size := by
      have := World.block_lt_of_cell? W ⟨0, 0, none⟩ (u := c0) (by rw [hq0]; rfl)
      exact this
    refine ⟨hlt, fun j x hx => ?_⟩
    rw [q j]
    obtain ⟨rfl, rfl⟩ := h0
    obtain ⟨rfl, rfl⟩ := h1
    obtain ⟨rfl, rfl⟩ := h2
    obtain ⟨rfl, rfl⟩ := h3
    exact hx

theorem types_of {W : World} {l : List (String × _)} (hl : l = [("arbor/value.types", Rows.laid_arbor_value_types), ("arbor/syntax.forms", Rows.laid_arbor_syntax_forms)]) (h : laidMetH Tryz.prog l W) : Types W ∧ Forms W := by
  subst hl
  have h1 := h.filter (fun x => x.1 == "arbor/value.types")
  have h2 := h.filter (fun x => x.1 == "arbor/syntax.forms")
  rw [show [("arbor/value.types", Rows.laid_arbor_value_types), ("arbor/syntax.forms", Rows.laid_arbor_syntax_forms)].filter (fun x => x.1 == "arbor/value.types") = [("arbor/value.types", Rows.laid_arbor_value_types)] by rfl] at h1
  rw [show [("arbor/value.types", Rows.laid_arbor_value_types), ("arbor/syntax.forms", Rows.laid_arbor_syntax_forms)].filter (fun x => x.1 == "arbor/syntax.forms") = [("arbor/syntax.forms", Rows.laid_arbor_syntax_forms)] by rfl] at h2
  exact ⟨types_met h1, forms_met h2⟩
theorem e4 : Tryz.prog.cellsOf 4 = 1 := by kernel_rfl
theorem e43 : Tryz.prog.cellsOf 67 = 3 := by kernel_rfl
theorem e24 : Tryz.prog.cellsOf 24 = 1 := by kernel_rfl
theorem b43 : Tryz.prog.bytesOf 67 = 32 := by kernel_rfl
section
variable {H : Type} {enc : TypeId × Value → H} {W : World}
set_option maxRecDepth 100000 in
theorem field_read {fuel : Nat} {cs : List Value} {x : DataW H × List MemPlace} (h : DataW.trod enc Tryz.prog W 0 (fun _ => true) true fuel 67 cs = some x) : ∃ f : FieldA, cs = f.cs := by
  obtain ⟨xs, m, hm, _, hl, hlen, hf⟩ := DataW.trod_struct Tryz.underlying67 h
  have hl' : cs.length = 3 := hl.trans e43
  match xs, hlen, cs, hl' with
  | [y0, y1, y2], _, [c0, c1, c2], _ =>
    have h0 : DataW.trod enc Tryz.prog W 0 (fun _ => true) true m 9 (([c0, c1, c2].drop 0).take (Tryz.prog.cellsOf 9)) = some y0 := hf 0 _ rfl
    have h1 : DataW.trod enc Tryz.prog W 0 (fun _ => true) true m 3 (([c0, c1, c2].drop 1).take (Tryz.prog.cellsOf 3)) = some y1 := hf 1 _ rfl
    have h2 : DataW.trod enc Tryz.prog W 0 (fun _ => true) true m 4 (([c0, c1, c2].drop 2).take (Tryz.prog.cellsOf 4)) = some y2 := hf 2 _ rfl
    rw [e9] at h0
    rw [e3] at h1
    rw [e4] at h2
    simp only [List.drop_zero, List.take_succ_cons, List.take_zero, List.drop_succ_cons] at h0 h1 h2
    obtain ⟨s, q0, _, _⟩ := DataW.trod_string Tryz.underlying9 h0
    obtain ⟨k, q1, _, _⟩ := DataW.trod_int Tryz.underlying3 h1
    obtain ⟨o, q2, _⟩ := DataW.trod_bool Tryz.underlying4 h2
    simp at q0 q1 q2
    exact ⟨⟨s.data.toList, k, o⟩, by rw [q0, q1, q2, str_of]; rfl⟩
end
end Go.Proofs.YtoempeobaknkcaaGreatDoor
namespace Go.Proofs.YtoempeobaknkcaaGreatDoor
open Go.ChangeShapes Go.WideShapes Go.ChangeAt Go.RowKit Go.Deep

instance : Inhabited FieldA := ⟨⟨[], 0, false⟩⟩
theorem fcs_at : ∀ (l : List FieldA) (j : Nat), (fcs l)[j]? = (l[j / 3]?).bind fun x => x.cs[j % 3]?
  | [], j => by simp [fcs]
  | y :: r, j => by
    have e : fcs (y :: r) = y.cs ++ fcs r := rfl
    have hy : y.cs.length = 3 := rfl
    rw [e]
    by_cases h : j < 3
    · rw [List.getElem?_append_left (by rw [hy]; exact h), Nat.div_eq_of_lt h, Nat.mod_eq_of_lt h]
      rfl
    · rw [List.getElem?_append_right (by rw [hy]; omega), hy, fcs_at r (j - 3)]
      have h1 : j / 3 = (j - 3) / 3 + 1 := by omega
      have h2 : j % 3 = (j - 3) % 3 := by omega
      rw [h1, h2]
      rfl
section
variable {H : Type} {enc : TypeId × Value → H} {W : World}
set_option maxRecDepth 100000 in
/-- The schema that came in, with a bound on its length by what it weighs. -/
theorem schema_in {fuel : Nat} {cs : List Value} {x : DataW H × List MemPlace} (h : DataW.trod enc Tryz.prog W 0 (fun _ => true) true fuel 24 cs = some x) (hw : ∀ n ∈ x.1.weights Tryz.prog 24, n ≤ reachBytes) :
    ∃ (sv : Value) (S : List FieldA), cs = [sv] ∧ FldsAt W sv S ∧ S.length + 64 ≤ 4398046511104 := by
  obtain ⟨xs, m, hm, hx, hl, hlen, hf⟩ := DataW.trod_struct Tryz.underlying24 h
  have hl' : cs.length = 1 := hl.trans e24
  match xs, hlen, cs, hl' with
  | [y0], _, [c0], _ =>
    have h0 : DataW.trod enc Tryz.prog W 0 (fun _ => true) true m 22 (([c0].drop 0).take (Tryz.prog.cellsOf 22)) = some y0 := hf 0 _ rfl
    rw [show Tryz.prog.cellsOf 22 = 1 by kernel_rfl] at h0
    simp only [List.drop_zero, List.take_succ_cons, List.take_zero] at h0
    refine ⟨c0, ?_⟩
    have hw0 : ∀ n ∈ y0.1.weights Tryz.prog 22, n ≤ reachBytes := fun n hn => hw n (by
      rw [hx]
      simp only [DataW.weights, Tryz.underlying24, List.map_cons, List.map_nil, DataW.weightsEach, List.append_nil]
      exact hn)
    have hsl := slice_read Tryz.underlying22 e43 (by omega) h0
    rcases DataW.trod_slice Tryz.underlying22 h0 with ⟨hcs, _⟩ | ⟨a, len, cap, elems, rest, n, hn, hcs, hxx, _, hlc, _, hel, _, _, _⟩
    · simp at hcs
      subst hcs
      exact ⟨[], rfl, ⟨⟨_, _, rfl⟩, fun h0 => by simp at h0, fun ao m cap e => by simp at e; omega⟩, by simp⟩
    · have hbound : len + 64 ≤ 4398046511104 := by
        have := hw0 ((elems.length + rest.length) * 32) (by
          rw [hxx]
          simp only [DataW.weights, Tryz.underlying22, List.length_map, b43]
          exact List.mem_cons_self ..)
        unfold reachBytes at this
        omega
      simp at hcs
      subst hcs
      rcases hsl with hn0 | ⟨b, off, len', cap', n', spot, he, hlc', _, hels⟩
      · cases hn0
      · obtain ⟨e1, e2, e3⟩ := Value.slice.inj he
        subst e2 e3
        have e1' := Option.some.inj e1
        subst e1'
        have hev : ∀ i, i < len → ∃ f : FieldA, ∀ j v, f.cs[j]? = some v → W.cell? ⟨b, off + i * 3 + j, none⟩ = some v := fun i hi => by
          obtain ⟨_, _, cs, y, hc, ht, _⟩ := hels i hi
          obtain ⟨f, rfl⟩ := field_read ht
          exact ⟨f, hc⟩
        obtain ⟨f, hff⟩ := choose_lt hev
        refine ⟨(List.range len).map f, rfl, ⟨⟨_, _, by simp; exact ⟨rfl, rfl⟩⟩, fun h0 => ?_, fun ao m cap e => by simp at e; omega⟩, by rw [List.length_map, List.length_range]; exact hbound⟩
        simp at h0
        obtain ⟨rfl, hb, _⟩ := hels 0 h0
        refine ⟨b, off, cap, by simp, hb, fun j v hv => ?_⟩
        rw [fcs_at] at hv
        cases hi : ((List.range len).map f)[j / 3]? with
        | none => rw [hi] at hv; cases hv
        | some p =>
          rw [hi] at hv
          have hil : j / 3 < len := by
            have := (List.getElem?_eq_some_iff.1 hi).1
            simpa using this
          have hpe : f (j / 3) = p := by simpa [hil] using hi
          have := hff (j / 3) hil (j % 3) v (by rw [hpe]; exact hv)
          rw [show off + j = off + j / 3 * 3 + j % 3 by omega]
          exact this
end
end Go.Proofs.YtoempeobaknkcaaGreatDoor
namespace Go.Proofs.YtoempeobaknkcaaGreatDoor
open Go.RowKit Go.Maps

/-- A row's values, with all optional fields there, or away. -/
def rowV (S : List FieldA) (p : Bool) : List ValA := S.map fun f => if f.opt && !p then ⟨0, 0, []⟩ else ⟨f.type, 0, []⟩
end Go.Proofs.YtoempeobaknkcaaGreatDoor
namespace Go.Proofs.YtoempeobaknkcaaGreatDoor
open Go.RowKit Go.Maps

/-- The number of a field. -/
def idxF (S : List FieldA) (nm : Txt) : Option Nat := S.findIdx? fun f => decide (f.name = nm)
/-- The kind of a leaf's value on a row (of these kinds); none: it goes wrong. -/
def leafG (S : List FieldA) (rk : List Int) (op : Int) (s : Txt) : Option Int :=
  if op = 1 then some 1 else if op = 2 ∨ op = 6 then some 2 else if op = 3 then some 3
  else if op = 4 then (idxF S s).bind (fun i => rk[i]?)
  else (fieldOf S s).bind (fun f => if f.opt then some 2 else none)
/-- The first expression's operation and text. -/
def headOp : EL → Int × Txt
  | .nil => (0, [])
  | .cons op _ s _ _ => (op, s)
/-- The kind of what an operation gives. -/
def workG (S : List FieldA) (op : Int) (h : Int × Txt) (ks : List Int) : Option Int :=
  if op = 20 then match ks with
    | [a, b] => if h.1 ≠ 4 then none else (fieldOf S h.2).bind fun f => if f.opt = false ∨ b = 0 then none else if a = 0 ∨ a = b then some b else none
    | _ => none
  else if ks.contains 0 then none
  else if op = 7 then (if ks = [2] then some 2 else none) else if op = 8 then (if ks = [1] then some 1 else none) else if op = 23 then (if ks = [3] then some 1 else none)
  else if op = 9 ∨ op = 10 ∨ op = 11 ∨ op = 21 ∨ op = 22 then (if ks = [1, 1] then some 1 else none) else if op = 24 then (if ks = [3, 3] then some 3 else none)
  else if op = 18 ∨ op = 19 then (if ks = [2, 2] then some 2 else none)
  else if op = 16 ∨ op = 17 then (match ks with | [a, b] => if a = b then some 2 else none | _ => none)
  else if op = 12 ∨ op = 13 ∨ op = 14 ∨ op = 15 then (match ks with | [a, b] => if a = b ∧ a ≠ 2 then some 2 else none | _ => none)
  else match ks with | [a, b, c] => if a = 2 ∧ b = c then some b else none | _ => none
/-- The kinds of a list's values. -/
def goG (S : List FieldA) (rk : List Int) : EL → Option (List Int)
  | .nil => some []
  | .cons op _ s kids rest => (if op ≤ 6 then leafG S rk op s else (goG S rk kids).bind (workG S op (headOp kids))).bind fun t => (goG S rk rest).map (t :: ·)
def nodeG (S : List FieldA) (rk : List Int) (op : Int) (s : Txt) (kids : EL) : Option Int := if op ≤ 6 then leafG S rk op s else (goG S rk kids).bind (workG S op (headOp kids))
theorem goG_cons (S : List FieldA) (rk : List Int) (op n : Int) (s : Txt) (kids rest : EL) : goG S rk (.cons op n s kids rest) = (nodeG S rk op s kids).bind fun t => (goG S rk rest).map (t :: ·) := rfl
/-- The kind of a kind's value on the row with all optional fields absent. -/
def KA.gone (k : KA) : Int := if k.o then 0 else k.t
def rowH (S : List FieldA) : List Int := S.map FieldA.type
def rowG (S : List FieldA) : List Int := S.map fun f => if f.opt then 0 else f.type

def KAs : List KA := [⟨1, false⟩, ⟨2, false⟩, ⟨3, false⟩, ⟨1, true⟩, ⟨2, true⟩, ⟨3, true⟩]
theorem mem_KAs {k : KA} (h : okT k.t) : k ∈ KAs := by
  obtain ⟨t, o⟩ := k
  rcases h with h | h | h
  all_goals
    simp only at h
    subst h
    cases o <;> decide
/-- A rule against what goes wrong, for an operation that is no ??. -/
def agree (op : Int) (ks : List KA) : Bool :=
  if (ruleP [] op [] ks).2 = 0 then decide (workG [] op (0, []) (ks.map KA.t) = some (ruleP [] op [] ks).1.t) && decide (workG [] op (0, []) (ks.map KA.gone) = some (ruleP [] op [] ks).1.t) && !(ruleP [] op [] ks).1.o
  else (decide (workG [] op (0, []) (ks.map KA.t) = none) || decide (workG [] op (0, []) (ks.map KA.gone) = none)) && (decide ((ruleP [] op [] ks).2 = 91) || decide ((ruleP [] op [] ks).2 = 92))
set_option maxRecDepth 100000 in
theorem agree1 : ∀ op ∈ ([7, 8, 23] : List Int), ∀ a ∈ KAs, agree op [a] = true := by decide
set_option maxRecDepth 100000 in
theorem agree2 : ∀ op ∈ ([9, 10, 11, 12, 13, 14, 15, 16, 17, 18, 19, 21, 22, 24] : List Int), ∀ a ∈ KAs, ∀ b ∈ KAs, agree op [a, b] = true := by decide
set_option maxRecDepth 100000 in
theorem agree3 : ∀ a ∈ KAs, ∀ b ∈ KAs, ∀ c ∈ KAs, agree 25 [a, b, c] = true := by decide
theorem workG_nofield (S : List FieldA) (op : Int) (h : Int × Txt) (ks : List Int) (h20 : op ≠ 20) : workG S op h ks = workG [] op (0, []) ks := by
  unfold workG
  rw [if_neg h20, if_neg h20]
end Go.Proofs.YtoempeobaknkcaaGreatDoor
namespace Go.Proofs.YtoempeobaknkcaaGreatDoor
open Go.RowKit Go.Maps

/-- What an operation's two answers tell. -/
def Worked (e : Ending) (o : Option Int) : Prop := ∃ (t : Int) (ok : Bool), e = .returned (.tuple #[.int .i64 t, .bool ok]) ∧ match o with
  | none => ok = false
  | some u => ok = true ∧ t = u
theorem worked_no {t : Int} {e : Ending} (h : e = .returned (.tuple #[.int .i64 t, .bool false])) : Worked e none := ⟨t, false, h, rfl⟩
theorem worked_yes {t : Int} {e : Ending} (h : e = .returned (.tuple #[.int .i64 t, .bool true])) : Worked e (some t) := ⟨t, true, h, rfl, rfl⟩
theorem work_zero {S : List FieldA} {op : Int} {h : Int × Txt} {ks : List Int} (h20 : op ≠ 20) (hc : ks.contains 0 = true) : workG S op h ks = none := by
  unfold workG
  rw [if_neg h20, if_pos hc]
theorem contains_at {ks : List Int} {j : Nat} (h : ks[j]? = some 0) : ks.contains 0 = true := by
  simp
  exact List.mem_of_getElem? h
theorem contains_not {ks : List Int} (h : ∀ i, i < ks.length → ks[i]? ≠ some 0) : ks.contains 0 = false := by
  simp
  intro hm
  obtain ⟨i, hi⟩ := List.mem_iff_getElem?.1 hm
  exact h i (get_lt hi) hi

end Go.Proofs.YtoempeobaknkcaaGreatDoor
