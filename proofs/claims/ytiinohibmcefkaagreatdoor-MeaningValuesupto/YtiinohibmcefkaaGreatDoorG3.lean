import Derived.Test.YtiinohibmcefkaaGreatDoorJzac
import Derived.Test.YtiinohibmcefkaaGreatDoorJzaa
import Derived.Deep.DeepAppendRoom
namespace Go.Proofs.YtiinohibmcefkaaGreatDoor
open Go.RowKit Go.Maps

theorem flatC_get {α : Type} (f : α → List Value) (sz : Nat) (hf : ∀ x, (f x).length = sz) : ∀ (C : List α) (i j : Nat) (c : α) (v : Value), C[i]? = some c → (f c)[j]? = some v → (C.flatMap f)[i * sz + j]? = some v
  | [], i, j, c, v, h, _ => by simp at h
  | x :: r, 0, j, c, v, h, hv => by
    simp at h
    subst h
    rw [List.flatMap_cons, Nat.zero_mul, Nat.zero_add, List.getElem?_append_left (List.getElem?_eq_some_iff.1 hv).1]
    exact hv
  | x :: r, i + 1, j, c, v, h, hv => by
    have ih := flatC_get f sz hf r i j c v (by simpa using h) hv
    rw [List.flatMap_cons, List.getElem?_append_right (by rw [hf]; have : (i + 1) * sz = i * sz + sz := Nat.succ_mul i sz; omega), hf, show (i + 1) * sz + j - sz = i * sz + j by have : (i + 1) * sz = i * sz + sz := Nat.succ_mul i sz; omega]
    exact ih
def spareT : Txt := [115, 112, 97, 114, 101]
def markV (i : Nat) : List Value := [.int .i64 (-77), .int .i64 (i : Int), str spareT]
def markF (i : Nat) : List Value := [str spareT, .int .i64 (-77 - (i : Int)), .bool false]
def marksW (f : Nat → List Value) (n : Nat) : List Value := (List.range n).flatMap f
theorem marks_snoc (f : Nat → List Value) (n : Nat) : marksW f (n + 1) = marksW f n ++ f n := by simp [marksW, List.range_succ]
/-- A list that is a piece of a longer array: sixteen marksW behind it. -/
def Wide (w : World) (v : Value) (sz n : Nat) (xs : List Value) (f : Nat → List Value) : Prop :=
  ∃ (g cap : Nat) (cur : Array Value) (e : TypeId), v = .slice (some ⟨g, 0, none⟩) n cap ∧ n + 16 ≤ cap ∧ cap ≤ maxLen ∧ w.heap[g]? = some (.cells cur e (0, 0)) ∧ xs.length = n * sz ∧ cur.toList.take ((n + 16) * sz) = xs ++ marksW f 16
theorem Wide.keepF {w w' : World} {v : Value} {sz n : Nat} {xs : List Value} {f : Nat → List Value} (h : Wide w v sz n xs f) (hk : Keeps (fun _ => False) w w') : Wide w' v sz n xs f := by
  obtain ⟨g, cap, cur, e, h1, h2, h3, h4, h5, h6⟩ := h
  exact ⟨g, cap, cur, e, h1, h2, h3, blk_keep h4 hk, h5, h6⟩
theorem Wide.keep {w w' : World} {g cap sz n b : Nat} {xs : List Value} {f : Nat → List Value} (h : Wide w (.slice (some ⟨g, 0, none⟩) n cap) sz n xs f) (hk : Keeps (fun q => q = b) w w') (hb : g ≠ b) : Wide w' (.slice (some ⟨g, 0, none⟩) n cap) sz n xs f := by
  obtain ⟨g', cap', cur, e, h1, h2, h3, h4, h5, h6⟩ := h
  simp only [Value.slice.injEq, Option.some.injEq, Addr.mk.injEq, and_true, true_and] at h1
  obtain ⟨rfl, rfl⟩ := h1
  exact ⟨g, cap, cur, e, rfl, h2, h3, (hk.block _ (lt_of_block h4) hb).trans h4, h5, h6⟩
theorem set1c {w : World} {b : Nat} {c0 : Value} {t : TypeId} (h : w.heap[b]? = some (.cells #[c0] t (0, 0))) (x : Value) : (w.setCell ⟨b, 0, none⟩ x).cell? ⟨b, 0, none⟩ = some x := by
  have h1 := heap_setCell_at (o := 0) h x
  rw [cell_of_blk h1]; rfl
theorem Wide.cell {w : World} {g n sz : Nat} {xs : List Value} {f : Nat → List Value} {cur : Array Value} {e : TypeId} (h4 : w.heap[g]? = some (.cells cur e (0, 0))) (h6 : cur.toList.take ((n + 16) * sz) = xs ++ marksW f 16) {j : Nat} {x : Value} (hx : (xs ++ marksW f 16)[j]? = some x) : w.cell? ⟨g, j, none⟩ = some x := by
  rw [cell_of_blk h4]
  rw [← h6, List.getElem?_take] at hx
  split at hx
  · rw [← Array.getElem?_toList]; exact hx
  · cases hx
theorem Wide.row {w : World} {v : Value} {sz n : Nat} {xs : List Value} {f : Nat → List Value} (h : Wide w v sz n xs f) : RowAt w v n xs := by
  obtain ⟨g, cap, cur, e, rfl, h2, h3, h4, h5, h6⟩ := h
  have ho : RowAt w (.slice (some ⟨g, 0, none⟩) n cap) n xs := by
    refine ⟨⟨_, _, rfl⟩, fun h0 => ⟨g, 0, cap, rfl, lt_of_block h4, fun j x hx => ?_⟩, fun ao m c e => by simp at e; omega⟩
    rw [Nat.zero_add]
    exact Wide.cell h4 h6 (by rw [List.getElem?_append_left (List.getElem?_eq_some_iff.1 hx).1]; exact hx)
  exact ho
theorem marks_get {f : Nat → List Value} {sz : Nat} (hf : ∀ i, (f i).length = sz) {i j : Nat} {x : Value} (hi : i < 16) (hx : (f i)[j]? = some x) : (marksW f 16)[i * sz + j]? = some x :=
  flatC_get f sz hf (List.range 16) i j i x (by rw [List.getElem?_range hi]) hx
/-- A mark behind the list. -/
theorem Wide.mark {w : World} {g n sz : Nat} {xs : List Value} {f : Nat → List Value} {cur : Array Value} {e : TypeId} (h4 : w.heap[g]? = some (.cells cur e (0, 0))) (h5 : xs.length = n * sz) (h6 : cur.toList.take ((n + 16) * sz) = xs ++ marksW f 16) (hf : ∀ i, (f i).length = sz) {i j : Nat} {x : Value} (hi : i < 16) (hx : (f i)[j]? = some x) : w.cell? ⟨g, (n + i) * sz + j, none⟩ = some x := by
  refine Wide.cell h4 h6 ?_
  have e1 : (n + i) * sz + j = xs.length + (i * sz + j) := by rw [h5, Nat.add_mul]; omega
  rw [e1, List.getElem?_append_right (by omega), Nat.add_sub_cancel_left]
  exact marks_get hf hi hx
theorem wide_of {w : World} {B el sz n cap g : Nat} {xs : List Value} {f : Nat → List Value} (hxs : xs.length = n * sz) (h : w.ownsRow B el sz (.slice (some ⟨g, 0, none⟩) (n + 16) cap) (n + 16) (xs ++ marksW f 16)) : Wide w (.slice (some ⟨g, 0, none⟩) n cap) sz n xs f := by
  rcases h.2 with ⟨e, _⟩ | ⟨g', cap', cur, e, _, hb, hc, hm, hs, ht⟩
  · cases e
  · simp only [Value.slice.injEq, Option.some.injEq, Addr.mk.injEq, and_true, true_and] at e
    obtain ⟨rfl, rfl⟩ := e
    exact ⟨g, cap, cur, el, rfl, hc, hm, hb, hxs, ht⟩
theorem markV_v (i : Nat) (w : World) : Calls Tryz.prog 96 #[.int .i64 (i : Int)] w fun e w' => e = .returned (.agg #[.int .i64 (-77), .int .i64 (i : Int), .string ⟨#[115, 112, 97, 114, 101]⟩]) ∧ Keeps (fun _ => False) w w' := by
  go_enter Tryz.func96, Tryz.ntmps96
  go_wp2_with fail
  go_returns
  exact ⟨rfl, kAlloc _ _⟩
set_option maxRecDepth 100000 in
set_option maxHeartbeats 4000000 in
theorem wideVals_v (w : World) (v : Value) (l : List ValA) (h : ValsAt w v l) (hl : l.length ≤ 1048576) :
    Calls Tryz.prog 85 #[v] w fun e w' => ∃ g cap, e = .returned (.slice (some ⟨g, 0, none⟩) l.length cap) ∧ w.heap.size ≤ g ∧ Wide w' (.slice (some ⟨g, 0, none⟩) l.length cap) 3 l.length (vcs l) markV ∧ Keeps (fun _ => False) w w' := by
  obtain ⟨i0, hi, hz0, hz1, hz2⟩ := info_parts Tryz.info41
  obtain ⟨ao, ac, rfl⟩ := RowAt.form h
  have HC := hide (copyVals_any w _ l h (by omega))
  have HLN : Hid ((vcs l).length = l.length * 3) := by show _ = _; simp [vcs_length]
  generalize hfl : vcs l = FL at *
  clear h hfl
  go_enter Tryz.func85, Tryz.ntmps85
  go_wp2_with fail
  refine (unhide HC).mono ?_
  rintro e w1 ⟨v1, rfl, hown, hk1⟩
  obtain ⟨bo, bc, rfl⟩ := RowAt.form (rowAt_own hown)
  have HO1 := hide hown
  have HK1 := hide hk1
  clear hown hk1 HC
  go_wp2_with fail
  go_loopw [3, 4] (fun o i wr => ∃ k : Nat, k ≤ 16 ∧ i = .int .i64 (k : Int) ∧ Hid (wr.ownsRow w.heap.size 41 3 o (l.length + k) (FL ++ marksW markV k)) ∧ Hid (Keeps (fun _ => False) w wr)) (fun _ i _ => 16 - (intOf i).toNat)
  case atStart => exact ⟨0, by omega, rfl, by simpa [Hid, marksW] using unhide HO1, unhide HK1⟩
  case round =>
    obtain ⟨k, hk, rfl, HO, HK⟩ := hrel
    by_cases hlt : k < 16
    · have i1 : (k : Int) < 16 := by omega
      have i0' : (0 : Int) ≤ (k : Int) := by omega
      have HM := hide (markV_v k wr)
      go_wp2_with fail
      refine (unhide HM).mono ?_
      rintro e w2 ⟨rfl, hk2⟩
      have HO2 := hide (ownsRow_kept (unhide HO) hk2 (fun _ _ => id))
      have HK2 := hide ((unhide HK).trans hk2)
      clear hk2 HM HO HK
      have HO := HO2
      have HK := HK2
      go_wp2_with (at_builtin; refine wpList_append_lies _ rfl _ _ _ rfl w.heap.size 41 i0 _ 3 32 Tryz.underlying29 hi hz0 hz1 hz2 rfl (by omega) u3 (l.length + k) (FL ++ marksW markV k) rfl ((unhide HO).alloc _) ⟨w2.heap.size, 0, none⟩ 1 1 (markV k) rfl rfl (World.news_of_block (cs := #[.int .i64 (-77), .int .i64 (k : Int), .string ⟨#[115, 112, 97, 114, 101]⟩]) (t := 41) (fr := (0, 0)) (heap_alloc_new w2 _)) (by simp [Value.oneCell', markV]) (by omega) (by unfold maxLen; omega) (by omega) (by have := (unhide HK).size; simp; omega) (w2.heap.size + 1) (by simp) ?_; intro g cap w5 hown5 hgr5 hat5 hlt5)
      go_roundw
      case rel =>
        refine ⟨k + 1, by omega, by go_num, ?_, ((unhide HK).alloc _).grown hgr5 (fun q e hq => by have := ((unhide HO).lt q e).1; omega)⟩
        rw [marks_snoc, ← List.append_assoc, ← Nat.add_assoc]
        exact hown5
      case measure => simp [intOf]; omega
    · obtain rfl : k = 16 := by omega
      obtain ⟨g, cap, cur, e, hgl, hgb, hc⟩ : ∃ g cap cur, u3 = .slice (some ⟨g, 0, none⟩) (l.length + 16) cap ∧ w.heap.size ≤ g ∧ wr.heap[g]? = some (.cells cur 41 (0, 0)) ∧ l.length + 16 ≤ cap := by
        rcases (unhide HO).2 with ⟨_, h0⟩ | ⟨g, cap, cur, a1, a2, a3, a4, _⟩
        · omega
        · exact ⟨g, cap, cur, a1, a2, a3, a4⟩
      subst e
      have HW := hide (wide_of (unhide HLN) (unhide HO))
      have c1 : (l.length : Int) ≤ (cap : Int) := by omega
      have c2 : l.length ≤ cap := by omega
      have c0 : (0 : Int) ≤ (l.length : Int) := by omega
      clear hgb HO
      go_wp2_with fail
      go_ret
      exact ⟨_, _, rfl, hgl, unhide HW, unhide HK⟩
set_option maxRecDepth 100000 in
set_option maxHeartbeats 2000000 in
theorem copySchema_v (w : World) (v : Value) (l : List FieldA) (h : FldsAt w v l) (hl : l.length ≤ 4398046511104) :
    Calls Tryz.prog 33 #[.agg #[v]] w fun e w' => ∃ v', e = .returned (.agg #[v']) ∧ w'.ownsRow w.heap.size 47 3 v' l.length (fcs l) ∧ Keeps (fun _ => False) w w' := by
  obtain ⟨i0, hi, hz0, hz1, hz2⟩ := info_parts Tryz.info47
  obtain ⟨ao, cap, rfl⟩ := RowAt.form h
  obtain ⟨w3, hw3⟩ : ∃ w3, w3 = ((w.alloc (.cells #[.slice ao l.length cap] 24)).alloc (.cells #[.slice none 0 0] 24)).alloc (.cells #[.slice none 0 0] 24) := ⟨_, rfl⟩
  have hK : Keeps (fun _ => False) w w3 := by rw [hw3]; exact (((Keeps.refl _ _).alloc _).alloc _).alloc _
  have hs3 : w3.heap.size = w.heap.size + 3 := by rw [hw3]; simp
  have b0 : w3.heap[w.heap.size]? = some (.cells #[.slice ao l.length cap] 24 (0, 0)) := by
    rw [hw3, Below.heap_alloc _ _ _ (by simp; omega), Below.heap_alloc _ _ _ (by simp)]
    exact heap_alloc_new w _
  have b1 : w3.heap[w.heap.size + 1]? = some (.cells #[.slice none 0 0] 24 (0, 0)) := by
    rw [hw3, Below.heap_alloc _ _ _ (by simp)]
    have := heap_alloc_new (w.alloc (.cells #[.slice ao l.length cap] 24)) (.cells #[.slice none 0 0] 24)
    simpa using this
  have b2 : w3.heap[w.heap.size + 1 + 1]? = some (.cells #[.slice none 0 0] 24 (0, 0)) := by
    rw [hw3]
    have := heap_alloc_new ((w.alloc (.cells #[.slice ao l.length cap] 24)).alloc (.cells #[.slice none 0 0] 24)) (.cells #[.slice none 0 0] 24)
    simpa using this
  have HF := hide (h.keepF hK)
  have HW := hide hw3
  have HK := hide hK
  have HL := hide hl
  have B0 := hide b0
  have B1 := hide b1
  have B2 := hide b2
  have HS := hide hs3
  clear h hw3 hK b0 b1 b2 hs3 hl
  have hl' : l.length ≤ 9223372036854775807 := by have := unhide HL; omega
  go_enter Tryz.func33, Tryz.ntmps33
  go_wp2
  rw [← unhide HW]
  go_loopw [4] (fun i wr => ∃ (k : Nat) (o : Value), k ≤ l.length ∧ i = .int .i64 k ∧ wr.heap[w.heap.size + 1 + 1]? = some (.cells #[o] 24 (0, 0)) ∧ wr.ownsRow w3.heap.size 47 3 o k (fcs (l.take k)) ∧ Keeps (fun q => q = w.heap.size + 1 + 1) w3 wr) (fun i _ => l.length - (intOf i).toNat)
  case atStart => exact ⟨0, _, Nat.zero_le _, rfl, unhide B2, by simpa [fcs] using World.ownsRow_nil w3 w3.heap.size 47 3, Keeps.refl _ _⟩
  case round =>
    obtain ⟨k, o, hk, rfl, hbo, hown, hkp⟩ := hrel
    obtain ⟨oo, oc, rfl⟩ := (rowAt_own hown).form
    have HBo := hide hbo
    have HO := hide hown
    have HP := hide hkp
    have p0 : wr.cell? ⟨w.heap.size, 0, none⟩ = some (.slice ao l.length cap) := (hkp.cell (lt_of_block (unhide B0)) (by show ¬ _ = _; omega)).trans (by rw [cell_of_blk (unhide B0)]; rfl)
    have p2 : wr.cell? ⟨w.heap.size + 1 + 1, 0, none⟩ = some (.slice oo k oc) := by rw [cell_of_blk hbo]; rfl
    have f2 := frozen_of_blk hbo 0
    have z2 := lt_of_block hbo
    have z0 : w.heap.size < wr.heap.size := by omega
    by_cases hlt : k < l.length
    · obtain ⟨b, off, c1, e1, hbl, hc⟩ := (unhide HF).cells (by omega)
      simp at e1
      obtain ⟨rfl, rfl⟩ := e1
      obtain ⟨f, hf⟩ : ∃ f, l[k]? = some f := ⟨_, List.getElem?_eq_getElem hlt⟩
      have hbne : b ≠ w.heap.size + 1 + 1 := by
        rintro rfl
        have h1 := (hc k f hf).2.1
        have h2 := (hc k f hf).2.2
        rw [cell_of_blk (unhide B2)] at h1 h2
        rw [Array.getElem?_eq_none (by simp)] at h2
        cases h2
      have c0 := (hkp.cell hbl (by show ¬ _ = _; omega)).trans (hc k f hf).1
      have c1 := (hkp.cell hbl (by show ¬ _ = _; omega)).trans (hc k f hf).2.1
      have c2 := (hkp.cell hbl (by show ¬ _ = _; omega)).trans (hc k f hf).2.2
      have z1 : b < wr.heap.size := Nat.lt_of_lt_of_le hbl hkp.size
      have HX := hide hf
      have HN := hide (ownsRow_ne hown hbo (by decide))
      have i1 : (k : Int) < (l.length : Int) := by omega
      have i0' : (0 : Int) ≤ (k : Int) := by omega
      clear hc hf hbo hown hkp
      go_wp2_with fail
      go_region_law (first
        | (refine step_append_lies _ (by rfl) _ _ _ (by rfl) w3.heap.size 47 i0 _ 3 32 Tryz.underlying22 hi hz0 hz1 hz2 rfl (by omega) (.slice oo k oc) k (fcs (l.take k)) (by rfl) (((unhide HO).alloc _).drew)
            ⟨wr.heap.size, 0, none⟩ 1 1 f.cs (by rfl) (by rfl) (World.news_of_block (cs := #[str f.name, .int .i64 f.type, .bool f.opt]) (t := 47) (fr := (0, 0)) (by exact heap_alloc_new wr _)) (by simp [Value.oneCell', FieldA.cs])
            (by omega) (by unfold maxLen; omega) (by have := unhide HL; omega) (by have := (unhide HP).size; simp; omega) (wr.heap.size + 1) (by simp) ?_; intro g cap' w5 hown2 hgrow hat hlt2
           have f2' : w5.frozen? ⟨w.heap.size + 1 + 1, 0, none⟩ = false := by (rw [hgrow.frozen_far _ (by simp; omega) (Ne.symm (unhide HN))]; simpa [World.frozen?_alloc_past, z2] using f2)
           have p2' : w5.cell? ⟨w.heap.size + 1 + 1, 0, none⟩ = some (.slice oo k oc) := by (rw [hgrow.cell_far _ (by simp; omega) (Ne.symm (unhide HN))]; simpa [World.cell?_alloc_past, z2] using p2)))
      all_goals
        have hb5 : w5.heap[w.heap.size + 1 + 1]? = some (.cells #[.slice oo k oc] 24 (0, 0)) := by
          rw [hgrow.block (w.heap.size + 1 + 1) (by simp; omega) (Ne.symm (unhide HN))]
          show (wr.alloc _).heap[w.heap.size + 1 + 1]? = _
          rw [Below.heap_alloc _ _ _ z2]
          exact unhide HBo
        have H5 := hide hb5
        have HO2 := hide hown2
        have HG2 := hide hgrow
        clear hb5 hown2 hgrow
        go_wp2
        go_roundw
        case rel =>
          refine ⟨k + 1, .slice (some ⟨g, 0, none⟩) (k + 1) cap', by omega, by go_num, ?_, ?_, ?_⟩
          · rw [heap_setCell_at (unhide H5)]; rfl
          · rw [take_snoc _ _ _ (unhide HX)]
            have h1 : w5.ownsRow w3.heap.size 47 3 (.slice (some ⟨g, 0, none⟩) (k + 1) cap') (k + 1) (fcs (l.take k ++ [f])) := by simpa [fcs] using unhide HO2
            exact ownsRow_kept (F := fun q => q = w.heap.size + 1 + 1) h1 (keeps_set w5 _ 0 _) (fun q e e2 => by subst e2; exact ownsRow_ne h1 (unhide H5) (by decide) e)
          · exact ((((unhide HP).alloc _).drew).grown (unhide HG2) (fun q e hq => by have := ((unhide HO).lt q e).1; omega)).setCell (fun _ => rfl) _
        case measure => simp [intOf]; omega
    · obtain rfl : k = l.length := by omega
      have hb1 : wr.heap[w.heap.size + 1]? = some (.cells #[.slice none 0 0] 24 (0, 0)) := by rw [hkp.block _ (lt_of_block (unhide B1)) (by show ¬ _ = _; omega)]; exact unhide B1
      have p1 : wr.cell? ⟨w.heap.size + 1, 0, none⟩ = some (.slice none 0 0) := by rw [cell_of_blk hb1]; rfl
      have f1 := frozen_of_blk hb1 0
      have H1 := hide hb1
      have HN1 := hide (ownsRow_ne hown hb1 (by decide))
      clear hb1 hown hkp hbo
      go_wp2
      have hq : (wr.setCell ⟨w.heap.size + 1, 0, none⟩ (.slice oo l.length oc)).cell? ⟨w.heap.size + 1, 0, none⟩ = some (.slice oo l.length oc) := by rw [cell_of_blk (heap_setCell_at (unhide H1) _)]; rfl
      refine bodyPost_ret (v := .agg #[.slice oo l.length oc]) (by simp [results, go_sem, hq]) rfl ?_
      refine ⟨.slice oo l.length oc, rfl, ?_, ?_⟩
      · have h1 := unhide HO
        rw [List.take_length] at h1
        exact ownsRow_lower (ownsRow_kept (F := fun q => q = w.heap.size + 1) h1 (keeps_set wr _ 0 _) (fun q e e2 => unhide HN1 (by rw [← e2]; exact e))) (unhide HK).size
      · exact (unhide HK).narrow (F := fun q => q = w.heap.size + 1 + 1 ∨ q = w.heap.size + 1) (((unhide HP).mono (fun q _ h => Or.inl h)).then (keeps_set wr (w.heap.size + 1) 0 _) (fun q _ h => Or.inr h)) (fun q h => by omega)
theorem run_field24 (ao : Option Addr) (n c : Nat) (W : World) : (Instr.field 24 (.agg #[.slice ao n c]) 0).run Tryz.prog W = .ok (.slice ao n c) W := by
  kernel_rfl
set_option maxRecDepth 100000 in
set_option maxHeartbeats 2000000 in
theorem wideSchema_v (w : World) (v : Value) (l : List FieldA) (h : FldsAt w v l) (hl : l.length ≤ 1048576) :
    Calls Tryz.prog 49 #[.agg #[v]] w fun e w' => ∃ g cap, e = .returned (.agg #[.slice (some ⟨g, 0, none⟩) l.length cap]) ∧ w.heap.size ≤ g ∧ Wide w' (.slice (some ⟨g, 0, none⟩) l.length cap) 3 l.length (fcs l) markF ∧ Keeps (fun _ => False) w w' := by
  obtain ⟨i0, hi, hz0, hz1, hz2⟩ := info_parts Tryz.info47
  obtain ⟨ao, ac, rfl⟩ := RowAt.form h
  obtain ⟨W, hW, hkW, g0, g1⟩ := boxA2 w #[.slice ao l.length ac] #[.slice none 0 0] 24 24
  have hsz : w.heap.size + 2 ≤ W.heap.size := lt_of_block g1
  have HC := hide (copySchema_v W _ l (h.keepF hkW) (by omega))
  have HLN : Hid ((fcs l).length = l.length * 3) := by show _ = _; simp [fcs_length]
  generalize hfl : fcs l = FL at *
  have cc0 := cl1 g0
  have B0 := hide g0
  have B1 := hide g1
  have HWX := hide hkW
  clear h hfl g0 g1 hkW
  go_enter Tryz.func49, Tryz.ntmps49
  go_wp2_with fail
  refine (unhide HC).mono ?_
  rintro e w1 ⟨v1, rfl, hown, hk1⟩
  obtain ⟨bo, bc, rfl⟩ := RowAt.form (rowAt_own hown)
  have HO1 := hide hown
  have HK1 := hide hk1
  clear hown hk1 HC cc0
  have hfl := run_field24 bo l.length bc
  go_wp2_with fail
  go_loopw [3, 4] (fun o i wr => ∃ k : Nat, k ≤ 16 ∧ i = .int .i64 (k : Int) ∧ Hid (wr.ownsRow W.heap.size 47 3 o (l.length + k) (FL ++ marksW markF k)) ∧ Hid (Keeps (fun _ => False) W wr)) (fun _ i _ => 16 - (intOf i).toNat)
  case atStart => exact ⟨0, by omega, rfl, by simpa [Hid, marksW] using unhide HO1, unhide HK1⟩
  case round =>
    obtain ⟨k, hk, rfl, HO, HK⟩ := hrel
    by_cases hlt : k < 16
    · have i1 : (k : Int) < 16 := by omega
      have i0' : (0 : Int) ≤ (k : Int) := by omega
      go_wp2_with (at_builtin; refine wpList_append_lies _ rfl _ _ _ rfl W.heap.size 47 i0 _ 3 32 Tryz.underlying22 hi hz0 hz1 hz2 rfl (by omega) u3 (l.length + k) (FL ++ marksW markF k) rfl ((unhide HO).alloc _) ⟨wr.heap.size, 0, none⟩ 1 1 (markF k) rfl rfl (World.news_of_block (cs := #[.string ⟨#[115, 112, 97, 114, 101]⟩, .int .i64 (-77 - (k : Int)), .bool false]) (t := 47) (fr := (0, 0)) (heap_alloc_new wr _)) (by simp [Value.oneCell', markF, str, spareT]) (by omega) (by unfold maxLen; omega) (by omega) (by have := (unhide HK).size; simp; omega) (wr.heap.size + 1) (by simp) ?_; intro g cap w5 hown5 hgr5 hat5 hlt5)
      go_roundw
      case rel =>
        refine ⟨k + 1, by omega, by go_num, ?_, ((unhide HK).alloc _).grown hgr5 (fun q e hq => by have := ((unhide HO).lt q e).1; omega)⟩
        rw [marks_snoc, ← List.append_assoc, ← Nat.add_assoc]
        exact hown5
      case measure => simp [intOf]; omega
    · obtain rfl : k = 16 := by omega
      obtain ⟨g, cap, cur, e, hgl, hgb, hc⟩ : ∃ g cap cur, u3 = .slice (some ⟨g, 0, none⟩) (l.length + 16) cap ∧ W.heap.size ≤ g ∧ wr.heap[g]? = some (.cells cur 47 (0, 0)) ∧ l.length + 16 ≤ cap := by
        rcases (unhide HO).2 with ⟨_, h0⟩ | ⟨g, cap, cur, a1, a2, a3, a4, _⟩
        · omega
        · exact ⟨g, cap, cur, a1, a2, a3, a4⟩
      subst e
      have HWD := hide (wide_of (unhide HLN) (unhide HO))
      have c1 : (l.length : Int) ≤ (cap : Int) := by omega
      have c2 : l.length ≤ cap := by omega
      have c0 : (0 : Int) ≤ (l.length : Int) := by omega
      have hb0 := blk_keep (unhide B0) (unhide HK)
      have hb1 := blk_keep (unhide B1) (unhide HK)
      have cc0 := cl1 hb0
      have m0 := cl1 hb1
      have z0 := frozen_of_blk hb1 0
      have HB1 := hide hb1
      have HGL := hide hgl
      clear hgb HO hb0 hb1 hgl
      go_wp2_with fail
      have s0 := set1c (unhide HB1) (.slice (some ⟨g, 0, none⟩) l.length cap)
      refine bodyPost_ret (v := .agg #[.slice (some ⟨g, 0, none⟩) l.length cap]) (by simp [results, go_sem, s0]) rfl ?_
      have k2 := keeps_set wr (w.heap.size + 1) 0 (.slice (some ⟨g, 0, none⟩) l.length cap)
      exact ⟨_, _, rfl, by have := unhide HGL; omega, (unhide HWD).keep k2 (by have := unhide HGL; omega), ((unhide HWX).trans (unhide HK)).fresh (by omega) k2⟩
set_option maxRecDepth 100000 in
set_option maxHeartbeats 2000000 in
theorem wideRow_v (w : World) (hh : Bool) (u : Value) (l : List ValA) (h : ValsAt w u l) (hl : l.length ≤ 1048576) :
    Calls Tryz.prog 51 #[.agg #[.bool hh, u]] w fun e w' => ∃ g cap, e = .returned (.agg #[.bool hh, .slice (some ⟨g, 0, none⟩) l.length cap]) ∧ w.heap.size ≤ g ∧ Wide w' (.slice (some ⟨g, 0, none⟩) l.length cap) 3 l.length (vcs l) markV ∧ Keeps (fun _ => False) w w' := by
  obtain ⟨uo, uc, rfl⟩ := RowAt.form h
  obtain ⟨W, hW, hkW, g0, g1⟩ := boxA2 w #[.bool hh, .slice uo l.length uc] #[.bool false, .slice none 0 0] 31 31
  have hsz : w.heap.size + 2 ≤ W.heap.size := lt_of_block g1
  have HCV := hide (fun (W2 : World) (hx : Keeps (fun _ => False) W W2) => wideVals_v W2 _ l ((h.keepF hkW).keepF hx) hl)
  have HSK : Hid (∀ w', Keeps (fun q => q = w.heap.size + 1) W w' → w'.cell? ⟨w.heap.size, 0, none⟩ = some (.bool hh) ∧ w'.cell? ⟨w.heap.size, 1, none⟩ = some (.slice uo l.length uc)) := fun w' hk => by
    have x1 := (hk.block _ (lt_of_block g0) (by omega)).trans g0
    exact ⟨(cell_of_blk x1 _).trans rfl, (cell_of_blk x1 _).trans rfl⟩
  have HKX := hide (Keeps.refl (fun _ => False) W)
  have HWX := hide hkW
  have H2 := hide g1
  obtain ⟨a0, a1⟩ := unhide HSK W (Keeps.refl _ _)
  clear g0 g1 hkW h
  go_enter Tryz.func51, Tryz.ntmps51
  go_wp2_with fail
  go_region_held3 (fun w' => w'.cell? ⟨w.heap.size, 0, none⟩ = some (.bool hh) ∧ w'.cell? ⟨w.heap.size, 1, none⟩ = some (.slice uo l.length uc))
    (first | with_reducible exact unhide HSK _ (unhide HKX).any | with_reducible exact unhide HSK _ (unhide HKX).drew.any | with_reducible exact unhide HSK _ ((unhide HKX).any.trans (keeps_set2 _ _ _ _)))
    ((first
    | (go_at_call 85; (with_reducible refine (unhide HCV _ (unhide HKX).drew).mono ?_); rintro e w3 ⟨g, c, rfl, hgl, hown, hk⟩; have HGL : Hid (w.heap.size + 2 ≤ g) := Nat.le_trans hsz hgl; have HOW := hide hown; clear hgl; have HKX := hide ((unhide HKX).drew.trans hk); have hb5 := blk_keep (unhide H2) (unhide HKX); have m0 := (cell_of_blk hb5 0).trans rfl; have m1 := (cell_of_blk hb5 1).trans rfl; have z0 := frozen_of_blk hb5 0; have z1 := frozen_of_blk hb5 1; have HB5 := hide hb5; clear hb5 hk hown)))
  all_goals go_wp2_with fail
  all_goals
    obtain ⟨s0, s1⟩ := set2c (unhide HB5) (.bool hh) (.slice (some ⟨g, 0, none⟩) l.length c)
    refine bodyPost_ret (v := .agg #[.bool hh, .slice (some ⟨g, 0, none⟩) l.length c]) (by simp [results, go_sem, s0, s1]) rfl ?_
    have k2 := keeps_set2 w3 (w.heap.size + 1) (.bool hh) (.slice (some ⟨g, 0, none⟩) l.length c)
    exact ⟨_, _, rfl, by have := unhide HGL; omega, (unhide HOW).keep k2 (by have := unhide HGL; omega), ((unhide HWX).trans (unhide HKX)).fresh (by omega) k2⟩
set_option maxRecDepth 100000 in
set_option maxHeartbeats 2000000 in
theorem spareVals_v (w : World) (g n cap : Nat) (xs : List Value) (h : Wide w (.slice (some ⟨g, 0, none⟩) n cap) 3 n xs markV) (hn : n ≤ 1048576) :
    Calls Tryz.prog 61 #[.slice (some ⟨g, 0, none⟩) n cap] w fun e w' => e = .returned (.bool true) ∧ Keeps (fun _ => False) w w' := by
  obtain ⟨g', cap', cur, e, h1, h2, h3, h4, h5, h6⟩ := h
  simp only [Value.slice.injEq, Option.some.injEq, Addr.mk.injEq, and_true, true_and] at h1
  obtain ⟨rfl, rfl⟩ := h1
  have HM : Hid (∀ i, i < 16 → ∀ j x, (markV i)[j]? = some x → w.cell? ⟨g, (n + i) * 3 + j, none⟩ = some x) := fun i hi j x hx => Wide.mark h4 h5 h6 (fun _ => rfl) hi hx
  have hg0 := lt_of_block h4
  have b1 : (n : Int) + 16 ≤ (cap : Int) := by omega
  have b2 : n + 16 ≤ cap := h2
  have b0 : (0 : Int) ≤ (n : Int) := by omega
  clear h4 h5 h6 h2 h3
  go_enter Tryz.func61, Tryz.ntmps61
  go_wp2_with fail
  go_loopw [4] (fun i wr => ∃ k : Nat, k ≤ 16 ∧ i = .int .i64 (k : Int) ∧ Hid (Keeps (fun _ => False) w wr)) (fun i _ => 16 - (intOf i).toNat)
  case atStart => exact ⟨0, by omega, rfl, Keeps.refl _ _⟩
  case round =>
    obtain ⟨k, hk, rfl, HK⟩ := hrel
    by_cases hlt : k < 16
    · have i1 : (k : Int) < 16 := by omega
      have i0' : (0 : Int) ≤ (k : Int) := by omega
      have q1 : (n : Int) + (k : Int) < (n : Int) + 16 := by omega
      have q0 : (0 : Int) ≤ (n : Int) + (k : Int) := by omega
      have qn : ((n : Int) + (k : Int)).toNat = n + k := by omega
      have p0 : wr.cell? ⟨g, (n + k) * 3, none⟩ = some (.int .i64 (-77)) := by have := ((unhide HK).cell hg0 id).trans (unhide HM k hlt 0 (.int .i64 (-77)) rfl); simpa using this
      have p1 : wr.cell? ⟨g, (n + k) * 3 + 1, none⟩ = some (.int .i64 (k : Int)) := by have := ((unhide HK).cell hg0 id).trans (unhide HM k hlt 1 (.int .i64 (k : Int)) rfl); simpa using this
      have p2 : wr.cell? ⟨g, (n + k) * 3 + 2, none⟩ = some (.string ⟨#[115, 112, 97, 114, 101]⟩) := by have := ((unhide HK).cell hg0 id).trans (unhide HM k hlt 2 (.string ⟨#[115, 112, 97, 114, 101]⟩) rfl); simpa using this
      have HQ : Hid (∀ m : KW wr, Calls Tryz.prog 96 #[.int .i64 (k : Int)] m.wd fun e w' => e = .returned (.agg #[.int .i64 (-77), .int .i64 (k : Int), .string ⟨#[115, 112, 97, 114, 101]⟩]) ∧ ∃ m2 : KW wr, w' = m2.wd) := fun m => kw_of m (markV_v k m.wd)
      have r0 : ∀ m : KW wr, m.wd.cell? ⟨g, (n + k) * 3, none⟩ = some (.int .i64 (-77)) := fun m => (m.kept.cell (Nat.lt_of_lt_of_le hg0 (unhide HK).size) id).trans p0
      have r1 : ∀ m : KW wr, m.wd.cell? ⟨g, (n + k) * 3 + 1, none⟩ = some (.int .i64 (k : Int)) := fun m => (m.kept.cell (Nat.lt_of_lt_of_le hg0 (unhide HK).size) id).trans p1
      have r2 : ∀ m : KW wr, m.wd.cell? ⟨g, (n + k) * 3 + 2, none⟩ = some (.string ⟨#[115, 112, 97, 114, 101]⟩) := fun m => (m.kept.cell (Nat.lt_of_lt_of_le hg0 (unhide HK).size) id).trans p2
      go_wp2_with fail
      refine region_kept (by kernel_rfl) (by kernel_rfl) ?_
      repeat (go_big_quiet_step ((go_at_call 96; exact unhide HQ _)))
      refine wpQuiet_nil ?_
      rintro _ ⟨nq, rfl⟩
      go_wp2_with fail
      go_roundw
      case rel => exact ⟨k + 1, by omega, by go_num, (unhide HK).trans nq.kept⟩
      case measure => simp [intOf]; omega
    · obtain rfl : k = 16 := by omega
      go_wp2_with fail
      go_ret
      exact ⟨rfl, unhide HK⟩
set_option maxRecDepth 100000 in
set_option maxHeartbeats 2000000 in
theorem spareSchema_v (w : World) (g n cap : Nat) (xs : List Value) (h : Wide w (.slice (some ⟨g, 0, none⟩) n cap) 3 n xs markF) (hn : n ≤ 1048576) :
    Calls Tryz.prog 59 #[.agg #[.slice (some ⟨g, 0, none⟩) n cap]] w fun e w' => e = .returned (.bool true) ∧ Keeps (fun _ => False) w w' := by
  have hkW := kAlloc w (.cells #[.slice (some ⟨g, 0, none⟩) n cap] 24)
  have g0 := heap_alloc_new w (.cells #[.slice (some ⟨g, 0, none⟩) n cap] 24)
  generalize hW : w.alloc (.cells #[.slice (some ⟨g, 0, none⟩) n cap] 24) = W at *
  have cc0 := cl1 g0
  have HWX := hide hkW
  have hs0 := lt_of_block g0
  replace h := h.keepF hkW
  clear g0 hkW
  obtain ⟨g', cap', cur, e, h1, h2, h3, h4, h5, h6⟩ := h
  simp only [Value.slice.injEq, Option.some.injEq, Addr.mk.injEq, and_true, true_and] at h1
  obtain ⟨rfl, rfl⟩ := h1
  have HM : Hid (∀ i, i < 16 → ∀ j x, (markF i)[j]? = some x → W.cell? ⟨g, (n + i) * 3 + j, none⟩ = some x) := fun i hi j x hx => Wide.mark h4 h5 h6 (fun _ => rfl) hi hx
  have hg0 := lt_of_block h4
  have b1 : (n : Int) + 16 ≤ (cap : Int) := by omega
  have b2 : n + 16 ≤ cap := h2
  have b0 : (0 : Int) ≤ (n : Int) := by omega
  clear h4 h5 h6 h2 h3
  go_enter Tryz.func59, Tryz.ntmps59
  go_wp2_with fail
  go_loopw [5] (fun i wr => ∃ k : Nat, k ≤ 16 ∧ i = .int .i64 (k : Int) ∧ Hid (Keeps (fun _ => False) W wr)) (fun i _ => 16 - (intOf i).toNat)
  case atStart => exact ⟨0, by omega, rfl, Keeps.refl _ _⟩
  case round =>
    obtain ⟨k, hk, rfl, HK⟩ := hrel
    by_cases hlt : k < 16
    · have i1 : (k : Int) < 16 := by omega
      have i0' : (0 : Int) ≤ (k : Int) := by omega
      have q1 : (n : Int) + (k : Int) < (n : Int) + 16 := by omega
      have q0 : (0 : Int) ≤ (n : Int) + (k : Int) := by omega
      have qn : ((n : Int) + (k : Int)).toNat = n + k := by omega
      have p0 : wr.cell? ⟨g, (n + k) * 3, none⟩ = some (.string ⟨#[115, 112, 97, 114, 101]⟩) := by have := ((unhide HK).cell hg0 id).trans (unhide HM k hlt 0 (.string ⟨#[115, 112, 97, 114, 101]⟩) rfl); simpa using this
      have p1 : wr.cell? ⟨g, (n + k) * 3 + 1, none⟩ = some (.int .i64 (-77 - (k : Int))) := by have := ((unhide HK).cell hg0 id).trans (unhide HM k hlt 1 (.int .i64 (-77 - (k : Int))) rfl); simpa using this
      have p2 : wr.cell? ⟨g, (n + k) * 3 + 2, none⟩ = some (.bool false) := by have := ((unhide HK).cell hg0 id).trans (unhide HM k hlt 2 (.bool false) rfl); simpa using this
      have pc := ((unhide HK).cell hs0 id).trans cc0
      go_wp2_with fail
      go_roundw
      case rel => exact ⟨k + 1, by omega, by go_num, unhide HK⟩
      case measure => simp [intOf]; omega
    · obtain rfl : k = 16 := by omega
      go_wp2_with fail
      go_ret
      exact ⟨rfl, (unhide HWX).trans (unhide HK)⟩
end Go.Proofs.YtiinohibmcefkaaGreatDoor
