import Derived.Test.YtdkihkgmldnpmabW
import Derived.Test.YtdkihkgmldnpmabR
namespace Go.Proofs.Ytdkihkgmldnpmab
open Go.RowKit Go.Maps

abbrev nil3 : Value := .slice none 0 0

theorem tri_new3 (w : World) (t : Nat) (B : Nat) (hB : B ≤ w.heap.size) (t4 : t ≠ 4) : Tri (w.alloc (.cells #[nil3, nil3, nil3] t)) B t w.heap.size nil3 nil3 nil3 [] [] [] :=
  ⟨heap_alloc_new w _, World.ownsRow_nil _ _ _ _, World.ownsRow_nil _ _ _ _, World.ownsRow_nil _ _ _ _, fun _ e => (by cases e), fun _ e => (by cases e), fun _ e => (by cases e), hB, t4⟩

theorem Tri.grow1 {w w1 : World} {B t V : Nat} {nv mv lv v : Value} {a b c l : List Bool} (h : Tri w B t V nv mv lv a b c) (hk : Keeps (fun k => mv.ownBlock = some k) w w1) (hr : w1.ownsRow B 4 1 v l.length (bl l)) (hv : ∀ k, v.ownBlock = some k → mv.ownBlock = some k ∨ w.heap.size ≤ k) :
    Tri (w1.setCell ⟨V, 1, none⟩ v) B t V nv v lv a l c ∧ Keeps (triHas V nv mv lv) w (w1.setCell ⟨V, 1, none⟩ v) := by
  have hb : w1.heap[V]? = some (.cells #[nv, mv, lv] t (0, 0)) := by rw [hk.block _ (lt_of_block h.blk) h.neV.2.1]; exact h.blk
  have h2 : Keeps (fun k => k = V) w1 (w1.setCell ⟨V, 1, none⟩ v) := Keeps.setCell (F := fun k => k = V) (Keeps.refl _ w1) (p := ⟨V, 1, none⟩) (fun _ => rfl) v
  have r1 := ownsRow_kept h.r1 hk (fun k e e2 => h.d12 k e e2)
  have r3 := ownsRow_kept h.r3 hk (fun k e e2 => h.d23 k e2 e)
  refine ⟨⟨?_, ownsRow_kept r1 h2 (fun k e e2 => h.neV.1 (by rw [← e2]; exact e)), ownsRow_kept hr h2 (fun k e e2 => ?_), ownsRow_kept r3 h2 (fun k e e2 => h.neV.2.2 (by rw [← e2]; exact e)), ?_, h.d13, ?_, h.lo, h.t4⟩, (hk.mono (fun k _ e => Or.inr (Or.inr (Or.inl e)))).trans (h2.mono (fun k _ e => Or.inl e))⟩
  · rw [heap_setCell_at hb]; rfl
  · obtain ⟨cur, hc⟩ := ownsRow_block hr e
    rw [e2] at hc
    exact blk_ne hb hc h.t4 rfl
  · intro k e e2
    rcases hv k e2 with h3 | h3
    · exact h.d12 k e h3
    · have := (h.r1.lt k e).2; omega
  · intro k e e2
    rcases hv k e with h3 | h3
    · exact h.d23 k h3 e2
    · have := (h.r3.lt k e2).2; omega
theorem Tri.grow2 {w w1 : World} {B t V : Nat} {nv mv lv v : Value} {a b c l : List Bool} (h : Tri w B t V nv mv lv a b c) (hk : Keeps (fun k => lv.ownBlock = some k) w w1) (hr : w1.ownsRow B 4 1 v l.length (bl l)) (hv : ∀ k, v.ownBlock = some k → lv.ownBlock = some k ∨ w.heap.size ≤ k) :
    Tri (w1.setCell ⟨V, 2, none⟩ v) B t V nv mv v a b l ∧ Keeps (triHas V nv mv lv) w (w1.setCell ⟨V, 2, none⟩ v) := by
  have hb : w1.heap[V]? = some (.cells #[nv, mv, lv] t (0, 0)) := by rw [hk.block _ (lt_of_block h.blk) h.neV.2.2]; exact h.blk
  have h2 : Keeps (fun k => k = V) w1 (w1.setCell ⟨V, 2, none⟩ v) := Keeps.setCell (F := fun k => k = V) (Keeps.refl _ w1) (p := ⟨V, 2, none⟩) (fun _ => rfl) v
  have r1 := ownsRow_kept h.r1 hk (fun k e e2 => h.d13 k e e2)
  have r2 := ownsRow_kept h.r2 hk (fun k e e2 => h.d23 k e e2)
  refine ⟨⟨?_, ownsRow_kept r1 h2 (fun k e e2 => h.neV.1 (by rw [← e2]; exact e)), ownsRow_kept r2 h2 (fun k e e2 => h.neV.2.1 (by rw [← e2]; exact e)), ownsRow_kept hr h2 (fun k e e2 => ?_), h.d12, ?_, ?_, h.lo, h.t4⟩, (hk.mono (fun k _ e => Or.inr (Or.inr (Or.inr e)))).trans (h2.mono (fun k _ e => Or.inl e))⟩
  · rw [heap_setCell_at hb]; rfl
  · obtain ⟨cur, hc⟩ := ownsRow_block hr e
    rw [e2] at hc
    exact blk_ne hb hc h.t4 rfl
  · intro k e e2
    rcases hv k e2 with h3 | h3
    · exact h.d13 k e h3
    · have := (h.r1.lt k e).2; omega
  · intro k e e2
    rcases hv k e2 with h3 | h3
    · exact h.d23 k e h3
    · have := (h.r2.lt k e).2; omega

/-- What the walk needs behind an append to one of the three lists, ahead of the store. -/
structure Grew (w w2 : World) (B t V : Nat) (nv mv lv : Value) (o : Nat) (T2 : Prop) : Prop where
  cell0 : w2.cell? ⟨V, 0, none⟩ = some nv
  cell1 : w2.cell? ⟨V, 1, none⟩ = some mv
  cell2 : w2.cell? ⟨V, 2, none⟩ = some lv
  fz0 : w2.frozen? ⟨V, 0, none⟩ = false
  fz1 : w2.frozen? ⟨V, 1, none⟩ = false
  fz2 : w2.frozen? ⟨V, 2, none⟩ = false
  done : T2

section
variable {w w2 : World} {B t V k g cap : Nat} {nv mv lv : Value} {ob : Obj} {b c : List Bool}
theorem falses_snoc (k : Nat) : bl (List.replicate k false) ++ [.bool false] = bl (List.replicate (k + 1) false) := by
  rw [List.replicate_succ']; simp [bl]
theorem Tri.app0 (h : Tri w B t V nv mv lv (List.replicate k false) b c) (hw : w2.ownsRow B 4 1 (.slice (some ⟨g, 0, none⟩) (k + 1) cap) (k + 1) (bl (List.replicate k false) ++ [.bool false])) (hg : (w.alloc ob).grownBy w2 nv.ownBlock) (hat : nv.ownBlock = some g ∨ g = w.heap.size + 1) :
    Grew w w2 B t V nv mv lv 0 (Tri (w2.setCell ⟨V, 0, none⟩ (.slice (some ⟨g, 0, none⟩) (k + 1) cap)) B t V (.slice (some ⟨g, 0, none⟩) (k + 1) cap) mv lv (List.replicate (k + 1) false) b c ∧ Keeps (triHas V nv mv lv) w (w2.setCell ⟨V, 0, none⟩ (.slice (some ⟨g, 0, none⟩) (k + 1) cap))) := by
  have hK : Keeps (fun q => nv.ownBlock = some q) w w2 := ((Keeps.refl _ _).alloc _).grown hg (fun q e _ => e)
  have hb : w2.heap[V]? = some (.cells #[nv, mv, lv] t (0, 0)) := by rw [hK.block _ (lt_of_block h.blk) h.neV.1]; exact h.blk
  rw [falses_snoc] at hw
  refine ⟨by rw [cell_of_blk hb]; rfl, by rw [cell_of_blk hb]; rfl, by rw [cell_of_blk hb]; rfl, frozen_of_blk hb _, frozen_of_blk hb _, frozen_of_blk hb _, h.grow0 hK (by rw [List.length_replicate]; exact hw) (fun q e => ?_)⟩
  simp [Value.ownBlock] at e
  rcases hat with h5 | h5
  · left; rw [h5, e]
  · right; omega
theorem Tri.app1 (h : Tri w B t V nv mv lv b (List.replicate k false) c) (hw : w2.ownsRow B 4 1 (.slice (some ⟨g, 0, none⟩) (k + 1) cap) (k + 1) (bl (List.replicate k false) ++ [.bool false])) (hg : (w.alloc ob).grownBy w2 mv.ownBlock) (hat : mv.ownBlock = some g ∨ g = w.heap.size + 1) :
    Grew w w2 B t V nv mv lv 1 (Tri (w2.setCell ⟨V, 1, none⟩ (.slice (some ⟨g, 0, none⟩) (k + 1) cap)) B t V nv (.slice (some ⟨g, 0, none⟩) (k + 1) cap) lv b (List.replicate (k + 1) false) c ∧ Keeps (triHas V nv mv lv) w (w2.setCell ⟨V, 1, none⟩ (.slice (some ⟨g, 0, none⟩) (k + 1) cap))) := by
  have hK : Keeps (fun q => mv.ownBlock = some q) w w2 := ((Keeps.refl _ _).alloc _).grown hg (fun q e _ => e)
  have hb : w2.heap[V]? = some (.cells #[nv, mv, lv] t (0, 0)) := by rw [hK.block _ (lt_of_block h.blk) h.neV.2.1]; exact h.blk
  rw [falses_snoc] at hw
  refine ⟨by rw [cell_of_blk hb]; rfl, by rw [cell_of_blk hb]; rfl, by rw [cell_of_blk hb]; rfl, frozen_of_blk hb _, frozen_of_blk hb _, frozen_of_blk hb _, h.grow1 hK (by rw [List.length_replicate]; exact hw) (fun q e => ?_)⟩
  simp [Value.ownBlock] at e
  rcases hat with h5 | h5
  · left; rw [h5, e]
  · right; omega
theorem Tri.app2 (h : Tri w B t V nv mv lv b c (List.replicate k false)) (hw : w2.ownsRow B 4 1 (.slice (some ⟨g, 0, none⟩) (k + 1) cap) (k + 1) (bl (List.replicate k false) ++ [.bool false])) (hg : (w.alloc ob).grownBy w2 lv.ownBlock) (hat : lv.ownBlock = some g ∨ g = w.heap.size + 1) :
    Grew w w2 B t V nv mv lv 2 (Tri (w2.setCell ⟨V, 2, none⟩ (.slice (some ⟨g, 0, none⟩) (k + 1) cap)) B t V nv mv (.slice (some ⟨g, 0, none⟩) (k + 1) cap) b c (List.replicate (k + 1) false) ∧ Keeps (triHas V nv mv lv) w (w2.setCell ⟨V, 2, none⟩ (.slice (some ⟨g, 0, none⟩) (k + 1) cap))) := by
  have hK : Keeps (fun q => lv.ownBlock = some q) w w2 := ((Keeps.refl _ _).alloc _).grown hg (fun q e _ => e)
  have hb : w2.heap[V]? = some (.cells #[nv, mv, lv] t (0, 0)) := by rw [hK.block _ (lt_of_block h.blk) h.neV.2.2]; exact h.blk
  rw [falses_snoc] at hw
  refine ⟨by rw [cell_of_blk hb]; rfl, by rw [cell_of_blk hb]; rfl, by rw [cell_of_blk hb]; rfl, frozen_of_blk hb _, frozen_of_blk hb _, frozen_of_blk hb _, h.grow2 hK (by rw [List.length_replicate]; exact hw) (fun q e => ?_)⟩
  simp [Value.ownBlock] at e
  rcases hat with h5 | h5
  · left; rw [h5, e]
  · right; omega
theorem Tri.row0 (h : Tri w B t V nv mv lv (List.replicate k false) b c) : w.ownsRow B 4 1 nv k (bl (List.replicate k false)) := by have := h.r1; rwa [List.length_replicate] at this
theorem Tri.row1 (h : Tri w B t V nv mv lv b (List.replicate k false) c) : w.ownsRow B 4 1 mv k (bl (List.replicate k false)) := by have := h.r2; rwa [List.length_replicate] at this
theorem Tri.row2 (h : Tri w B t V nv mv lv b c (List.replicate k false)) : w.ownsRow B 4 1 lv k (bl (List.replicate k false)) := by have := h.r3; rwa [List.length_replicate] at this
end

theorem news_set (w2 : World) (V o : Nat) (v : Value) : ∀ j u, [Value.bool false][j]? = some u → ((w2.setCell ⟨V, o, none⟩ v).alloc (.cells #[.bool false] 4)).cell? ((⟨w2.heap.size, 0, none⟩ : Addr).add j) = some u := by
  have h := World.news_of_block (cs := #[.bool false]) (t := 4) (fr := (0, 0)) (heap_alloc_new (w2.setCell ⟨V, o, none⟩ v) (.cells #[.bool false] 4))
  rw [show (w2.setCell ⟨V, o, none⟩ v).heap.size = w2.heap.size by simp] at h
  exact h
theorem Tri.keepLo {w0 w w' : World} {B t V : Nat} {nv mv lv : Value} {a b c : List Bool} (h : Tri w B t V nv mv lv a b c) (hB : w0.heap.size ≤ B) (hk0 : Keeps (fun _ => False) w0 w) (hk : Keeps (triHas V nv mv lv) w w') : Keeps (fun _ => False) w0 w' :=
  hk0.then hk (fun i hi e => by have := h.has_lo i e; omega)

set_option maxRecDepth 100000 in
set_option maxHeartbeats 2000000 in
theorem rnew_yes (w : World) (n : Nat) (h1 : 1 ≤ n) (h2 : n ≤ 2048) :
    Calls Try.prog 28 #[.int .i64 n] w fun e w' => ∃ T : TR, e = .returned (.tuple #[.pointer (some ⟨T.V, 0, none⟩), .int .i64 0]) ∧ TriBk w' w.heap.size 73 T (newBk n) ∧ Keeps (fun _ => False) w w' := by
  obtain ⟨i0, hi, hz0, hz1, hz2⟩ := info_parts Try.info4
  have i1 : (1 : Int) ≤ (n : Int) := by omega
  have i2 : (n : Int) ≤ 2048 := by omega
  have HT1 := hide (tri_new3 w 73 w.heap.size (Nat.le_refl _) (by decide))
  have HK1 : Hid (Keeps (fun _ => False) w (w.alloc (.cells #[nil3, nil3, nil3] 73))) := (Keeps.refl _ _).alloc _
  obtain ⟨V, HV⟩ : ∃ V, Hid (w.heap.size = V) := ⟨_, rfl⟩
  go_enter Try.func28, Try.ntmps28
  go_wp2_with fail
  have HT1' : Hid (Tri (w.alloc (.cells #[nil3, nil3, nil3] 73)) w.heap.size 73 V nil3 nil3 nil3 [] [] []) := by
    have := unhide HT1
    rw [← unhide HV]
    exact this
  rw [unhide HV]
  go_loopw [5] (fun i wr => ∃ k : Nat, k ≤ n ∧ i = .int .i64 k ∧ Keeps (fun _ => False) w wr ∧ ∃ nv mv lv, Tri wr w.heap.size 73 V nv mv lv (List.replicate k false) (List.replicate k false) (List.replicate k false)) (fun i _ => n - (intOf i).toNat)
  case atStart => exact ⟨0, Nat.zero_le _, rfl, unhide HK1, nil3, nil3, nil3, unhide HT1'⟩
  case round =>
    obtain ⟨k, hk, rfl, hK, nv, mv, lv, hT⟩ := hrel
    have HK := hide hK
    have HT := hide hT
    clear hK hT
    by_cases hlt : k < n
    · have c0 := (unhide HT).c0
      go_wp2_with (at_builtin; first
        | (clear mark1; refine wpList_append_lies _ rfl _ _ _ rfl w.heap.size 4 i0 _ 1 1 Try.underlying71 hi hz0 hz1 hz2 rfl (by omega) mv k (bl (List.replicate k false)) rfl ((unhide TA).row1.alloc _) ⟨w2.heap.size, 0, none⟩ 1 1 [.bool false] rfl rfl (news_set w2 V 0 _) (by simp [Value.oneCell']) (by omega) (by unfold maxLen; omega) (by omega) (Nat.le_trans (unhide KA).size (by simp)) _ rfl ?_; intro g2 cap2 w3 hown1 hgrow hat hlt1; have GR := (unhide TA).app1 hown1 hgrow (by simpa using hat); have e0 := GR.cell0; have e1 := GR.cell1; have e2 := GR.cell2; have e3 := GR.fz1; have e4 := GR.fz2; have TB := hide GR.done.1; have KB := hide ((unhide TA).keepLo (Nat.le_refl _) (unhide KA) GR.done.2); clear hown1 hgrow hat GR; have mark2 : True := trivial)
        | (clear mark2; refine wpList_append_lies _ rfl _ _ _ rfl w.heap.size 4 i0 _ 1 1 Try.underlying71 hi hz0 hz1 hz2 rfl (by omega) lv k (bl (List.replicate k false)) rfl ((unhide TB).row2.alloc _) ⟨w3.heap.size, 0, none⟩ 1 1 [.bool false] rfl rfl (news_set w3 V 1 _) (by simp [Value.oneCell']) (by omega) (by unfold maxLen; omega) (by omega) (Nat.le_trans (unhide KB).size (by simp)) _ rfl ?_; intro g3 cap3 w4 hown1 hgrow hat hlt1; have GR := (unhide TB).app2 hown1 hgrow (by simpa using hat); have e5 := GR.cell0; have e6 := GR.cell1; have e7 := GR.cell2; have e8 := GR.fz2; have TC := hide GR.done.1; have KC := hide ((unhide TB).keepLo (Nat.le_refl _) (unhide KB) GR.done.2); clear hown1 hgrow hat GR)
        | (refine wpList_append_lies _ rfl _ _ _ rfl w.heap.size 4 i0 _ 1 1 Try.underlying71 hi hz0 hz1 hz2 rfl (by omega) nv k (bl (List.replicate k false)) rfl ((unhide HT).row0.alloc _) ⟨wr.heap.size, 0, none⟩ 1 1 [.bool false] rfl rfl (World.news_of_block (cs := #[.bool false]) (t := 4) (fr := (0, 0)) (heap_alloc_new wr _)) (by simp [Value.oneCell']) (by omega) (by unfold maxLen; omega) (by omega) (by have := (unhide HK).size; simp; omega) _ rfl ?_; intro g cap w2 hown1 hgrow hat hlt1; have GR := (unhide HT).app0 hown1 hgrow (by simpa using hat); have d0 := GR.cell0; have d1 := GR.cell1; have d2 := GR.cell2; have d3 := GR.fz0; have d4 := GR.fz1; have d5 := GR.fz2; have TA := hide GR.done.1; have KA := hide ((unhide HT).keepLo (Nat.le_refl _) (unhide HK) GR.done.2); clear hown1 hgrow hat GR; have mark1 : True := trivial))
      go_roundw
      case rel => exact ⟨k + 1, by omega, by go_num, unhide KC, _, _, _, unhide TC⟩
      case measure => simp [intOf]; omega
    · obtain rfl : k = n := by omega
      have hln : (List.replicate k false).length = k := List.length_replicate
      have hT := unhide HT
      obtain ⟨g1, c1, rfl⟩ := row_form hT.r1 (by rw [hln]; exact h1)
      obtain ⟨g2, c2, rfl⟩ := row_form hT.r2 (by rw [hln]; exact h1)
      obtain ⟨g3, c3, rfl⟩ := row_form hT.r3 (by rw [hln]; exact h1)
      rw [hln] at hT
      have HTB : Hid (TriBk wr w.heap.size 73 ⟨V, g1, c1, g2, c2, g3, c3⟩ (newBk k)) := ⟨hT, hln, hln, hln, h1, h2⟩
      clear hT hln HT
      go_wp2
      go_ret2
      exact ⟨⟨V, g1, c1, g2, c2, g3, c3⟩, rfl, unhide HTB, unhide HK⟩


end Go.Proofs.Ytdkihkgmldnpmab
