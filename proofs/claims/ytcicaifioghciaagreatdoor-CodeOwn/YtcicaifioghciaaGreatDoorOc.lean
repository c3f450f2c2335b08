import Derived.Test.YtcicaifioghciaaGreatDoorOb
namespace Go.Proofs.YtcicaifioghciaaGreatDoor
open Go.RowKit Go.Maps

theorem vcs_setO : ∀ (L : List ValA) (i : Nat) (x : ValA), vcs (L.set i x) = (((vcs L).set (i * 3) (.int .i64 x.kind)).set (i * 3 + 1) (.int .i64 x.n)).set (i * 3 + 2) (str x.s)
  | [], i, x => by simp [vcs]
  | y :: r, 0, x => rfl
  | y :: r, i + 1, x => by
    have ih := vcs_setO r i x
    have e : ∀ (q : ValA) (z : List ValA), vcs (q :: z) = .int .i64 q.kind :: .int .i64 q.n :: str q.s :: vcs z := fun _ _ => rfl
    rw [List.set_cons_succ, e, e, ih, show (i + 1) * 3 = i * 3 + 1 + 1 + 1 by omega]
    simp [List.set_cons_succ]
/-- Three cells of a row are written. -/
theorem own_set3 {w : World} {B e g cap : Nat} {L : List ValA} (h : w.ownsRow B e 3 (.slice (some ⟨g, 0, none⟩) L.length cap) L.length (vcs L)) (i : Nat) (x : ValA) :
    (((w.setCell ⟨g, i * 3, none⟩ (.int .i64 x.kind)).setCell ⟨g, i * 3 + 1, none⟩ (.int .i64 x.n)).setCell ⟨g, i * 3 + 2, none⟩ (str x.s)).ownsRow B e 3 (.slice (some ⟨g, 0, none⟩) L.length cap) L.length (vcs (L.set i x)) := by
  rw [vcs_setO]
  exact (((h.stored (i * 3) (.int .i64 x.kind)).1.stored (i * 3 + 1) (.int .i64 x.n)).1.stored (i * 3 + 2) (str x.s)).1
def zV0 : ValA := ⟨0, 0, []⟩
theorem run_mkI (n : Nat) (hn : n ≤ 4398046511106) (w : World) : (Instr.makeSlice 25 (.int .i64 (n : Int)) (.int .i64 (n : Int))).run Tryz.prog w = .ok (.slice (some ⟨w.heap.size, 0, none⟩) n n) (w.alloc (.cells (madeCells #[.int .i64 0, .int .i64 0, .string ⟨#[]⟩] (n * 3)) 51)) := by
  obtain ⟨i0, hi, hz0, hz1, hz2⟩ := info_parts Tryz.info51
  have q := run_make (P := Tryz.prog) w 25 51 i0 (.agg #[.int .i64 0, .int .i64 0, .string ⟨#[]⟩]) Tryz.underlying25 hi hz0 .i64 .i64 (n : Int) (n : Int) (by omega) (by omega) (by rw [hz2]; omega) (by omega)
  rw [hz1] at q
  simpa [Value.cells] using q
theorem made_vcs : ∀ n : Nat, (madeCells #[Value.int .i64 0, .int .i64 0, .string ⟨#[]⟩] (n * 3)).toList = vcs (List.replicate n zV0) := by
  intro n
  apply List.ext_getElem?
  intro j
  by_cases hj : j < n * 3
  · have h3 : j % 3 < 3 := Nat.mod_lt _ (by decide)
    have hr : (List.replicate n zV0)[j / 3]? = some zV0 := by rw [List.getElem?_replicate, if_pos (by omega)]
    have hg : (vcs (List.replicate n zV0))[j / 3 * 3 + j % 3]? = zV0.cs[j % 3]? := flat_get ValA.cs (fun _ => rfl) _ _ _ (j % 3) hr h3
    rw [show j / 3 * 3 + j % 3 = j by omega] at hg
    rw [hg]
    simp only [madeCells, Array.toList_map, List.getElem?_map, Array.toList_range, List.getElem?_range hj, Option.map_some]
    rcases (by omega : j % 3 = 0 ∨ j % 3 = 1 ∨ j % 3 = 2) with h | h | h <;> simp [h] <;> rfl
  · rw [List.getElem?_eq_none (by rw [Array.length_toList, size_madeCells]; omega), List.getElem?_eq_none (by rw [vcs_length]; simp; omega)]

/-- The row while it is filled. -/
def rowM (l : List ValA) (k : Nat) : List ValA := l.take k ++ List.replicate (l.length + 2 - k) zV0
theorem rowM_len {l : List ValA} {k : Nat} (h : k ≤ l.length) : (rowM l k).length = l.length + 2 := by simp [rowM]; omega
theorem rowM_set {l : List ValA} {k : Nat} {x : ValA} (h : l[k]? = some x) : (rowM l k).set k x = rowM l (k + 1) := by
  have hk := (List.getElem?_eq_some_iff.1 h).1
  unfold rowM
  rw [show l.length + 2 - k = (l.length + 2 - (k + 1)) + 1 by omega, List.replicate_succ, take_snoc _ _ _ h, List.set_append_right _ _ (by simp; omega)]
  simp [Nat.min_eq_left (Nat.le_of_lt hk)]

theorem markM (l : List ValA) (m : Int) : ((rowM l l.length).set l.length ⟨m, 0, spareTx⟩).set (l.length + 1) ⟨m + 1, 0, []⟩ = markedL l m := by
  unfold rowM markedL
  rw [List.take_length, show l.length + 2 - l.length = 2 by omega]
  rw [List.set_append_right _ _ (by omega), List.set_append_right _ _ (by omega), Nat.sub_self, show l.length + 1 - l.length = 1 by omega]
  rfl

set_option maxRecDepth 100000 in
set_option maxHeartbeats 4000000 in
theorem marked_v (l : List ValA) (m : Int) (v : Value) (w : World) (h : ValsAt w v l) (hn : l.length + 2 ≤ 4398046511104) (m0 : -1000 ≤ m) (m1 : m ≤ 1000) :
    Calls Tryz.prog 4 #[v, .int .i64 m] w fun e w' => ∃ g, e = .returned (.slice (some ⟨g, 0, none⟩) (l.length + 2) (l.length + 2)) ∧ w.heap.size ≤ g ∧ w'.ownsRow w.heap.size 51 3 (.slice (some ⟨g, 0, none⟩) (l.length + 2) (l.length + 2)) (l.length + 2) (vcs (markedL l m)) ∧ Keeps (fun _ => False) w w' := by
  obtain ⟨ao, cap, rfl⟩ := RowAt.form h
  have hmk := run_mkI (l.length + 2) (by omega)
  simp only [show ((l.length + 2 : Nat) : Int) = (l.length : Int) + 2 by omega] at hmk
  have ho := World.ownsRow_lit (base := w.heap.size) (e := 51) (size := 3) w (madeCells #[.int .i64 0, .int .i64 0, .string ⟨#[]⟩] ((l.length + 2) * 3)) (l.length + 2) (Nat.le_refl _) (by unfold maxLen; omega) (by rw [size_madeCells])
  rw [made_vcs] at ho
  have HO0 : Hid ((w.alloc (.cells (madeCells #[.int .i64 0, .int .i64 0, .string ⟨#[]⟩] ((l.length + 2) * 3)) 51)).ownsRow w.heap.size 51 3 (.slice (some ⟨w.heap.size, 0, none⟩) (l.length + 2) (l.length + 2)) (l.length + 2) (vcs (rowM l 0))) := by
    show World.ownsRow _ _ _ _ _ _ _
    simpa [rowM] using ho
  have HK0 := hide ((Keeps.refl (fun _ => False) w).alloc (.cells (madeCells #[.int .i64 0, .int .i64 0, .string ⟨#[]⟩] ((l.length + 2) * 3)) 51))
  have HL := hide h
  clear ho h
  go_enter Tryz.func4, Tryz.ntmps4
  go_wp2_with fail
  clear hmk
  generalize w.alloc (.cells (madeCells #[.int .i64 0, .int .i64 0, .string ⟨#[]⟩] ((l.length + 2) * 3)) 51) = W0 at *
  go_loopw [6] (fun i wr => ∃ k : Nat, k ≤ l.length ∧ i = .int .i64 (k : Int) ∧ Hid (wr.ownsRow w.heap.size 51 3 (.slice (some ⟨w.heap.size, 0, none⟩) (l.length + 2) (l.length + 2)) (l.length + 2) (vcs (rowM l k))) ∧ Hid (Keeps (fun _ => False) w wr)) (fun i _ => l.length - (intOf i).toNat)
  case atStart => exact ⟨0, Nat.zero_le _, rfl, HO0, HK0⟩
  case round =>
    obtain ⟨k, hk, rfl, HO, HK⟩ := hrel
    by_cases hlt : k < l.length
    · obtain ⟨x, hx⟩ : ∃ x, l[k]? = some x := ⟨_, List.getElem?_eq_getElem hlt⟩
      obtain ⟨b, off, cap', e, hb, hc⟩ := (unhide HL).cells (by omega)
      simp only [Value.slice.injEq] at e
      obtain ⟨rfl, _, rfl⟩ := e
      obtain ⟨y0, y1, y2⟩ := hc k x hx
      have y0 := ((unhide HK).cell hb id).trans y0
      have y1 := ((unhide HK).cell hb id).trans y1
      have y2 := ((unhide HK).cell hb id).trans y2
      have hro := unhide HO
      have f0 := hro.frozenAt (k * 3)
      have f1 := hro.frozenAt (k * 3 + 1)
      have f2 := hro.frozenAt (k * 3 + 2)
      have hlen : (vcs (rowM l k)).length = (l.length + 2) * 3 := by rw [vcs_length, rowM_len hk]
      obtain ⟨d0, z0⟩ : ∃ dd, wr.cell? ⟨w.heap.size, k * 3, none⟩ = some dd := ⟨_, (hro.cellAt (k * 3) (by omega)).trans (List.getElem?_eq_getElem (by omega))⟩
      obtain ⟨d1, z1⟩ : ∃ dd, wr.cell? ⟨w.heap.size, k * 3 + 1, none⟩ = some dd := ⟨_, (hro.cellAt (k * 3 + 1) (by omega)).trans (List.getElem?_eq_getElem (by omega))⟩
      obtain ⟨d2, z2⟩ : ∃ dd, wr.cell? ⟨w.heap.size, k * 3 + 2, none⟩ = some dd := ⟨_, (hro.cellAt (k * 3 + 2) (by omega)).trans (List.getElem?_eq_getElem (by omega))⟩
      have HN : Hid ((((wr.setCell ⟨w.heap.size, k * 3, none⟩ (.int .i64 x.kind)).setCell ⟨w.heap.size, k * 3 + 1, none⟩ (.int .i64 x.n)).setCell ⟨w.heap.size, k * 3 + 2, none⟩ (str x.s)).ownsRow w.heap.size 51 3 (.slice (some ⟨w.heap.size, 0, none⟩) (l.length + 2) (l.length + 2)) (l.length + 2) (vcs (rowM l (k + 1)))) := by
        show World.ownsRow _ _ _ _ _ _ _
        rw [← rowM_set hx, ← rowM_len hk]
        rw [← rowM_len hk] at hro
        exact own_set3 hro k x
      have HKN := hide (((narrowO (narrowO (narrowO (unhide HK) (keeps_set wr w.heap.size (k * 3) (.int .i64 x.kind)) (fun q e => by omega)) (keeps_set _ w.heap.size (k * 3 + 1) (.int .i64 x.n)) (fun q e => by omega)) (keeps_set _ w.heap.size (k * 3 + 2) (str x.s)) (fun q e => by omega))))
      have i1 : (k : Int) < (l.length : Int) := by omega
      have i2 : (0 : Int) ≤ (k : Int) := by omega
      have i3 : (k : Int) < (l.length : Int) + 2 := by omega
      clear hro hc hx hlen HO HK
      go_wp2_with fail
      go_roundw
      case rel => exact ⟨k + 1, by omega, by go_num, HN, HKN⟩
      case measure => simp [intOf]; omega
    · obtain rfl : k = l.length := by omega
      have i1 : ¬ (l.length : Int) < (l.length : Int) := by omega
      have hro := unhide HO
      have f0 := hro.frozenAt (l.length * 3)
      have f1 := hro.frozenAt (l.length * 3 + 1)
      have f2 := hro.frozenAt (l.length * 3 + 2)
      have hlen : (vcs (rowM l l.length)).length = (l.length + 2) * 3 := by rw [vcs_length, rowM_len (Nat.le_refl _)]
      obtain ⟨d0, z0⟩ : ∃ dd, wr.cell? ⟨w.heap.size, l.length * 3, none⟩ = some dd := ⟨_, (hro.cellAt (l.length * 3) (by omega)).trans (List.getElem?_eq_getElem (by omega))⟩
      obtain ⟨d1, z1⟩ : ∃ dd, wr.cell? ⟨w.heap.size, l.length * 3 + 1, none⟩ = some dd := ⟨_, (hro.cellAt (l.length * 3 + 1) (by omega)).trans (List.getElem?_eq_getElem (by omega))⟩
      obtain ⟨d2, z2⟩ : ∃ dd, wr.cell? ⟨w.heap.size, l.length * 3 + 2, none⟩ = some dd := ⟨_, (hro.cellAt (l.length * 3 + 2) (by omega)).trans (List.getElem?_eq_getElem (by omega))⟩
      have hr1 : (((wr.setCell ⟨w.heap.size, l.length * 3, none⟩ (.int .i64 m)).setCell ⟨w.heap.size, l.length * 3 + 1, none⟩ (.int .i64 0)).setCell ⟨w.heap.size, l.length * 3 + 2, none⟩ (.string ⟨#[115, 112, 97, 114, 101]⟩)).ownsRow w.heap.size 51 3 (.slice (some ⟨w.heap.size, 0, none⟩) (l.length + 2) (l.length + 2)) (l.length + 2) (vcs ((rowM l l.length).set l.length ⟨m, 0, spareTx⟩)) := by
        rw [← rowM_len (Nat.le_refl l.length)]
        rw [← rowM_len (Nat.le_refl l.length)] at hro
        exact own_set3 hro l.length ⟨m, 0, spareTx⟩
      have hlen1 : (vcs ((rowM l l.length).set l.length ⟨m, 0, spareTx⟩)).length = (l.length + 2) * 3 := by rw [vcs_length, List.length_set, rowM_len (Nat.le_refl _)]
      have g0 := hr1.frozenAt ((l.length + 1) * 3)
      have g1 := hr1.frozenAt ((l.length + 1) * 3 + 1)
      have g2 := hr1.frozenAt ((l.length + 1) * 3 + 2)
      obtain ⟨e0, y0⟩ : ∃ dd, (((wr.setCell ⟨w.heap.size, l.length * 3, none⟩ (.int .i64 m)).setCell ⟨w.heap.size, l.length * 3 + 1, none⟩ (.int .i64 0)).setCell ⟨w.heap.size, l.length * 3 + 2, none⟩ (.string ⟨#[115, 112, 97, 114, 101]⟩)).cell? ⟨w.heap.size, (l.length + 1) * 3, none⟩ = some dd := ⟨_, (hr1.cellAt ((l.length + 1) * 3) (by omega)).trans (List.getElem?_eq_getElem (by omega))⟩
      obtain ⟨e1, y1⟩ : ∃ dd, (((wr.setCell ⟨w.heap.size, l.length * 3, none⟩ (.int .i64 m)).setCell ⟨w.heap.size, l.length * 3 + 1, none⟩ (.int .i64 0)).setCell ⟨w.heap.size, l.length * 3 + 2, none⟩ (.string ⟨#[115, 112, 97, 114, 101]⟩)).cell? ⟨w.heap.size, (l.length + 1) * 3 + 1, none⟩ = some dd := ⟨_, (hr1.cellAt ((l.length + 1) * 3 + 1) (by omega)).trans (List.getElem?_eq_getElem (by omega))⟩
      obtain ⟨e2, y2⟩ : ∃ dd, (((wr.setCell ⟨w.heap.size, l.length * 3, none⟩ (.int .i64 m)).setCell ⟨w.heap.size, l.length * 3 + 1, none⟩ (.int .i64 0)).setCell ⟨w.heap.size, l.length * 3 + 2, none⟩ (.string ⟨#[115, 112, 97, 114, 101]⟩)).cell? ⟨w.heap.size, (l.length + 1) * 3 + 2, none⟩ = some dd := ⟨_, (hr1.cellAt ((l.length + 1) * 3 + 2) (by omega)).trans (List.getElem?_eq_getElem (by omega))⟩
      have i3 : (l.length : Int) < (l.length : Int) + 2 := by omega
      have i4 : (0 : Int) ≤ (l.length : Int) + 1 := by omega
      have i5 : (l.length : Int) + 1 < (l.length : Int) + 2 := by omega
      have i6 : (0 : Int) ≤ (l.length : Int) := by omega
      have HR1 := hide hr1
      have HK1 := hide (((narrowO (narrowO (narrowO (unhide HK) (keeps_set wr w.heap.size (l.length * 3) (.int .i64 m)) (fun q e => by omega)) (keeps_set _ w.heap.size (l.length * 3 + 1) (.int .i64 0)) (fun q e => by omega)) (keeps_set _ w.heap.size (l.length * 3 + 2) (.string ⟨#[115, 112, 97, 114, 101]⟩)) (fun q e => by omega))))
      clear hro hr1 hlen hlen1
      go_wp2_with fail
      go_ret
      refine ⟨w.heap.size, rfl, Nat.le_refl _, ?_, ?_⟩
      · have hr := unhide HR1
        have hl2 : ((rowM l l.length).set l.length ⟨m, 0, spareTx⟩).length = l.length + 2 := by rw [List.length_set, rowM_len (Nat.le_refl _)]
        rw [← markM, ← hl2]
        rw [← hl2] at hr
        exact own_set3 hr (l.length + 1) ⟨m + 1, 0, []⟩
      · exact narrowO (narrowO (narrowO (unhide HK1) (keeps_set _ w.heap.size ((l.length + 1) * 3) (.int .i64 (m + 1))) (fun q e => by omega)) (keeps_set _ w.heap.size ((l.length + 1) * 3 + 1) (.int .i64 0)) (fun q e => by omega)) (keeps_set _ w.heap.size ((l.length + 1) * 3 + 2) (.string ⟨#[]⟩)) (fun q e => by omega)
end Go.Proofs.YtcicaifioghciaaGreatDoor
