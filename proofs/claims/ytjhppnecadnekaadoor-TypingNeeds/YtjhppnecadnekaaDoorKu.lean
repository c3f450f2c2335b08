import Derived.Test.YtjhppnecadnekaaDoorJg
import Derived.Test.YtjhppnecadnekaaDoorJu
namespace Go.Proofs.YtjhppnecadnekaaDoor
open Go.RowKit Go.Maps

theorem refField_none (S : List FieldA) (sv : Value) (nm : Txt) (w : World) (h : FldsAt w sv S) (hl : S.length ≤ 8) (hfo : fieldOf S nm = none) :
    Calls Tryd.prog 53 #[.agg #[sv], str nm] w fun e w' => e = .returned (.int .i64 (-1)) ∧ Keeps (fun _ => False) w w' :=
  (refField_v S sv nm w h hl).mono fun e w2 ⟨⟨i, he, hi⟩, hk⟩ => by
    rcases hi with ⟨_, rfl⟩ | ⟨_, _, _, h2, _⟩
    · exact ⟨he, hk⟩
    · rw [hfo] at h2; cases h2
theorem refField_some (S : List FieldA) (sv : Value) (nm : Txt) (w : World) (h : FldsAt w sv S) (hl : S.length ≤ 8) (f : FieldA) (hfo : fieldOf S nm = some f) :
    Calls Tryd.prog 53 #[.agg #[sv], str nm] w fun e w' => (∃ k : Nat, S[k]? = some f ∧ e = .returned (.int .i64 (k : Int))) ∧ Keeps (fun _ => False) w w' :=
  (refField_v S sv nm w h hl).mono fun e w2 ⟨⟨i, he, hi⟩, hk⟩ => by
    rcases hi with ⟨h2, _⟩ | ⟨k, g, h1, h2, rfl⟩
    · rw [hfo] at h2; cases h2
    · rw [hfo] at h2
      obtain rfl := Option.some.inj h2
      exact ⟨⟨k, h1, he⟩, hk⟩
/-- What the reference says of a field, or of has. -/
def refNamed (S : List FieldA) (op : Int) (s : Txt) : KA × Int := zeroK (if op = 4 then namedK S s else hasK S s)
set_option maxRecDepth 100000 in
set_option maxHeartbeats 2000000 in
theorem refF_v (S : List FieldA) (sv : Value) (op n : Int) (s : Txt) (ao : Option Addr) (xn xc : Nat) (w : World) (h : FldsAt w sv S) (hl : S.length ≤ 8) :
    Calls Tryd.prog 73 #[.agg #[sv], exV op n s (.slice ao xn xc)] w fun e w' => e = .returned (refV (refNamed S op s)) ∧ Keeps (fun _ => False) w w' := by
  obtain ⟨so, sc, rfl⟩ := RowAt.form h
  have HK0 : Hid (Keeps (fun _ => False) w (((w.alloc (.cells #[.slice so S.length sc] 24)).alloc (.cells #[.int .i64 op, .int .i64 n, str s, .slice ao xn xc] 78)).alloc (.cells #[.int .i64 0, .bool false, .int .i64 0] 83))) := (((Keeps.refl _ w).alloc _).alloc _).alloc _
  have e1 : (w.alloc (.cells #[.slice so S.length sc] 24)).heap.size = w.heap.size + 1 := by simp
  have e2 : ((w.alloc (.cells #[.slice so S.length sc] 24)).alloc (.cells #[.int .i64 op, .int .i64 n, str s, .slice ao xn xc] 78)).heap.size = w.heap.size + 2 := by simp
  have hb0 : (((w.alloc (.cells #[.slice so S.length sc] 24)).alloc (.cells #[.int .i64 op, .int .i64 n, str s, .slice ao xn xc] 78)).alloc (.cells #[.int .i64 0, .bool false, .int .i64 0] 83)).heap[w.heap.size]? = some (.cells #[.slice so S.length sc] 24 (0, 0)) := ((((Keeps.refl (fun _ => False) _).alloc _).alloc _).block _ (by rw [e1]; omega) id).trans (heap_alloc_new w _)
  have hb1 : (((w.alloc (.cells #[.slice so S.length sc] 24)).alloc (.cells #[.int .i64 op, .int .i64 n, str s, .slice ao xn xc] 78)).alloc (.cells #[.int .i64 0, .bool false, .int .i64 0] 83)).heap[w.heap.size + 1]? = some (.cells #[.int .i64 op, .int .i64 n, str s, .slice ao xn xc] 78 (0, 0)) := by
    have := heap_alloc_new (w.alloc (.cells #[.slice so S.length sc] 24)) (.cells #[.int .i64 op, .int .i64 n, str s, .slice ao xn xc] 78)
    rw [e1] at this
    exact (((Keeps.refl (fun _ => False) _).alloc _).block _ (by rw [e2]; omega) id).trans this
  have hb2 : (((w.alloc (.cells #[.slice so S.length sc] 24)).alloc (.cells #[.int .i64 op, .int .i64 n, str s, .slice ao xn xc] 78)).alloc (.cells #[.int .i64 0, .bool false, .int .i64 0] 83)).heap[w.heap.size + 2]? = some (.cells #[.int .i64 0, .bool false, .int .i64 0] 83 (0, 0)) := by
    have := heap_alloc_new ((w.alloc (.cells #[.slice so S.length sc] 24)).alloc (.cells #[.int .i64 op, .int .i64 n, str s, .slice ao xn xc] 78)) (.cells #[.int .i64 0, .bool false, .int .i64 0] 83)
    rw [e2] at this
    exact this
  have HC := fun w' (hk : Keeps (fun _ => False) w w') => hide (refField_v S (.slice so S.length sc) s w' (h.keepF hk) hl)
  have HF := hide h
  have B0 := hide hb0
  have B1 := hide hb1
  have B2 := hide hb2
  clear h hb0 hb1 hb2 e1 e2
  have done : ∀ (w1 w2 : World) (x : Array Value), Keeps (fun _ => False) w w1 → w1.heap[w.heap.size + 2]? = some (.cells x 83 (0, 0)) → x.size = 3 → ∀ (p q r : Value), let w3 := ((w1.setCell ⟨w.heap.size + 2, 0, none⟩ p).setCell ⟨w.heap.size + 2, 1, none⟩ q).setCell ⟨w.heap.size + 2, 2, none⟩ r
      w3.cell? ⟨w.heap.size + 2, 0, none⟩ = some p ∧ w3.cell? ⟨w.heap.size + 2, 1, none⟩ = some q ∧ w3.cell? ⟨w.heap.size + 2, 2, none⟩ = some r ∧ Keeps (fun _ => False) w w3 := by
    intro w1 _ x hk hx hs p q r w3
    have hb := heap_setCell_at (o := 2) (heap_setCell_at (o := 1) (heap_setCell_at (o := 0) hx p) q) r
    have hks : Keeps (fun t => t = w.heap.size + 2) w1 w3 := ((keeps_set _ _ _ _).trans (keeps_set _ _ _ _)).trans (keeps_set _ _ _ _)
    refine ⟨?_, ?_, ?_, hk.narrow hks (fun t e => by omega)⟩
    all_goals (rw [cell_of_blk hb]; simp [hs])
  have HD := hide done
  clear done
  cases hfo : fieldOf S s with
  | none =>
    have HR : Hid (refNamed S op s = (⟨0, false⟩, 90)) := by
      show _ = _
      unfold refNamed hasK namedK
      rw [hfo]
      split <;> rfl
    have HC1 := fun w' (hk : Keeps (fun _ => False) w w') => hide (refField_none S (.slice so S.length sc) s w' ((unhide HF).keepF hk) hl hfo)
    clear HC hfo
    go_enter Tryd.func73, Tryd.ntmps73
    go_wp2_with (go_at_call 53; refine (unhide (HC1 _ (unhide HK0))).mono ?_; rintro e w1 ⟨rfl, hk1⟩; have k0 := (hk1.block _ (lt_of_block (unhide B0)) id).trans (unhide B0); have k1 := (hk1.block _ (lt_of_block (unhide B1)) id).trans (unhide B1); have k2 := (hk1.block _ (lt_of_block (unhide B2)) id).trans (unhide B2); have p0 := cell_of_blk k0 0; have p1 := cell_of_blk k1 0; have m0 := cell_of_blk k2 0; have m1 := cell_of_blk k2 1; have m2 := cell_of_blk k2 2; simp at p0 p1 m0 m1 m2; have g0 := frozen_of_blk k2 0; have g1 := frozen_of_blk k2 1; have g2 := frozen_of_blk k2 2; have HK1 := hide ((unhide HK0).trans hk1); have K2 := hide k2; clear hk1 k0 k1 k2)
    obtain ⟨s0, s1, s2, hkf⟩ := unhide HD _ w1 _ (unhide HK1) (unhide K2) rfl (.int .i64 0) (.bool false) (.int .i64 90)
    refine bodyPost_ret (v := refV (⟨0, false⟩, 90)) (by simp [results, go_sem, s0, s1, s2]) rfl ?_
    exact ⟨by rw [unhide HR], hkf⟩
  | some f =>
    obtain ⟨fname, ftype, fopt⟩ := f
    have hpos : 0 < S.length := List.length_pos_of_mem (List.mem_of_find?_eq_some hfo)
    obtain ⟨b, off, c, e, hbl, hc⟩ := (unhide HF).cells hpos
    simp at e
    obtain ⟨rfl, rfl⟩ := e
    have HCC := hide hc
    clear hc
    have HC1 := fun w' (hk : Keeps (fun _ => False) w w') => hide (refField_some S _ s w' ((unhide HF).keepF hk) hl ⟨fname, ftype, fopt⟩ hfo)
    clear HC
    by_cases h4 : op = 4
    · have HR : Hid (refNamed S op s = (⟨ftype, fopt⟩, 0)) := by
        show _ = _
        unfold refNamed namedK
        rw [if_pos h4, hfo]
        rfl
      subst h4
      clear hfo
      go_enter Tryd.func73, Tryd.ntmps73
      go_wp2_with (go_at_call 53; refine (unhide (HC1 _ (unhide HK0))).mono ?_; rintro e w1 ⟨⟨k, hkf, rfl⟩, hk1⟩; have hkl := (List.getElem?_eq_some_iff.1 hkf).1; have i1 : (k : Int) < (S.length : Int) := (by omega); have i0 : (0 : Int) ≤ (k : Int) := (by omega); have i2 : ¬ (k : Int) < 0 := (by omega); have hkw := (unhide HK0).trans hk1; have f0 := (hkw.cell hbl id).trans (unhide HCC k _ hkf).1; have f1 := (hkw.cell hbl id).trans (unhide HCC k _ hkf).2.1; have f2 := (hkw.cell hbl id).trans (unhide HCC k _ hkf).2.2; have k0 := (hk1.block _ (lt_of_block (unhide B0)) id).trans (unhide B0); have p0 : World.cell? _ _ = some (Value.slice (some ⟨b, off, none⟩) S.length sc) := cell_of_blk k0 0; have ka := hk1.trans ((Keeps.refl (fun _ => False) w1).alloc (.cells #[str fname, .int .i64 ftype, .bool fopt] 45)); have k2 := (ka.block _ (lt_of_block (unhide B2)) id).trans (unhide B2); have k1 := (ka.block _ (lt_of_block (unhide B1)) id).trans (unhide B1); have p1 : World.cell? _ _ = some (Value.int .i64 4) := cell_of_blk k1 0; have m0 : World.cell? _ _ = some (Value.int .i64 0) := cell_of_blk k2 0; have m1 : World.cell? _ _ = some (Value.bool false) := cell_of_blk k2 1; have m2 : World.cell? _ _ = some (Value.int .i64 0) := cell_of_blk k2 2; have g0 := frozen_of_blk k2 0; have g1 := frozen_of_blk k2 1; have g2 := frozen_of_blk k2 2; have HK1 := hide ((unhide HK0).trans ka); have K2 := hide k2; clear hk1 k0 k1 k2 ka hkf hkw)
      obtain ⟨s0, s1, s2, hkf⟩ := unhide HD _ w1 _ (unhide HK1) (unhide K2) rfl (.int .i64 ftype) (.bool fopt) (.int .i64 0)
      refine bodyPost_ret (v := refV (⟨ftype, fopt⟩, 0)) (by simp [results, go_sem, s0, s1, s2]) rfl ?_
      exact ⟨by rw [unhide HR], hkf⟩
    · have d4 : (op == 4) = false := by simpa using h4
      cases fopt with
      | false =>
        have HR : Hid (refNamed S op s = (⟨0, false⟩, 92)) := by
          show _ = _
          unfold refNamed hasK namedK
          rw [if_neg h4, hfo]
          simp [zeroK, orI, optI]
        clear hfo h4
        go_enter Tryd.func73, Tryd.ntmps73
        go_wp2_with (go_at_call 53; refine (unhide (HC1 _ (unhide HK0))).mono ?_; rintro e w1 ⟨⟨k, hkf, rfl⟩, hk1⟩; have hkl := (List.getElem?_eq_some_iff.1 hkf).1; have i1 : (k : Int) < (S.length : Int) := (by omega); have i0 : (0 : Int) ≤ (k : Int) := (by omega); have i2 : ¬ (k : Int) < 0 := (by omega); have hkw := (unhide HK0).trans hk1; have f0 := (hkw.cell hbl id).trans (unhide HCC k _ hkf).1; have f1 := (hkw.cell hbl id).trans (unhide HCC k _ hkf).2.1; have f2 := (hkw.cell hbl id).trans (unhide HCC k _ hkf).2.2; have k0 := (hk1.block _ (lt_of_block (unhide B0)) id).trans (unhide B0); have p0 : World.cell? _ _ = some (Value.slice (some ⟨b, off, none⟩) S.length sc) := cell_of_blk k0 0; have ka := hk1.trans ((Keeps.refl (fun _ => False) w1).alloc (.cells #[str fname, .int .i64 ftype, .bool false] 45)); have k2 := (ka.block _ (lt_of_block (unhide B2)) id).trans (unhide B2); have k1 := (ka.block _ (lt_of_block (unhide B1)) id).trans (unhide B1); have p1 : World.cell? _ _ = some (Value.int .i64 op) := cell_of_blk k1 0; have m0 : World.cell? _ _ = some (Value.int .i64 0) := cell_of_blk k2 0; have m1 : World.cell? _ _ = some (Value.bool false) := cell_of_blk k2 1; have m2 : World.cell? _ _ = some (Value.int .i64 0) := cell_of_blk k2 2; have g0 := frozen_of_blk k2 0; have g1 := frozen_of_blk k2 1; have g2 := frozen_of_blk k2 2; have HK1 := hide ((unhide HK0).trans ka); have K2 := hide k2; clear hk1 k0 k1 k2 ka hkf hkw)
        obtain ⟨s0, s1, s2, hkf⟩ := unhide HD _ w1 _ (unhide HK1) (unhide K2) rfl (.int .i64 0) (.bool false) (.int .i64 92)
        refine bodyPost_ret (v := refV (⟨0, false⟩, 92)) (by simp [results, go_sem, s0, s1, s2]) rfl ?_
        exact ⟨by rw [unhide HR], hkf⟩
      | true =>
        have HR : Hid (refNamed S op s = (⟨2, false⟩, 0)) := by
          show _ = _
          unfold refNamed hasK namedK
          rw [if_neg h4, hfo]
          simp [zeroK, orI, optI]
        clear hfo h4
        go_enter Tryd.func73, Tryd.ntmps73
        go_wp2_with (go_at_call 53; refine (unhide (HC1 _ (unhide HK0))).mono ?_; rintro e w1 ⟨⟨k, hkf, rfl⟩, hk1⟩; have hkl := (List.getElem?_eq_some_iff.1 hkf).1; have i1 : (k : Int) < (S.length : Int) := (by omega); have i0 : (0 : Int) ≤ (k : Int) := (by omega); have i2 : ¬ (k : Int) < 0 := (by omega); have hkw := (unhide HK0).trans hk1; have f0 := (hkw.cell hbl id).trans (unhide HCC k _ hkf).1; have f1 := (hkw.cell hbl id).trans (unhide HCC k _ hkf).2.1; have f2 := (hkw.cell hbl id).trans (unhide HCC k _ hkf).2.2; have k0 := (hk1.block _ (lt_of_block (unhide B0)) id).trans (unhide B0); have p0 : World.cell? _ _ = some (Value.slice (some ⟨b, off, none⟩) S.length sc) := cell_of_blk k0 0; have ka := hk1.trans ((Keeps.refl (fun _ => False) w1).alloc (.cells #[str fname, .int .i64 ftype, .bool true] 45)); have k2 := (ka.block _ (lt_of_block (unhide B2)) id).trans (unhide B2); have k1 := (ka.block _ (lt_of_block (unhide B1)) id).trans (unhide B1); have p1 : World.cell? _ _ = some (Value.int .i64 op) := cell_of_blk k1 0; have m0 : World.cell? _ _ = some (Value.int .i64 0) := cell_of_blk k2 0; have m1 : World.cell? _ _ = some (Value.bool false) := cell_of_blk k2 1; have m2 : World.cell? _ _ = some (Value.int .i64 0) := cell_of_blk k2 2; have g0 := frozen_of_blk k2 0; have g1 := frozen_of_blk k2 1; have g2 := frozen_of_blk k2 2; have HK1 := hide ((unhide HK0).trans ka); have K2 := hide k2; clear hk1 k0 k1 k2 ka hkf hkw)
        obtain ⟨s0, s1, s2, hkf⟩ := unhide HD _ w1 _ (unhide HK1) (unhide K2) rfl (.int .i64 2) (.bool false) (.int .i64 0)
        refine bodyPost_ret (v := refV (⟨2, false⟩, 0)) (by simp [results, go_sem, s0, s1, s2]) rfl ?_
        exact ⟨by rw [unhide HR], hkf⟩
end Go.Proofs.YtjhppnecadnekaaDoor
