import Derived.Test.YtoempeobaknkcaaGreatDoorJzas
import Derived.Test.YtoempeobaknkcaaGreatDoorJzaj
import Derived.Test.YtoempeobaknkcaaGreatDoorKe
import Derived.Test.YtoempeobaknkcaaGreatDoorJzaf
namespace Go.Proofs.YtoempeobaknkcaaGreatDoor
open Go.ChangeShapes Go.WideShapes Go.ChangeAt Go.RowKit Go.Deep

theorem gForms : Tryz.prog.globalNamed "arbor/syntax.forms" = some 1 := by kernel_rfl
theorem tForms : (Tryz.prog.globals[1]?).map (·.type) = some 137 := by kernel_rfl
theorem c76 : Tryz.prog.cellsOf 136 = 6 := by kernel_rfl
theorem c77 : Tryz.prog.cellsOf 137 = 156 := by kernel_rfl
/-- A row of the table, as a datum. -/
def FormA.dat (f : FormA) : DataW Unit := .agg [.lit (.int .i64 f.shape), .lit (.string f.text), .lit (.int .i64 f.kids), .lit (.int .i64 f.rank), .lit (.int .i64 f.left), .lit (.int .i64 f.right)]
theorem forms_dat : (Rows.laid_arbor_syntax_forms : DataW Unit) = .agg (formsL.map FormA.dat) := rfl
set_option maxRecDepth 100000 in
theorem form_el {W : World} {m : Nat} {cs : List Value} {x : DataW Unit × List MemPlace} {f : FormA} (h : DataW.trod (fun _ => ()) Tryz.prog W 0 (fun _ => true) false m 136 cs = some x) (hx : x.1 = f.dat) : cs = f.cs := by
  obtain ⟨xs, k, _, rfl, hl, hlen, hf⟩ := DataW.trod_struct Tryz.underlying136 h
  have hl' : cs.length = 6 := hl.trans c76
  match xs, hlen, cs, hl' with
  | [y0, y1, y2, y3, y4, y5], _, [a0, a1, a2, a3, a4, a5], _ =>
    have h0 : DataW.trod (fun _ => ()) Tryz.prog W 0 (fun _ => true) false k 3 (([a0, a1, a2, a3, a4, a5].drop 0).take (Tryz.prog.cellsOf 3)) = some y0 := hf 0 _ rfl
    have h1 : DataW.trod (fun _ => ()) Tryz.prog W 0 (fun _ => true) false k 9 (([a0, a1, a2, a3, a4, a5].drop 1).take (Tryz.prog.cellsOf 9)) = some y1 := hf 1 _ rfl
    have h2 : DataW.trod (fun _ => ()) Tryz.prog W 0 (fun _ => true) false k 3 (([a0, a1, a2, a3, a4, a5].drop 2).take (Tryz.prog.cellsOf 3)) = some y2 := hf 2 _ rfl
    have h3 : DataW.trod (fun _ => ()) Tryz.prog W 0 (fun _ => true) false k 3 (([a0, a1, a2, a3, a4, a5].drop 3).take (Tryz.prog.cellsOf 3)) = some y3 := hf 3 _ rfl
    have h4 : DataW.trod (fun _ => ()) Tryz.prog W 0 (fun _ => true) false k 3 (([a0, a1, a2, a3, a4, a5].drop 4).take (Tryz.prog.cellsOf 3)) = some y4 := hf 4 _ rfl
    have h5 : DataW.trod (fun _ => ()) Tryz.prog W 0 (fun _ => true) false k 3 (([a0, a1, a2, a3, a4, a5].drop 5).take (Tryz.prog.cellsOf 3)) = some y5 := hf 5 _ rfl
    rw [e3] at h0 h2 h3 h4 h5
    rw [e9] at h1
    obtain ⟨n0, q0, w0, _⟩ := DataW.trod_int Tryz.underlying3 h0
    obtain ⟨s1, q1, w1, _⟩ := DataW.trod_string Tryz.underlying9 h1
    obtain ⟨n2, q2, w2, _⟩ := DataW.trod_int Tryz.underlying3 h2
    obtain ⟨n3, q3, w3, _⟩ := DataW.trod_int Tryz.underlying3 h3
    obtain ⟨n4, q4, w4, _⟩ := DataW.trod_int Tryz.underlying3 h4
    obtain ⟨n5, q5, w5, _⟩ := DataW.trod_int Tryz.underlying3 h5
    simp only [FormA.dat, DataW.agg.injEq, List.map_cons, List.map_nil, List.cons.injEq, and_true] at hx
    rw [w0, w1, w2, w3, w4, w5] at hx
    simp at hx q0 q1 q2 q3 q4 q5
    obtain ⟨r0, r1, r2, r3, r4, r5⟩ := hx
    rw [q0, q1, q2, q3, q4, q5, str_of, r0, r1, r2, r3, r4, r5]
    rfl
theorem forms_met {W : World} (h : laidMetH Tryz.prog [("arbor/syntax.forms", Rows.laid_arbor_syntax_forms)] W) : Forms W := by
  rw [MakeChecks.laidMetH_plain _ _ _ (by kernel_rfl)] at h
  obtain ⟨ps, ⟨g0, t0, cs0, f0, p0, q0, hg0, ht0, hv0, hd0, _, _⟩, _, _⟩ := h
  obtain rfl := Option.some.inj (gForms.symm.trans hg0)
  obtain rfl := Option.some.inj (tForms.symm.trans ht0)
  obtain ⟨xs, m1, rfl, hx1, hlen, hn3, hel⟩ := DataW.trod_array Tryz.underlying137 hd0
  have q := fun j => World.var?_cell hg0 hv0 j
  obtain ⟨cl⟩ := cs0
  have hlen' : cl.length = 156 := hlen.trans c77
  have hxs : xs.map (·.1) = formsL.map FormA.dat := by
    have := (Prod.mk.inj hx1).1
    rw [forms_dat] at this
    exact (DataW.agg.inj this).symm
  have el : ∀ (i : Nat) (f : FormA), formsL[i]? = some f → (cl.drop (i * 6)).take 6 = f.cs := fun i f hf => by
    have hi : i < 26 := (List.getElem?_eq_some_iff.1 hf).1
    have h1 : (xs.map (·.1))[i]? = some f.dat := by rw [hxs]; simp [hf]
    cases hx : xs[i]? with
    | none => rw [List.getElem?_map, hx] at h1; cases h1
    | some x =>
      rw [List.getElem?_map, hx] at h1
      have h2 := hel i hi
      rw [c76, hx] at h2
      exact form_el h2 (Option.some.inj h1)
  have hlt : 1 < W.heap.size := by
    obtain ⟨c, hc⟩ : ∃ c, cl[0]? = some c := ⟨_, List.getElem?_eq_getElem (by omega)⟩
    have := World.block_lt_of_cell? W ⟨1, 0, none⟩ (u := c) (by rw [q 0]; simpa using hc)
    exact this
  refine ⟨hlt, fun i f hf j x hx => ?_⟩
  have hj : j < 6 := (List.getElem?_eq_some_iff.1 hx).1
  have hq := q (i * 6 + j)
  rw [hq]
  have := congrArg (fun l => l[j]?) (el i f hf)
  simp only [List.getElem?_take, hj, if_true, List.getElem?_drop] at this
  simpa [this] using hx
end Go.Proofs.YtoempeobaknkcaaGreatDoor
namespace Go.Proofs.YtoempeobaknkcaaGreatDoor
open Go.RowKit Go.Maps

/-- A kind of the reference, as a value. -/
abbrev refV (p : KA × Int) : Value := .agg #[.int .i64 p.1.t, .bool p.1.o, .int .i64 p.2]

set_option maxRecDepth 100000 in
set_option maxHeartbeats 1000000 in
theorem refField_v (S : List FieldA) (sv : Value) (nm : Txt) (w : World) (h : FldsAt w sv S) (hl : S.length ≤ 8) :
    Calls Tryz.prog 64 #[.agg #[sv], str nm] w fun e w' => (∃ i : Int, e = .returned (.int .i64 i) ∧ ((fieldOf S nm = none ∧ i = -1) ∨ ∃ (k : Nat) (f : FieldA), S[k]? = some f ∧ fieldOf S nm = some f ∧ i = k)) ∧ Keeps (fun _ => False) w w' := by
  obtain ⟨ao, cap, rfl⟩ := RowAt.form h
  obtain ⟨HB, hxb, hxc⟩ := boxed w #[.slice ao S.length cap] 24
  have c0 := hxc 0 (.slice ao S.length cap) rfl
  have HF := hide (h.keepF (unhide HB))
  clear h hxc
  go_enter Tryz.func64, Tryz.ntmps64
  go_wp2_with fail
  go_loopw [5] (fun i wr => ∃ k : Nat, k ≤ S.length ∧ i = .int .i64 k ∧ Hid (fieldOf S nm = fieldOf (S.drop k) nm) ∧ wr = w.alloc (.cells #[.slice ao S.length cap] 24)) (fun i _ => S.length - (intOf i).toNat)
  case atStart => exact ⟨0, Nat.zero_le _, rfl, by simp [Hid], rfl⟩
  case round =>
    obtain ⟨k, hk, rfl, HS, rfl⟩ := hrel
    cases h : S[k]? with
    | none =>
      have h1 := get_ge h
      obtain rfl : k = S.length := by omega
      clear h h1
      rw [List.drop_length] at HS
      have i1 : ¬ (S.length : Int) < (S.length : Int) := by omega
      go_wp2_with fail
      go_ret
      exact ⟨⟨_, rfl, Or.inl ⟨unhide HS, rfl⟩⟩, unhide HB⟩
    | some f =>
      have h1 := get_lt h
      obtain ⟨b, off, c, e, hbl, hc⟩ := (unhide HF).cells (by omega)
      simp at e
      obtain ⟨rfl, rfl⟩ := e
      have q0 := (hc k f h).1
      have HO : Hid (fieldOf (S.drop k) nm = if f.name = nm then some f else fieldOf (S.drop (k + 1)) nm) := by
        obtain ⟨hk', hx⟩ := List.getElem?_eq_some_iff.1 h
        show _ = _
        rw [List.drop_eq_getElem_cons hk', hx]
        unfold fieldOf
        rw [List.find?_cons]
        by_cases hn : f.name = nm
        · simp [hn]
        · simp [hn]
      have HH := hide h
      clear h hc
      have i1 : (k : Int) < (S.length : Int) := by omega
      have i0 : (0 : Int) ≤ (k : Int) := by omega
      go_wp2
      case roundEnd =>
        rename_i hne
        have hne' : ¬ f.name = nm := by simpa using hne
        go_roundw
        case rel => exact ⟨k + 1, by omega, by go_num, (unhide HS).trans ((unhide HO).trans (if_neg hne')), by trivial⟩
        case measure => simp [intOf]; omega
      rename_i hne
      have hne' : f.name = nm := by simpa using hne
      go_ret
      exact ⟨⟨_, rfl, Or.inr ⟨k, f, unhide HH, (unhide HS).trans ((unhide HO).trans (if_pos hne')), rfl⟩⟩, unhide HB⟩
end Go.Proofs.YtoempeobaknkcaaGreatDoor
namespace Go.Proofs.YtoempeobaknkcaaGreatDoor
open Go.RowKit Go.Maps

theorem refField_none (S : List FieldA) (sv : Value) (nm : Txt) (w : World) (h : FldsAt w sv S) (hl : S.length ≤ 8) (hfo : fieldOf S nm = none) :
    Calls Tryz.prog 64 #[.agg #[sv], str nm] w fun e w' => e = .returned (.int .i64 (-1)) ∧ Keeps (fun _ => False) w w' :=
  (refField_v S sv nm w h hl).mono fun e w2 ⟨⟨i, he, hi⟩, hk⟩ => by
    rcases hi with ⟨_, rfl⟩ | ⟨_, _, _, h2, _⟩
    · exact ⟨he, hk⟩
    · rw [hfo] at h2; cases h2
theorem refField_some (S : List FieldA) (sv : Value) (nm : Txt) (w : World) (h : FldsAt w sv S) (hl : S.length ≤ 8) (f : FieldA) (hfo : fieldOf S nm = some f) :
    Calls Tryz.prog 64 #[.agg #[sv], str nm] w fun e w' => (∃ k : Nat, S[k]? = some f ∧ e = .returned (.int .i64 (k : Int))) ∧ Keeps (fun _ => False) w w' :=
  (refField_v S sv nm w h hl).mono fun e w2 ⟨⟨i, he, hi⟩, hk⟩ => by
    rcases hi with ⟨h2, _⟩ | ⟨k, g, h1, h2, rfl⟩
    · rw [hfo] at h2; cases h2
    · rw [hfo] at h2
      obtain rfl := Option.some.inj h2
      exact ⟨⟨k, h1, he⟩, hk⟩
/-- What the reference says of a field, or of has. -/
def refNamed (S : List FieldA) (op : Int) (s : Txt) : KA × Int := zeroK (if op = 4 then namedK S s else hasK S s)
set_option maxRecDepth 100000 in
set_option maxHeartbeats 2000000 in
theorem refF_v (S : List FieldA) (sv : Value) (op n : Int) (s : Txt) (ao : Option Addr) (xn xc : Nat) (w : World) (h : FldsAt w sv S) (hl : S.length ≤ 8) :
    Calls Tryz.prog 88 #[.agg #[sv], exV op n s (.slice ao xn xc)] w fun e w' => e = .returned (refV (refNamed S op s)) ∧ Keeps (fun _ => False) w w' := by
  obtain ⟨so, sc, rfl⟩ := RowAt.form h
  have HK0 : Hid (Keeps (fun _ => False) w (((w.alloc (.cells #[.slice so S.length sc] 24)).alloc (.cells #[.int .i64 op, .int .i64 n, str s, .slice ao xn xc] 57)).alloc (.cells #[.int .i64 0, .bool false, .int .i64 0] 111))) := (((Keeps.refl _ w).alloc _).alloc _).alloc _
  have e1 : (w.alloc (.cells #[.slice so S.length sc] 24)).heap.size = w.heap.size + 1 := by simp
  have e2 : ((w.alloc (.cells #[.slice so S.length sc] 24)).alloc (.cells #[.int .i64 op, .int .i64 n, str s, .slice ao xn xc] 57)).heap.size = w.heap.size + 2 := by simp
  have hb0 : (((w.alloc (.cells #[.slice so S.length sc] 24)).alloc (.cells #[.int .i64 op, .int .i64 n, str s, .slice ao xn xc] 57)).alloc (.cells #[.int .i64 0, .bool false, .int .i64 0] 111)).heap[w.heap.size]? = some (.cells #[.slice so S.length sc] 24 (0, 0)) := ((((Keeps.refl (fun _ => False) _).alloc _).alloc _).block _ (by rw [e1]; omega) id).trans (heap_alloc_new w _)
  have hb1 : (((w.alloc (.cells #[.slice so S.length sc] 24)).alloc (.cells #[.int .i64 op, .int .i64 n, str s, .slice ao xn xc] 57)).alloc (.cells #[.int .i64 0, .bool false, .int .i64 0] 111)).heap[w.heap.size + 1]? = some (.cells #[.int .i64 op, .int .i64 n, str s, .slice ao xn xc] 57 (0, 0)) := by
    have := heap_alloc_new (w.alloc (.cells #[.slice so S.length sc] 24)) (.cells #[.int .i64 op, .int .i64 n, str s, .slice ao xn xc] 57)
    rw [e1] at this
    exact (((Keeps.refl (fun _ => False) _).alloc _).block _ (by rw [e2]; omega) id).trans this
  have hb2 : (((w.alloc (.cells #[.slice so S.length sc] 24)).alloc (.cells #[.int .i64 op, .int .i64 n, str s, .slice ao xn xc] 57)).alloc (.cells #[.int .i64 0, .bool false, .int .i64 0] 111)).heap[w.heap.size + 2]? = some (.cells #[.int .i64 0, .bool false, .int .i64 0] 111 (0, 0)) := by
    have := heap_alloc_new ((w.alloc (.cells #[.slice so S.length sc] 24)).alloc (.cells #[.int .i64 op, .int .i64 n, str s, .slice ao xn xc] 57)) (.cells #[.int .i64 0, .bool false, .int .i64 0] 111)
    rw [e2] at this
    exact this
  have HC := fun w' (hk : Keeps (fun _ => False) w w') => hide (refField_v S (.slice so S.length sc) s w' (h.keepF hk) hl)
  have HF := hide h
  have B0 := hide hb0
  have B1 := hide hb1
  have B2 := hide hb2
  clear h hb0 hb1 hb2 e1 e2
  have done : ∀ (w1 w2 : World) (x : Array Value), Keeps (fun _ => False) w w1 → w1.heap[w.heap.size + 2]? = some (.cells x 111 (0, 0)) → x.size = 3 → ∀ (p q r : Value), let w3 := ((w1.setCell ⟨w.heap.size + 2, 0, none⟩ p).setCell ⟨w.heap.size + 2, 1, none⟩ q).setCell ⟨w.heap.size + 2, 2, none⟩ r
      w3.cell? ⟨w.heap.size + 2, 0, none⟩ = some p ∧ w3.cell? ⟨w.heap.size + 2, 1, none⟩ = some q ∧ w3.cell? ⟨w.heap.size + 2, 2, none⟩ = some r ∧ Keeps (fun _ => False) w w3 := by
    intro w1 _ x hk hx hs p q r w3
    have hb := heap_setCell_at (o := 2) (heap_setCell_at (o := 1) (heap_setCell_at (o := 0) hx p) q) r
    have hks : Keeps (fun t => t = w.heap.size + 2) w1 w3 := ((keeps_set _ _ _ _).trans (keeps_set _ _ _ _)).trans (keeps_set _ _ _ _)
    refine ⟨?_, ?_, ?_, hk.narrow hks (fun t e => by omega)⟩
    all_goals (rw [cell_of_blk hb]; simp [hs])
  have HD := hide done
  clear done
  cases hfo : fieldOf S s with
  | none =>
    have HR : Hid (refNamed S op s = (⟨0, false⟩, 90)) := by
      show _ = _
      unfold refNamed hasK namedK
      rw [hfo]
      split <;> rfl
    have HC1 := fun w' (hk : Keeps (fun _ => False) w w') => hide (refField_none S (.slice so S.length sc) s w' ((unhide HF).keepF hk) hl hfo)
    clear HC hfo
    go_enter Tryz.func88, Tryz.ntmps88
    go_wp2_with (go_at_call 64; refine (unhide (HC1 _ (unhide HK0))).mono ?_; rintro e w1 ⟨rfl, hk1⟩; have k0 := (hk1.block _ (lt_of_block (unhide B0)) id).trans (unhide B0); have k1 := (hk1.block _ (lt_of_block (unhide B1)) id).trans (unhide B1); have k2 := (hk1.block _ (lt_of_block (unhide B2)) id).trans (unhide B2); have p0 := cell_of_blk k0 0; have p1 := cell_of_blk k1 0; have m0 := cell_of_blk k2 0; have m1 := cell_of_blk k2 1; have m2 := cell_of_blk k2 2; simp at p0 p1 m0 m1 m2; have g0 := frozen_of_blk k2 0; have g1 := frozen_of_blk k2 1; have g2 := frozen_of_blk k2 2; have HK1 := hide ((unhide HK0).trans hk1); have K2 := hide k2; clear hk1 k0 k1 k2)
    obtain ⟨s0, s1, s2, hkf⟩ := unhide HD _ w1 _ (unhide HK1) (unhide K2) rfl (.int .i64 0) (.bool false) (.int .i64 90)
    refine bodyPost_ret (v := refV (⟨0, false⟩, 90)) (by simp [results, go_sem, s0, s1, s2]) rfl ?_
    exact ⟨by rw [unhide HR], hkf⟩
  | some f =>
    obtain ⟨fname, ftype, fopt⟩ := f
    have hpos : 0 < S.length := List.length_pos_of_mem (List.mem_of_find?_eq_some hfo)
    obtain ⟨b, off, c, e, hbl, hc⟩ := (unhide HF).cells hpos
    simp at e
    obtain ⟨rfl, rfl⟩ := e
    have HCC := hide hc
    clear hc
    have HC1 := fun w' (hk : Keeps (fun _ => False) w w') => hide (refField_some S _ s w' ((unhide HF).keepF hk) hl ⟨fname, ftype, fopt⟩ hfo)
    clear HC
    by_cases h4 : op = 4
    · have HR : Hid (refNamed S op s = (⟨ftype, fopt⟩, 0)) := by
        show _ = _
        unfold refNamed namedK
        rw [if_pos h4, hfo]
        rfl
      subst h4
      clear hfo
      go_enter Tryz.func88, Tryz.ntmps88
      go_wp2_with (go_at_call 64; refine (unhide (HC1 _ (unhide HK0))).mono ?_; rintro e w1 ⟨⟨k, hkf, rfl⟩, hk1⟩; have hkl := (List.getElem?_eq_some_iff.1 hkf).1; have i1 : (k : Int) < (S.length : Int) := (by omega); have i0 : (0 : Int) ≤ (k : Int) := (by omega); have i2 : ¬ (k : Int) < 0 := (by omega); have hkw := (unhide HK0).trans hk1; have f0 := (hkw.cell hbl id).trans (unhide HCC k _ hkf).1; have f1 := (hkw.cell hbl id).trans (unhide HCC k _ hkf).2.1; have f2 := (hkw.cell hbl id).trans (unhide HCC k _ hkf).2.2; have k0 := (hk1.block _ (lt_of_block (unhide B0)) id).trans (unhide B0); have p0 : World.cell? _ _ = some (Value.slice (some ⟨b, off, none⟩) S.length sc) := cell_of_blk k0 0; have ka := hk1.trans ((Keeps.refl (fun _ => False) w1).alloc (.cells #[str fname, .int .i64 ftype, .bool fopt] 67)); have k2 := (ka.block _ (lt_of_block (unhide B2)) id).trans (unhide B2); have k1 := (ka.block _ (lt_of_block (unhide B1)) id).trans (unhide B1); have p1 : World.cell? _ _ = some (Value.int .i64 4) := cell_of_blk k1 0; have m0 : World.cell? _ _ = some (Value.int .i64 0) := cell_of_blk k2 0; have m1 : World.cell? _ _ = some (Value.bool false) := cell_of_blk k2 1; have m2 : World.cell? _ _ = some (Value.int .i64 0) := cell_of_blk k2 2; have g0 := frozen_of_blk k2 0; have g1 := frozen_of_blk k2 1; have g2 := frozen_of_blk k2 2; have HK1 := hide ((unhide HK0).trans ka); have K2 := hide k2; clear hk1 k0 k1 k2 ka hkf hkw)
      obtain ⟨s0, s1, s2, hkf⟩ := unhide HD _ w1 _ (unhide HK1) (unhide K2) rfl (.int .i64 ftype) (.bool fopt) (.int .i64 0)
      refine bodyPost_ret (v := refV (⟨ftype, fopt⟩, 0)) (by simp [results, go_sem, s0, s1, s2]) rfl ?_
      exact ⟨by rw [unhide HR], hkf⟩
    · have d4 : (op == 4) = false := by simpa using h4
      cases fopt with
      | false =>
        have HR : Hid (refNamed S op s = (⟨0, false⟩, 92)) := by
          show _ = _
          unfold refNamed hasK namedK
          rw [if_neg h4, hfo]
          simp [zeroK, orI, optI]
        clear hfo h4
        go_enter Tryz.func88, Tryz.ntmps88
        go_wp2_with (go_at_call 64; refine (unhide (HC1 _ (unhide HK0))).mono ?_; rintro e w1 ⟨⟨k, hkf, rfl⟩, hk1⟩; have hkl := (List.getElem?_eq_some_iff.1 hkf).1; have i1 : (k : Int) < (S.length : Int) := (by omega); have i0 : (0 : Int) ≤ (k : Int) := (by omega); have i2 : ¬ (k : Int) < 0 := (by omega); have hkw := (unhide HK0).trans hk1; have f0 := (hkw.cell hbl id).trans (unhide HCC k _ hkf).1; have f1 := (hkw.cell hbl id).trans (unhide HCC k _ hkf).2.1; have f2 := (hkw.cell hbl id).trans (unhide HCC k _ hkf).2.2; have k0 := (hk1.block _ (lt_of_block (unhide B0)) id).trans (unhide B0); have p0 : World.cell? _ _ = some (Value.slice (some ⟨b, off, none⟩) S.length sc) := cell_of_blk k0 0; have ka := hk1.trans ((Keeps.refl (fun _ => False) w1).alloc (.cells #[str fname, .int .i64 ftype, .bool false] 67)); have k2 := (ka.block _ (lt_of_block (unhide B2)) id).trans (unhide B2); have k1 := (ka.block _ (lt_of_block (unhide B1)) id).trans (unhide B1); have p1 : World.cell? _ _ = some (Value.int .i64 op) := cell_of_blk k1 0; have m0 : World.cell? _ _ = some (Value.int .i64 0) := cell_of_blk k2 0; have m1 : World.cell? _ _ = some (Value.bool false) := cell_of_blk k2 1; have m2 : World.cell? _ _ = some (Value.int .i64 0) := cell_of_blk k2 2; have g0 := frozen_of_blk k2 0; have g1 := frozen_of_blk k2 1; have g2 := frozen_of_blk k2 2; have HK1 := hide ((unhide HK0).trans ka); have K2 := hide k2; clear hk1 k0 k1 k2 ka hkf hkw)
        obtain ⟨s0, s1, s2, hkf⟩ := unhide HD _ w1 _ (unhide HK1) (unhide K2) rfl (.int .i64 0) (.bool false) (.int .i64 92)
        refine bodyPost_ret (v := refV (⟨0, false⟩, 92)) (by simp [results, go_sem, s0, s1, s2]) rfl ?_
        exact ⟨by rw [unhide HR], hkf⟩
      | true =>
        have HR : Hid (refNamed S op s = (⟨2, false⟩, 0)) := by
          show _ = _
          unfold refNamed hasK namedK
          rw [if_neg h4, hfo]
          simp [zeroK, orI, optI]
        clear hfo h4
        go_enter Tryz.func88, Tryz.ntmps88
        go_wp2_with (go_at_call 64; refine (unhide (HC1 _ (unhide HK0))).mono ?_; rintro e w1 ⟨⟨k, hkf, rfl⟩, hk1⟩; have hkl := (List.getElem?_eq_some_iff.1 hkf).1; have i1 : (k : Int) < (S.length : Int) := (by omega); have i0 : (0 : Int) ≤ (k : Int) := (by omega); have i2 : ¬ (k : Int) < 0 := (by omega); have hkw := (unhide HK0).trans hk1; have f0 := (hkw.cell hbl id).trans (unhide HCC k _ hkf).1; have f1 := (hkw.cell hbl id).trans (unhide HCC k _ hkf).2.1; have f2 := (hkw.cell hbl id).trans (unhide HCC k _ hkf).2.2; have k0 := (hk1.block _ (lt_of_block (unhide B0)) id).trans (unhide B0); have p0 : World.cell? _ _ = some (Value.slice (some ⟨b, off, none⟩) S.length sc) := cell_of_blk k0 0; have ka := hk1.trans ((Keeps.refl (fun _ => False) w1).alloc (.cells #[str fname, .int .i64 ftype, .bool true] 67)); have k2 := (ka.block _ (lt_of_block (unhide B2)) id).trans (unhide B2); have k1 := (ka.block _ (lt_of_block (unhide B1)) id).trans (unhide B1); have p1 : World.cell? _ _ = some (Value.int .i64 op) := cell_of_blk k1 0; have m0 : World.cell? _ _ = some (Value.int .i64 0) := cell_of_blk k2 0; have m1 : World.cell? _ _ = some (Value.bool false) := cell_of_blk k2 1; have m2 : World.cell? _ _ = some (Value.int .i64 0) := cell_of_blk k2 2; have g0 := frozen_of_blk k2 0; have g1 := frozen_of_blk k2 1; have g2 := frozen_of_blk k2 2; have HK1 := hide ((unhide HK0).trans ka); have K2 := hide k2; clear hk1 k0 k1 k2 ka hkf hkw)
        obtain ⟨s0, s1, s2, hkf⟩ := unhide HD _ w1 _ (unhide HK1) (unhide K2) rfl (.int .i64 2) (.bool false) (.int .i64 0)
        refine bodyPost_ret (v := refV (⟨2, false⟩, 0)) (by simp [results, go_sem, s0, s1, s2]) rfl ?_
        exact ⟨by rw [unhide HR], hkf⟩
end Go.Proofs.YtoempeobaknkcaaGreatDoor
namespace Go.Proofs.YtoempeobaknkcaaGreatDoor
open Go.RowKit Go.Maps

def wcs (l : List (Int × Bool)) : List Value := l.flatMap fun p => [.int .i64 p.1, .bool p.2]
theorem wcs_get : ∀ (l : List (Int × Bool)) (i : Nat) (x : Int × Bool) (j : Nat), l[i]? = some x → j < 2 → (wcs l)[i * 2 + j]? = [Value.int .i64 x.1, .bool x.2][j]?
  | [], i, x, j, h, _ => by simp at h
  | y :: r, 0, x, j, h, hj => by
    simp at h; subst h
    have : j < [Value.int .i64 y.1, .bool y.2].length := hj
    show (([Value.int .i64 y.1, .bool y.2] ++ wcs r))[0 * 2 + j]? = _
    rw [Nat.zero_mul, Nat.zero_add, List.getElem?_append_left this]
  | y :: r, i + 1, x, j, h, hj => by
    have ih := wcs_get r i x j (by simpa using h) hj
    show (([Value.int .i64 y.1, .bool y.2] ++ wcs r))[(i + 1) * 2 + j]? = _
    rw [List.getElem?_append_right (by simp; omega), ← ih]
    congr 1
    simp; omega
/-- What a rule asks, in a slice. -/
def WAt (w : World) (v : Value) (l : List (Int × Bool)) : Prop := RowAt w v l.length (wcs l)
theorem WAt.keepF {w w' : World} {v : Value} {l : List (Int × Bool)} (h : WAt w v l) (hk : Keeps (fun _ => False) w w') : WAt w' v l := RowAt.keepF h hk
theorem WAt.cells {w : World} {v : Value} {l : List (Int × Bool)} (h : WAt w v l) (h0 : 0 < l.length) :
    ∃ b off cap, v = .slice (some ⟨b, off, none⟩) l.length cap ∧ b < w.heap.size ∧ ∀ i f, l[i]? = some f → w.cell? ⟨b, off + i * 2, none⟩ = some (.int .i64 f.1) ∧ w.cell? ⟨b, off + i * 2 + 1, none⟩ = some (.bool f.2) := by
  obtain ⟨b, off, cap, e, hb, hc⟩ := RowAt.cells h h0
  refine ⟨b, off, cap, e, hb, fun i f hf => ⟨?_, ?_⟩⟩
  · exact hc (i * 2) _ (by have := wcs_get l i f 0 hf (by omega); simpa using this)
  · have := hc (i * 2 + 1) (.bool f.2) (by have := wcs_get l i f 1 hf (by omega); simpa using this)
    rw [show off + i * 2 + 1 = off + (i * 2 + 1) by omega]
    exact this
theorem wants_new (X : World) (l : List (Int × Bool)) (H : Nat) (hH : X.heap.size = H) : WAt (X.alloc (.cells (wcs l).toArray 128)) (.slice (some ⟨H, 0, none⟩) l.length l.length) l := by
  subst hH
  refine ⟨⟨_, _, rfl⟩, fun _ => ⟨_, 0, _, rfl, by simp, fun j x hx => ?_⟩, fun ao m cap e => by simp at e; omega⟩
  rw [cell_of_blk (heap_alloc_new X _)]
  simpa using hx
def rcs (l : List KA) : List Value := l.flatMap fun k => [.int .i64 k.t, .bool k.o, .int .i64 0]
/-- Kinds of the reference in a slice. -/
def RksAt (w : World) (v : Value) (l : List KA) : Prop := RowAt w v l.length (rcs l)
theorem RksAt.keepF {w w' : World} {v : Value} {l : List KA} (h : RksAt w v l) (hk : Keeps (fun _ => False) w w') : RksAt w' v l := RowAt.keepF h hk
theorem RksAt.cells {w : World} {v : Value} {l : List KA} (h : RksAt w v l) (h0 : 0 < l.length) :
    ∃ b off cap, v = .slice (some ⟨b, off, none⟩) l.length cap ∧ b < w.heap.size ∧ ∀ i f, l[i]? = some f → w.cell? ⟨b, off + i * 3, none⟩ = some (.int .i64 f.t) ∧ w.cell? ⟨b, off + i * 3 + 1, none⟩ = some (.bool f.o) := by
  obtain ⟨b, off, cap, e, hb, hc⟩ := RowAt.cells h h0
  refine ⟨b, off, cap, e, hb, fun i f hf => ⟨?_, ?_⟩⟩
  · exact hc (i * 3) _ (by have := flat_get (fun k : KA => [Value.int .i64 k.t, .bool k.o, .int .i64 0]) (fun _ => rfl) l i f 0 hf (by omega); simpa [rcs] using this)
  · have := hc (i * 3 + 1) (.bool f.o) (by have := flat_get (fun k : KA => [Value.int .i64 k.t, .bool k.o, .int .i64 0]) (fun _ => rfl) l i f 1 hf (by omega); simpa [rcs] using this)
    rw [show off + i * 3 + 1 = off + (i * 3 + 1) by omega]
    exact this
set_option maxRecDepth 100000 in
set_option maxHeartbeats 1000000 in
theorem asked_v (q t : Int) (ks : List KA) (v : Value) (w : World) (h : RksAt w v ks) (h2 : q = -2 → 0 < ks.length) (h3 : q = -3 → 1 < ks.length) :
    Calls Tryz.prog 90 #[.int .i64 q, .int .i64 t, v] w fun e w' => e = .returned (.bool (askedB q t ks)) ∧ w' = w := by
  unfold askedB
  by_cases q0 : q = 0
  · rw [if_pos q0]
    subst q0
    obtain ⟨ko, kc, rfl⟩ := RowAt.form h
    go_enter Tryz.func90, Tryz.ntmps90
    go_wp2_with fail
    go_ret
    exact ⟨rfl, rfl⟩
  rw [if_neg q0]
  have d0 : (q == 0) = false := by simpa using q0
  by_cases q1 : q = -1
  · rw [if_pos q1]
    subst q1
    obtain ⟨ko, kc, rfl⟩ := RowAt.form h
    clear h2 h3 d0 q0
    by_cases t1 : t = 1
    · subst t1
      go_enter Tryz.func90, Tryz.ntmps90
      go_wp2_with fail
      go_ret
      exact ⟨rfl, rfl⟩
    · have e1 : (t == 1) = false := by simpa using t1
      rw [decide_eq_false t1, Bool.false_or]
      clear t1
      go_enter Tryz.func90, Tryz.ntmps90
      go_wp2_with fail
      go_ret
      exact ⟨ret_bool (by first | rfl | simp), rfl⟩
  rw [if_neg q1]
  have d1 : (q == -1) = false := by simpa using q1
  by_cases q2 : q = -2
  · rw [if_pos q2]
    obtain ⟨b, off, c, rfl, hb, hc⟩ := h.cells (h2 q2)
    have hl := h2 q2
    obtain ⟨k0, hk0⟩ : ∃ k, ks[0]? = some k := ⟨_, List.getElem?_eq_getElem hl⟩
    have c0 := (hc 0 k0 hk0).1
    have e0 : kth ks 0 = k0 := by simp [kth, List.getD, hk0]
    rw [e0]
    simp only [Nat.zero_mul, Nat.add_zero] at c0
    have i1 : (0 : Int) < (ks.length : Int) := by omega
    subst q2
    clear h2 h3 d0 d1 q0 q1 hc h hk0 e0
    go_enter Tryz.func90, Tryz.ntmps90
    go_wp2_with fail
    go_ret
    exact ⟨ret_bool (by first | rfl | simp), rfl⟩
  rw [if_neg q2]
  have d2 : (q == -2) = false := by simpa using q2
  by_cases q3 : q = -3
  · rw [if_pos q3]
    have hl := h3 q3
    obtain ⟨b, off, c, rfl, hb, hc⟩ := h.cells (by omega)
    obtain ⟨k0, hk0⟩ : ∃ k, ks[1]? = some k := ⟨_, List.getElem?_eq_getElem hl⟩
    have c0 := (hc 1 k0 hk0).1
    have e0 : kth ks 1 = k0 := by simp [kth, List.getD, hk0]
    rw [e0]
    simp only [Nat.one_mul] at c0
    have i1 : (1 : Int) < (ks.length : Int) := by omega
    subst q3
    clear h2 h3 d0 d1 d2 q0 q1 q2 hc h hk0 e0
    go_enter Tryz.func90, Tryz.ntmps90
    go_wp2_with fail
    go_ret
    exact ⟨ret_bool (by first | rfl | simp), rfl⟩
  rw [if_neg q3]
  have d3 : (q == -3) = false := by simpa using q3
  obtain ⟨ko, kc, rfl⟩ := RowAt.form h
  clear h2 h3 q0 q1 q2 q3 h
  go_enter Tryz.func90, Tryz.ntmps90
  go_wp2_with fail
  go_ret
  exact ⟨ret_bool (by first | rfl | simp), rfl⟩
end Go.Proofs.YtoempeobaknkcaaGreatDoor
