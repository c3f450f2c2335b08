import Derived.Test.YtcfnlnceoalnoaaDoorHc
import Derived.Test.YtcfnlnceoalnoaaDoorJi
namespace Go.Proofs.YtcfnlnceoalnoaaDoor
open Go.RowKit Go.Maps
theorem keeps_set4 (w : World) (b : Nat) (x y z u : Value) : Keeps (fun q => q = b) w ((((w.setCell ⟨b, 0, none⟩ x).setCell ⟨b, 1, none⟩ y).setCell ⟨b, 2, none⟩ z).setCell ⟨b, 3, none⟩ u) :=
  Keeps.setCell (F := fun q => q = b) (p := ⟨b, 3, none⟩) (Keeps.setCell (F := fun q => q = b) (p := ⟨b, 2, none⟩) (Keeps.setCell (F := fun q => q = b) (p := ⟨b, 1, none⟩) (Keeps.setCell (F := fun q => q = b) (p := ⟨b, 0, none⟩) (Keeps.refl (fun q => q = b) w) (fun _ => rfl) x) (fun _ => rfl) y) (fun _ => rfl) z) (fun _ => rfl) u
theorem set4c {w : World} {b : Nat} {c0 c1 c2 c3 : Value} {t : TypeId} (h : w.heap[b]? = some (.cells #[c0, c1, c2, c3] t (0, 0))) (x y z u : Value) :
    ((((w.setCell ⟨b, 0, none⟩ x).setCell ⟨b, 1, none⟩ y).setCell ⟨b, 2, none⟩ z).setCell ⟨b, 3, none⟩ u).cell? ⟨b, 0, none⟩ = some x ∧ ((((w.setCell ⟨b, 0, none⟩ x).setCell ⟨b, 1, none⟩ y).setCell ⟨b, 2, none⟩ z).setCell ⟨b, 3, none⟩ u).cell? ⟨b, 1, none⟩ = some y ∧ ((((w.setCell ⟨b, 0, none⟩ x).setCell ⟨b, 1, none⟩ y).setCell ⟨b, 2, none⟩ z).setCell ⟨b, 3, none⟩ u).cell? ⟨b, 2, none⟩ = some z ∧ ((((w.setCell ⟨b, 0, none⟩ x).setCell ⟨b, 1, none⟩ y).setCell ⟨b, 2, none⟩ z).setCell ⟨b, 3, none⟩ u).cell? ⟨b, 3, none⟩ = some u := by
  have hb := heap_setCell_at (o := 3) (heap_setCell_at (o := 2) (heap_setCell_at (o := 1) (heap_setCell_at (o := 0) h x) y) z) u
  refine ⟨?_, ?_, ?_, ?_⟩ <;> (rw [cell_of_blk hb]; rfl)
theorem rightShape_v (m : MsgA) (vv cv : Value) (w : World) (hSh : Shapes w) (hv : ValsAt w vv m.vals) (hc : BytesAt w cv m.code) :
    Calls Tryd.prog 13 #[.agg #[.int .i64 m.kind, str m.key, vv, cv]] w fun e w' => e = .returned (.bool (shapeB m)) ∧ Keeps (fun _ => False) w w' := by
  obtain ⟨vo, vc, rfl⟩ := RowAt.form hv
  obtain ⟨co, cc, rfl⟩ := RowAt.form hc
  have h := shape_one m.kind m.key vo co m.vals.length vc m.code.length cc (!decide (m.vals = [])) (!decide (m.code = [])) (by cases m.vals <;> simp) (by cases m.code <;> simp) w hSh
  rw [← shape_mem] at h
  exact h
/-- What all of package message wants of the world. -/
structure EnvM (w : World) : Prop where
  env : Env w
  sh : Shapes w
theorem EnvM.keepF {w w' : World} (h : EnvM w) (hk : Keeps (fun _ => False) w w') : EnvM w' := ⟨h.env.keepF hk, h.sh.keepF hk⟩
theorem dec_inR (t : Txt) (h : (decC t).2 = 0) : InR (decC t).1 := (enc_dec h).2
set_option maxRecDepth 100000 in
set_option maxHeartbeats 2000000 in
theorem checkCode_v (S : List FieldA) (sv cv : Value) (b : Txt) (w : World) (hE : Env w) (hS : FldsAt w sv S) (hb : BytesAt w cv b) :
    Calls Tryd.prog 16 #[.agg #[sv], cv] w fun e w' => e = .returned (.int .i64 (codeE S b)) ∧ Keeps (fun _ => False) w w' := by
  obtain ⟨so, sc, rfl⟩ := RowAt.form hS
  obtain ⟨co, cc, rfl⟩ := RowAt.form hb
  obtain ⟨HB, hbb, hbc⟩ := boxed w #[.slice so S.length sc] 24
  have s0 := hbc 0 (.slice so S.length sc) rfl
  have HQ := hide (decode_c b _ _ (hE.keepF (unhide HB)).ops (hE.keepF (unhide HB)).types (hb.keepF (unhide HB)))
  have HS := hide (hS.keepF (unhide HB))
  have HE := hide (hE.keepF (unhide HB))
  have HC : Hid (codeE S b = if (decC b).2 ≠ 0 then (decC b).2 else (verifyA S (decC b).1).2.2) := rfl
  have HI := hide (dec_inR b)
  generalize codeE S b = K at *
  obtain ⟨l, x, hd⟩ : ∃ l x, decC b = (l, x) := ⟨_, _, rfl⟩
  rw [hd] at HQ HC HI
  simp only at HQ HC HI
  generalize hWb : w.alloc (.cells #[.slice so S.length sc] 24) = Wb at *
  clear hE hS hb hbc hd
  go_enter Tryd.func16, Tryd.ntmps16
  go_wp2_with fail
  refine (unhide HQ).mono ?_
  rintro e w1 ⟨r', rfl, how, hk1⟩
  have hv1 : ValsAt w1 r' l := rowAt_own how
  obtain ⟨ro, rc, rfl⟩ := RowAt.form hv1
  have s1 := (hk1.cell (o := 0) hbb id).trans s0
  have q1 : w.heap.size < w1.heap.size := Nat.lt_of_lt_of_le hbb hk1.size
  have HK1 := hide hk1
  have HV1 := hide hv1
  clear how hk1 HQ hv1 hWb
  by_cases hx : x = 0
  · subst hx
    have HI0 := hide ((unhide HI) rfl)
    have HQ := hide (verify_v S so sc l _ w1 ((unhide HE).keepF (unhide HK1)).ops ((unhide HE).keepF (unhide HK1)).types ((unhide HS).keepF (unhide HK1)) (unhide HV1) (unhide HI0))
    rw [if_neg (by simp)] at HC
    rw [← unhide HC] at HQ
    clear HC HI
    go_wp2_with fail
    refine (unhide HQ).mono ?_
    rintro e w2 ⟨rfl, hk2⟩
    have HK2 := hide ((unhide HB).trans ((unhide HK1).trans hk2))
    clear hk2 HQ
    go_wp2_with fail
    go_ret
    exact ⟨rfl, unhide HK2⟩
  · rw [if_pos hx] at HC
    have be : (x != 0) = true := by rw [bne_iff_ne]; exact hx
    clear hx HI
    go_wp2_with fail
    go_ret
    exact ⟨ret_int (unhide HC).symm, (unhide HB).trans (unhide HK1)⟩
set_option maxRecDepth 100000 in
set_option maxHeartbeats 2000000 in
theorem refCode_v (S : List FieldA) (sv cv : Value) (b : Txt) (w : World) (hS : FldsAt w sv S) (hb : BytesAt w cv b) :
    Calls Tryd.prog 20 #[.agg #[sv], cv] w fun e w' => e = .returned (.int .i64 (codeE S b)) ∧ Keeps (fun _ => False) w w' := by
  obtain ⟨so, sc, rfl⟩ := RowAt.form hS
  obtain ⟨co, cc, rfl⟩ := RowAt.form hb
  obtain ⟨HB, hbb, hbc⟩ := boxed w #[.slice so S.length sc] 24
  have s0 := hbc 0 (.slice so S.length sc) rfl
  have HQ := hide (refDecode_v b _ _ (hb.keepF (unhide HB)))
  rw [← dec_eq] at HQ
  have HS := hide (hS.keepF (unhide HB))
  have HC : Hid (codeE S b = if (decC b).2 ≠ 0 then (decC b).2 else (verifyA S (decC b).1).2.2) := rfl
  have HI := hide (dec_inR b)
  generalize codeE S b = K at *
  obtain ⟨l, x, hd⟩ : ∃ l x, decC b = (l, x) := ⟨_, _, rfl⟩
  rw [hd] at HQ HC HI
  simp only at HQ HC HI
  generalize hWb : w.alloc (.cells #[.slice so S.length sc] 24) = Wb at *
  clear hS hb hbc hd
  go_enter Tryd.func20, Tryd.ntmps20
  go_wp2_with fail
  refine (unhide HQ).mono ?_
  rintro e w1 ⟨r', rfl, how, hk1⟩
  have hv1 : ValsAt w1 r' l := rowAt_own how
  obtain ⟨ro, rc, rfl⟩ := RowAt.form hv1
  have s1 := (hk1.cell (o := 0) hbb id).trans s0
  have q1 : w.heap.size < w1.heap.size := Nat.lt_of_lt_of_le hbb hk1.size
  have HK1 := hide hk1
  have HV1 := hide hv1
  clear how hk1 HQ hv1 hWb
  by_cases hx : x = 0
  · subst hx
    have HI0 := hide ((unhide HI) rfl)
    have HQ := hide (refVerify_v S so sc l _ w1 ((unhide HS).keepF (unhide HK1)) (unhide HV1) (unhide HI0))
    rw [if_neg (by simp), verify_ref] at HC
    rw [← unhide HC] at HQ
    clear HC HI
    go_wp2_with fail
    refine (unhide HQ).mono ?_
    rintro e w2 ⟨rfl, hk2⟩
    have HK2 := hide ((unhide HB).trans ((unhide HK1).trans hk2))
    clear hk2 HQ
    go_wp2_with fail
    go_ret
    exact ⟨rfl, unhide HK2⟩
  · rw [if_pos hx] at HC
    have be : (x != 0) = true := by rw [bne_iff_ne]; exact hx
    clear hx HI
    go_wp2_with fail
    go_ret
    exact ⟨ret_int (unhide HC).symm, (unhide HB).trans (unhide HK1)⟩
end Go.Proofs.YtcfnlnceoalnoaaDoor
namespace Go.Proofs.YtcfnlnceoalnoaaDoor
open Go.ChangeShapes Go.WideShapes Go.ChangeAt Go.RowKit Go.Deep
theorem eMsg : Tryd.prog.cellsOf 28 = 4 := by kernel_rfl
theorem eVals : Tryd.prog.cellsOf 25 = 1 := by kernel_rfl
theorem eBytes : Tryd.prog.cellsOf 26 = 1 := by kernel_rfl
theorem eVal : Tryd.prog.cellsOf 48 = 3 := by kernel_rfl
theorem bVal : Tryd.prog.bytesOf 48 = 32 := by kernel_rfl
theorem gShapes : Tryd.prog.globalNamed "arbor/message.shapes" = some 0 := by kernel_rfl
theorem tShapes : (Tryd.prog.globals[0]?).map (·.type) = some 55 := by kernel_rfl
theorem cShape : Tryd.prog.cellsOf 54 = 3 := by kernel_rfl
theorem cShapes : Tryd.prog.cellsOf 55 = 15 := by kernel_rfl
theorem shape_el {W : World} {m : Nat} {a b c : Value} {x : DataW Unit × List MemPlace} {n : Int} {p q : Bool} (h : DataW.trod (fun _ => ()) Tryd.prog W 0 (fun _ => true) false m 54 [a, b, c] = some x) (hx : x.1 = .agg [.lit (.int .i64 n), .lit (.bool p), .lit (.bool q)]) : a = .int .i64 n ∧ b = .bool p ∧ c = .bool q := by
  obtain ⟨xs, k, _, rfl, hl, hlen, hf⟩ := DataW.trod_struct Tryd.underlying54 h
  match xs, hlen with
  | [y0, y1, y2], _ =>
    have h0 : DataW.trod (fun _ => ()) Tryd.prog W 0 (fun _ => true) false k 3 (([a, b, c].drop 0).take (Tryd.prog.cellsOf 3)) = some y0 := hf 0 _ rfl
    have h1 : DataW.trod (fun _ => ()) Tryd.prog W 0 (fun _ => true) false k 4 (([a, b, c].drop 1).take (Tryd.prog.cellsOf 4)) = some y1 := hf 1 _ rfl
    have h2 : DataW.trod (fun _ => ()) Tryd.prog W 0 (fun _ => true) false k 4 (([a, b, c].drop 2).take (Tryd.prog.cellsOf 4)) = some y2 := hf 2 _ rfl
    rw [e3] at h0
    rw [e4] at h1 h2
    obtain ⟨n', q0, hn', _⟩ := DataW.trod_int Tryd.underlying3 h0
    obtain ⟨p', q1, hp'⟩ := DataW.trod_bool Tryd.underlying4 h1
    obtain ⟨r', q2, hr'⟩ := DataW.trod_bool Tryd.underlying4 h2
    simp only [DataW.agg.injEq, List.map_cons, List.map_nil, List.cons.injEq, and_true] at hx
    rw [hn', hp', hr'] at hx
    simp at hx q0 q1 q2
    rw [q0, q1, q2, hx.1, hx.2.1, hx.2.2]
    exact ⟨rfl, rfl, rfl⟩
set_option maxRecDepth 100000 in
theorem shapes_met {W : World} (h : laidMetH Tryd.prog [("arbor/message.shapes", Rows.laid_arbor_message_shapes)] W) : Shapes W := by
  rw [MakeChecks.laidMetH_plain _ _ _ (by kernel_rfl)] at h
  obtain ⟨ps, ⟨g0, t0, cs0, f0, p0, q0, hg0, ht0, hv0, hd0, _, _⟩, _, _⟩ := h
  obtain rfl := Option.some.inj (gShapes.symm.trans hg0)
  obtain rfl := Option.some.inj (tShapes.symm.trans ht0)
  obtain ⟨xs, m1, rfl, hx1, hlen, hn3, hel⟩ := DataW.trod_array Tryd.underlying55 hd0
  have q := fun j => World.var?_cell hg0 hv0 j
  obtain ⟨cl⟩ := cs0
  have hlen' : cl.length = 15 := hlen.trans cShapes
  have hel' : ∀ i, i < 5 → DataW.trod (fun _ => ()) Tryd.prog W 0 (fun _ => true) false m1 54 ((cl.drop (i * 3)).take 3) = xs[i]? := fun i hi => by
    have := hel i hi
    rw [cShape] at this
    exact this
  clear hel hlen hd0
  match cl, hlen', xs, hn3 with
  | [c0, c1, c2, c3, c4, c5, c6, c7, c8, c9, c10, c11, c12, c13, c14], _, [x0, x1, x2, x3, x4], _ =>
    simp only [Prod.mk.injEq, Rows.laid_arbor_message_shapes, DataW.agg.injEq, List.map_cons, List.map_nil, List.cons.injEq, and_true] at hx1
    obtain ⟨⟨e0, e1, e2, e3, e4⟩, _⟩ := hx1
    have h0 := shape_el (hel' 0 (by decide)) e0.symm
    have h1 := shape_el (hel' 1 (by decide)) e1.symm
    have h2 := shape_el (hel' 2 (by decide)) e2.symm
    have h3 := shape_el (hel' 3 (by decide)) e3.symm
    have h4 := shape_el (hel' 4 (by decide)) e4.symm
    have hq0 := q 0
    have hlt : 0 < W.heap.size := by
      have := World.block_lt_of_cell? W ⟨0, 0, none⟩ (u := c0) (by rw [hq0]; rfl)
      exact this
    refine ⟨hlt, fun j x hx => ?_⟩
    rw [q j]
    obtain ⟨rfl, rfl, rfl⟩ := h0
    obtain ⟨rfl, rfl, rfl⟩ := h1
    obtain ⟨rfl, rfl, rfl⟩ := h2
    obtain ⟨rfl, rfl, rfl⟩ := h3
    obtain ⟨rfl, rfl, rfl⟩ := h4
    unfold shapesC shapesL at hx
    simpa using hx
theorem envM_of {W : World} {l : List (String × _)} (hl : l = [("arbor/value.types", Rows.laid_arbor_value_types), ("arbor/code.operations", Rows.laid_arbor_code_operations), ("arbor/message.shapes", Rows.laid_arbor_message_shapes)]) (h : laidMetH Tryd.prog l W) : EnvM W := by
  refine ⟨env_of hl h, ?_⟩
  subst hl
  have h1 := h.filter (fun x => x.1 == "arbor/message.shapes")
  rw [show [("arbor/value.types", Rows.laid_arbor_value_types), ("arbor/code.operations", Rows.laid_arbor_code_operations), ("arbor/message.shapes", Rows.laid_arbor_message_shapes)].filter (fun x => x.1 == "arbor/message.shapes") = [("arbor/message.shapes", Rows.laid_arbor_message_shapes)] by rfl] at h1
  exact shapes_met h1
section
variable {H : Type} {enc : TypeId × Value → H} {W : World}
set_option maxRecDepth 100000 in
theorem val_read (fuel : Nat) (cs : List Value) (x : DataW H × List MemPlace) (h : DataW.trod enc Tryd.prog W 0 (fun _ => true) true fuel 48 cs = some x) : ∃ f : ValA, cs = f.cs ∧ True := by
  obtain ⟨xs, m, hm, _, hl, hlen, hf⟩ := DataW.trod_struct Tryd.underlying48 h
  have hl' : cs.length = 3 := hl.trans eVal
  match xs, hlen, cs, hl' with
  | [y0, y1, y2], _, [c0, c1, c2], _ =>
    have h0 : DataW.trod enc Tryd.prog W 0 (fun _ => true) true m 3 (([c0, c1, c2].drop 0).take (Tryd.prog.cellsOf 3)) = some y0 := hf 0 _ rfl
    have h1 : DataW.trod enc Tryd.prog W 0 (fun _ => true) true m 2 (([c0, c1, c2].drop 1).take (Tryd.prog.cellsOf 2)) = some y1 := hf 1 _ rfl
    have h2 : DataW.trod enc Tryd.prog W 0 (fun _ => true) true m 9 (([c0, c1, c2].drop 2).take (Tryd.prog.cellsOf 9)) = some y2 := hf 2 _ rfl
    rw [e3] at h0
    rw [e2] at h1
    rw [e9] at h2
    simp only [List.drop_zero, List.take_succ_cons, List.take_zero, List.drop_succ_cons] at h0 h1 h2
    obtain ⟨k, q0, _, _⟩ := DataW.trod_int Tryd.underlying3 h0
    obtain ⟨i, q1, _, w1⟩ := DataW.trod_int Tryd.underlying2 h1
    obtain ⟨s, q2, _, _⟩ := DataW.trod_string Tryd.underlying9 h2
    simp at q0 q1 q2
    exact ⟨⟨k, i, s.data.toList⟩, by rw [q0, q1, q2, str_of]; rfl, trivial⟩
theorem lenV {fuel : Nat} {c : Value} {x : DataW H × List MemPlace} (h : DataW.trod enc Tryd.prog W 0 (fun _ => true) true fuel 25 [c] = some x) (hw : ∀ n ∈ x.1.weights Tryd.prog 25, n ≤ reachBytes) {n : Nat} {xs : List Value} (hr : RowAt W c n xs) : n ≤ 4398046511104 := by
  obtain ⟨ao, cp, hform⟩ := hr.form
  rcases DataW.trod_slice Tryd.underlying25 h with ⟨hcs, _⟩ | ⟨a, len, cap, elems, rest, n', hn, hcs, hxx, _, hlc, _, hel, _, _, _⟩
  · simp at hcs
    rw [hcs] at hform
    simp at hform
    omega
  · have := hw ((elems.length + rest.length) * 32) (by
      rw [hxx]
      simp only [DataW.weights, Tryd.underlying25, List.length_map, bVal]
      exact List.mem_cons_self ..)
    unfold reachBytes at this
    simp at hcs
    rw [hcs] at hform
    simp at hform
    omega
theorem vals_in {fuel : Nat} {c : Value} {x : DataW H × List MemPlace} (h : DataW.trod enc Tryd.prog W 0 (fun _ => true) true fuel 25 [c] = some x) (hw : ∀ n ∈ x.1.weights Tryd.prog 25, n ≤ reachBytes) : ∃ l : List ValA, ValsAt W c l ∧ l.length ≤ 4398046511104 := by
  obtain ⟨l, hl, _⟩ := rowsOf ValA.cs 3 (by omega) (fun _ => rfl) Tryd.underlying25 eVal val_read h
  exact ⟨l, hl, lenV h hw hl⟩
set_option maxRecDepth 100000 in
/-- The message that came in. -/
theorem msg_in {fuel : Nat} {cs : List Value} {x : DataW H × List MemPlace} (h : DataW.trod enc Tryd.prog W 0 (fun _ => true) true fuel 28 cs = some x) (hw : ∀ n ∈ x.1.weights Tryd.prog 28, n ≤ reachBytes) :
    ∃ (m : MsgA) (vv cv : Value), cs = [.int .i64 m.kind, str m.key, vv, cv] ∧ ValsAt W vv m.vals ∧ BytesAt W cv m.code ∧ m.key.length ≤ 140737488355328 ∧ m.vals.length ≤ 4398046511104 ∧ m.code.length ≤ 140737488355328 := by
  obtain ⟨xs, m, hm, hx, hl, hlen, hf⟩ := DataW.trod_struct Tryd.underlying28 h
  have hl' : cs.length = 4 := hl.trans eMsg
  match xs, hlen, cs, hl' with
  | [y0, y1, y2, y3], _, [c0, c1, c2, c3], _ =>
    have h0 : DataW.trod enc Tryd.prog W 0 (fun _ => true) true m 3 (([c0, c1, c2, c3].drop 0).take (Tryd.prog.cellsOf 3)) = some y0 := hf 0 _ rfl
    have h1 : DataW.trod enc Tryd.prog W 0 (fun _ => true) true m 9 (([c0, c1, c2, c3].drop 1).take (Tryd.prog.cellsOf 9)) = some y1 := hf 1 _ rfl
    have h2 : DataW.trod enc Tryd.prog W 0 (fun _ => true) true m 25 (([c0, c1, c2, c3].drop 2).take (Tryd.prog.cellsOf 25)) = some y2 := hf 2 _ rfl
    have h3 : DataW.trod enc Tryd.prog W 0 (fun _ => true) true m 26 (([c0, c1, c2, c3].drop 3).take (Tryd.prog.cellsOf 26)) = some y3 := hf 3 _ rfl
    rw [e3] at h0
    rw [e9] at h1
    rw [eVals] at h2
    rw [eBytes] at h3
    simp only [List.drop_zero, List.take_succ_cons, List.take_zero, List.drop_succ_cons] at h0 h1 h2 h3
    have hws : ∀ n, n ∈ y0.1.weights Tryd.prog 3 ++ (y1.1.weights Tryd.prog 9 ++ (y2.1.weights Tryd.prog 25 ++ y3.1.weights Tryd.prog 26)) → n ≤ reachBytes := fun n hn => hw n (by
      rw [hx]
      simp only [DataW.weights, Tryd.underlying28, List.map_cons, List.map_nil, DataW.weightsEach, List.append_nil]
      exact hn)
    obtain ⟨k, q0, _, _⟩ := DataW.trod_int Tryd.underlying3 h0
    obtain ⟨s, q1, hd1, _⟩ := DataW.trod_string Tryd.underlying9 h1
    simp at q0 q1
    obtain ⟨l, hv, hlv⟩ := vals_in h2 (fun n hn => hws n (List.mem_append_right _ (List.mem_append_right _ (List.mem_append_left _ hn))))
    obtain ⟨t, hb, hlb⟩ := bytes_in h3 (fun n hn => hws n (List.mem_append_right _ (List.mem_append_right _ (List.mem_append_right _ hn))))
    have hs : s.data.toList.length ≤ 140737488355328 := by
      have := hws s.data.toList.length (List.mem_append_right _ (List.mem_append_left _ (by rw [hd1]; simp [DataW.weights])))
      unfold reachBytes at this
      omega
    exact ⟨⟨k, s.data.toList, l, t⟩, c2, c3, by rw [q0, q1, str_of], hv, hb, hs, hlv, hlb⟩
end
end Go.Proofs.YtcfnlnceoalnoaaDoor
namespace Go.Proofs.YtcfnlnceoalnoaaDoor
open Go.RowKit Go.Maps
/-- Two boxes: a schema's and a message's. -/
theorem two_boxesM (w : World) (sv a b c d : Value) : ∃ Wb, Wb = (w.alloc (.cells #[sv] 24)).alloc (.cells #[a, b, c, d] 28) ∧ Keeps (fun _ => False) w Wb ∧ w.heap.size + 1 < Wb.heap.size ∧ Wb.cell? ⟨w.heap.size, 0, none⟩ = some sv ∧ Wb.cell? ⟨w.heap.size + 1, 0, none⟩ = some a ∧ Wb.cell? ⟨w.heap.size + 1, 1, none⟩ = some b ∧ Wb.cell? ⟨w.heap.size + 1, 2, none⟩ = some c ∧ Wb.cell? ⟨w.heap.size + 1, 3, none⟩ = some d := by
  have k1 := kAlloc w (.cells #[sv] 24)
  have k2 := kAlloc (w.alloc (.cells #[sv] 24)) (.cells #[a, b, c, d] 28)
  have h1 := heap_alloc_new w (.cells #[sv] 24)
  have h2 := heap_alloc_new (w.alloc (.cells #[sv] 24)) (.cells #[a, b, c, d] 28)
  rw [show (w.alloc (.cells #[sv] 24)).heap.size = w.heap.size + 1 by simp] at h2
  have h1' := (k2.block _ (lt_of_block h1) id).trans h1
  exact ⟨_, rfl, k1.trans k2, lt_of_block h2, (cell_of_blk h1' _).trans rfl, (cell_of_blk h2 _).trans rfl, (cell_of_blk h2 _).trans rfl, (cell_of_blk h2 _).trans rfl, (cell_of_blk h2 _).trans rfl⟩
theorem shape_kinds {m : MsgA} (h : shapeB m = true) : (m.kind = 1 ∧ m.code = []) ∨ (m.kind = 2 ∧ m.vals = [] ∧ m.code = []) ∨ (m.kind = 3 ∧ m.vals = []) := by
  unfold shapeB at h
  simp only [Bool.or_eq_true, Bool.and_eq_true, decide_eq_true_eq] at h
  rcases h with (h | h) | h
  · exact Or.inl h
  · exact Or.inr (Or.inl ⟨h.1.1, h.1.2, h.2⟩)
  · exact Or.inr (Or.inr h)
set_option maxRecDepth 100000 in
set_option maxHeartbeats 4000000 in
theorem check_v (S : List FieldA) (sv vv cv : Value) (m : MsgA) (w : World) (hE : EnvM w) (hS : FldsAt w sv S) (hv : ValsAt w vv m.vals) (hc : BytesAt w cv m.code) (hkey : m.key.length ≤ 140737488355328) :
    Calls Tryd.prog 6 #[.agg #[sv], .agg #[.int .i64 m.kind, str m.key, vv, cv]] w fun e w' => e = .returned (.int .i64 (checkM S m)) ∧ Keeps (fun _ => False) w w' := by
  obtain ⟨so, sc, rfl⟩ := RowAt.form hS
  obtain ⟨vo, vc, rfl⟩ := RowAt.form hv
  obtain ⟨co, cc, rfl⟩ := RowAt.form hc
  obtain ⟨Wb, hWb0, hkb, hbs, s0, r0, r1, r2, r3⟩ := two_boxesM w (.slice so S.length sc) (.int .i64 m.kind) (str m.key) (.slice vo m.vals.length vc) (.slice co m.code.length cc)
  have hb0 : w.heap.size < Wb.heap.size := by omega
  have hWb := hWb0.symm
  have HB := hide hkb
  have HS := hide (hS.keepF hkb)
  have HV := hide (hv.keepF hkb)
  have HC := hide (hc.keepF hkb)
  have HE := hide (hE.keepF hkb)
  have HQ := hide (checkSchema_v S _ Wb (unhide HE).env.types (unhide HS))
  have HM : Hid (checkM S m = if errS S ≠ 0 then errS S else if shapeB m = false then 141 else if keyE m.key ≠ 0 then keyE m.key else if m.kind = 1 then errR S m.vals else if m.kind = 3 then codeE S m.code else 0) := rfl
  obtain ⟨R, hR⟩ : ∃ R, checkM S m = R := ⟨_, rfl⟩
  rw [hR] at HM ⊢
  clear hE hS hv hc hkb hWb0 hR
  go_enter Tryd.func6, Tryd.ntmps6
  go_wp2_with fail
  refine (unhide HQ).mono ?_
  rintro e w1 ⟨rfl, hk⟩
  have HK1 := hide hk
  have a0 := (hk.cell (o := 0) hb0 id).trans s0
  have a1 := (hk.cell (o := 0) hbs id).trans r0
  have a2 := (hk.cell (o := 1) hbs id).trans r1
  have a3 := (hk.cell (o := 2) hbs id).trans r2
  have a4 := (hk.cell (o := 3) hbs id).trans r3
  have l1 : w.heap.size + 1 < w1.heap.size := Nat.lt_of_lt_of_le hbs hk.size
  clear hk HQ hWb
  by_cases h1 : errS S = 0
  · rw [if_neg (show ¬ errS S ≠ 0 from fun q => q h1)] at HM
    rw [h1]
    have HQ := hide (rightShape_v m _ _ w1 ((unhide HE).keepF (unhide HK1)).sh ((unhide HV).keepF (unhide HK1)) ((unhide HC).keepF (unhide HK1)))
    go_wp2_with fail
    refine (unhide HQ).mono ?_
    rintro e w2 ⟨rfl, hk⟩
    have HK2 := hide ((unhide HK1).trans hk)
    have b0 := ((unhide HK2).cell (o := 0) hb0 id).trans s0
    have b1 := ((unhide HK2).cell (o := 0) hbs id).trans r0
    have b2 := ((unhide HK2).cell (o := 1) hbs id).trans r1
    have b3 := ((unhide HK2).cell (o := 2) hbs id).trans r2
    have b4 := ((unhide HK2).cell (o := 3) hbs id).trans r3
    have l2 : w.heap.size + 1 < w2.heap.size := Nat.lt_of_lt_of_le hbs (unhide HK2).size
    clear hk HQ a0 a1 a2 a3 a4 h1
    cases h2 : shapeB m with
    | false =>
      rw [if_pos h2] at HM
      go_wp2_with fail
      go_ret
      exact ⟨ret_int (unhide HM).symm, (unhide HB).trans (unhide HK2)⟩
    | true =>
      rw [if_neg (by rw [h2]; decide)] at HM
      have HQ := hide (checkKey_v m.key hkey w2)
      go_wp2_with fail
      refine (unhide HQ).mono ?_
      rintro e w3 ⟨rfl, rfl⟩
      clear HQ
      by_cases h3 : keyE m.key = 0
      · rw [if_neg (show ¬ keyE m.key ≠ 0 from fun q => q h3)] at HM
        rw [h3]
        clear h3
        rcases shape_kinds h2 with ⟨hk1, _⟩ | ⟨hk1, _⟩ | ⟨hk1, _⟩
        · rw [if_pos hk1] at HM
          rw [hk1] at b1
          have HQ := hide (val_check S _ m.vals _ w3 ((unhide HE).keepF (unhide HK2)).env.types ((unhide HS).keepF (unhide HK2)) ((unhide HV).keepF (unhide HK2)))
          rw [← unhide HM] at HQ
          clear hk1 h2
          go_wp2_with fail
          refine (unhide HQ).mono ?_
          rintro e w4 ⟨rfl, hk⟩
          have HK3 := hide ((unhide HK2).trans hk)
          clear hk HQ
          go_wp2_with fail
          go_ret
          exact ⟨rfl, (unhide HB).trans (unhide HK3)⟩
        · rw [if_neg (by omega), if_neg (by omega)] at HM
          rw [hk1] at b1
          clear hk1 h2
          go_wp2_with fail
          go_ret
          exact ⟨ret_int (unhide HM).symm, (unhide HB).trans (unhide HK2)⟩
        · rw [if_neg (by omega), if_pos hk1] at HM
          rw [hk1] at b1
          have HQ := hide (checkCode_v S _ _ m.code w3 ((unhide HE).keepF (unhide HK2)).env ((unhide HS).keepF (unhide HK2)) ((unhide HC).keepF (unhide HK2)))
          rw [← unhide HM] at HQ
          clear hk1 h2
          go_wp2_with fail
          refine (unhide HQ).mono ?_
          rintro e w4 ⟨rfl, hk⟩
          have HK3 := hide ((unhide HK2).trans hk)
          clear hk HQ
          go_wp2_with fail
          go_ret
          exact ⟨rfl, (unhide HB).trans (unhide HK3)⟩
      · rw [if_pos h3] at HM
        have be : (keyE m.key != 0) = true := by rw [bne_iff_ne]; exact h3
        generalize keyE m.key = KE at *
        clear h3 h2
        go_wp2_with fail
        go_ret
        exact ⟨ret_int (unhide HM).symm, (unhide HB).trans (unhide HK2)⟩
  · rw [if_pos h1] at HM
    have be : (errS S != 0) = true := by rw [bne_iff_ne]; exact h1
    generalize errS S = ES at *
    clear h1
    go_wp2_with fail
    go_ret
    exact ⟨ret_int (unhide HM).symm, (unhide HB).trans (unhide HK1)⟩
end Go.Proofs.YtcfnlnceoalnoaaDoor
