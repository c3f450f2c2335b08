import Derived.Test.YtcicaifioghciaaGreatDoorJzai
import Derived.Test.YtcicaifioghciaaGreatDoorJzag
import Derived.Test.YtcicaifioghciaaGreatDoorJzab
namespace Go.Proofs.YtcicaifioghciaaGreatDoor
open Go.ChangeShapes Go.WideShapes Go.ChangeAt Go.RowKit Go.Deep

instance : Inhabited FieldA := ⟨⟨[], 0, false⟩⟩
theorem e62 : Tryz.prog.cellsOf 55 = 3 := by kernel_rfl
theorem e39 : Tryz.prog.cellsOf 24 = 1 := by kernel_rfl
theorem e37 : Tryz.prog.cellsOf 22 = 1 := by kernel_rfl
theorem b62 : Tryz.prog.bytesOf 55 = 32 := by kernel_rfl
theorem b4 : Tryz.prog.bytesOf 4 = 1 := by kernel_rfl
/-- Bools in a slice. -/
def BlsAt (w : World) (v : Value) (l : List Bool) : Prop := RowAt w v l.length (l.map Value.bool)
section
variable {H : Type} {enc : TypeId × Value → H} {W : World}
set_option maxRecDepth 100000 in
theorem field_read (fuel : Nat) (cs : List Value) (x : DataW H × List MemPlace) (h : DataW.trod enc Tryz.prog W 0 (fun _ => true) true fuel 55 cs = some x) : ∃ f : FieldA, cs = f.cs ∧ True := by
  obtain ⟨xs, m, hm, _, hl, hlen, hf⟩ := DataW.trod_struct Tryz.underlying55 h
  have hl' : cs.length = 3 := hl.trans e62
  match xs, hlen, cs, hl' with
  | [y0, y1, y2], _, [c0, c1, c2], _ =>
    have h0 : DataW.trod enc Tryz.prog W 0 (fun _ => true) true m 9 (([c0, c1, c2].drop 0).take (Tryz.prog.cellsOf 9)) = some y0 := hf 0 _ rfl
    have h1 : DataW.trod enc Tryz.prog W 0 (fun _ => true) true m 3 (([c0, c1, c2].drop 1).take (Tryz.prog.cellsOf 3)) = some y1 := hf 1 _ rfl
    have h2 : DataW.trod enc Tryz.prog W 0 (fun _ => true) true m 4 (([c0, c1, c2].drop 2).take (Tryz.prog.cellsOf 4)) = some y2 := hf 2 _ rfl
    rw [e9] at h0
    rw [e3] at h1
    rw [e4] at h2
    simp only [List.drop_zero, List.take_succ_cons, List.take_zero, List.drop_succ_cons] at h0 h1 h2
    obtain ⟨s, q0, _, _⟩ := DataW.trod_string Tryz.underlying9 h0
    obtain ⟨k, q1, _, _⟩ := DataW.trod_int Tryz.underlying3 h1
    obtain ⟨o, q2, _⟩ := DataW.trod_bool Tryz.underlying4 h2
    simp at q0 q1 q2
    exact ⟨⟨s.data.toList, k, o⟩, by rw [q0, q1, q2, str_of]; rfl, trivial⟩
theorem bool_read (fuel : Nat) (cs : List Value) (x : DataW H × List MemPlace) (h : DataW.trod enc Tryz.prog W 0 (fun _ => true) true fuel 4 cs = some x) : ∃ f : Bool, cs = [Value.bool f] ∧ True := by
  obtain ⟨o, q2, _⟩ := DataW.trod_bool Tryz.underlying4 h
  exact ⟨o, q2, trivial⟩
theorem lenF {fuel : Nat} {c : Value} {x : DataW H × List MemPlace} (h : DataW.trod enc Tryz.prog W 0 (fun _ => true) true fuel 22 [c] = some x) (hw : ∀ n ∈ x.1.weights Tryz.prog 22, n ≤ reachBytes) {n : Nat} {xs : List Value} (hr : RowAt W c n xs) : n ≤ 4398046511104 := by
  obtain ⟨ao, cp, hform⟩ := hr.form
  rcases DataW.trod_slice Tryz.underlying22 h with ⟨hcs, _⟩ | ⟨a, len, cap, elems, rest, n', hn, hcs, hxx, _, hlc, _, hel, _, _, _⟩
  · simp at hcs
    rw [hcs] at hform
    simp at hform
    omega
  · have := hw ((elems.length + rest.length) * 32) (by
      rw [hxx]
      simp only [DataW.weights, Tryz.underlying22, List.length_map, b62]
      exact List.mem_cons_self ..)
    unfold reachBytes at this
    simp at hcs
    rw [hcs] at hform
    simp at hform
    omega
theorem lenB {fuel : Nat} {c : Value} {x : DataW H × List MemPlace} (h : DataW.trod enc Tryz.prog W 0 (fun _ => true) true fuel 58 [c] = some x) (hw : ∀ n ∈ x.1.weights Tryz.prog 58, n ≤ reachBytes) {n : Nat} {xs : List Value} (hr : RowAt W c n xs) : n ≤ 140737488355328 := by
  obtain ⟨ao, cp, hform⟩ := hr.form
  rcases DataW.trod_slice Tryz.underlying58 h with ⟨hcs, _⟩ | ⟨a, len, cap, elems, rest, n', hn, hcs, hxx, _, hlc, _, hel, _, _, _⟩
  · simp at hcs
    rw [hcs] at hform
    simp at hform
    omega
  · have := hw ((elems.length + rest.length) * 1) (by
      rw [hxx]
      simp only [DataW.weights, Tryz.underlying58, List.length_map, b4]
      exact List.mem_cons_self ..)
    unfold reachBytes at this
    simp at hcs
    rw [hcs] at hform
    simp at hform
    omega
theorem flat_bools : ∀ l : List Bool, l.flatMap (fun f : Bool => [Value.bool f]) = l.map Value.bool
  | [] => rfl
  | a :: r => by
    have := flat_bools r
    simp only [List.flatMap_cons, this]
    rfl
theorem bools_in {fuel : Nat} {c : Value} {x : DataW H × List MemPlace} (h : DataW.trod enc Tryz.prog W 0 (fun _ => true) true fuel 58 [c] = some x) (hw : ∀ n ∈ x.1.weights Tryz.prog 58, n ≤ reachBytes) : ∃ l : List Bool, BlsAt W c l ∧ l.length ≤ 140737488355328 := by
  obtain ⟨l, hl, _⟩ := rowsOf (fun f : Bool => [Value.bool f]) 1 (by omega) (fun _ => rfl) Tryz.underlying58 e4 bool_read h
  rw [flat_bools] at hl
  exact ⟨l, hl, lenB h hw hl⟩
set_option maxRecDepth 100000 in
/-- The schema that came in, with a bound on its length by what it weighs. -/
theorem schema_in {fuel : Nat} {cs : List Value} {x : DataW H × List MemPlace} (h : DataW.trod enc Tryz.prog W 0 (fun _ => true) true fuel 24 cs = some x) (hw : ∀ n ∈ x.1.weights Tryz.prog 24, n ≤ reachBytes) :
    ∃ (sv : Value) (S : List FieldA), cs = [sv] ∧ FldsAt W sv S ∧ S.length ≤ 4398046511104 := by
  obtain ⟨xs, m, hm, hx, hl, hlen, hf⟩ := DataW.trod_struct Tryz.underlying24 h
  have hl' : cs.length = 1 := hl.trans e39
  match xs, hlen, cs, hl' with
  | [y0], _, [c0], _ =>
    have h0 : DataW.trod enc Tryz.prog W 0 (fun _ => true) true m 22 (([c0].drop 0).take (Tryz.prog.cellsOf 22)) = some y0 := hf 0 _ rfl
    rw [e37] at h0
    simp only [List.drop_zero, List.take_succ_cons, List.take_zero] at h0
    have hw0 : ∀ n ∈ y0.1.weights Tryz.prog 22, n ≤ reachBytes := fun n hn => hw n (by
      rw [hx]
      simp only [DataW.weights, Tryz.underlying24, List.map_cons, List.map_nil, DataW.weightsEach, List.append_nil]
      exact hn)
    obtain ⟨l, hl, _⟩ := rowsOf FieldA.cs 3 (by omega) (fun _ => rfl) Tryz.underlying22 e62 field_read h0
    exact ⟨c0, l, rfl, hl, lenF h0 hw0 hl⟩
end
end Go.Proofs.YtcicaifioghciaaGreatDoor
namespace Go.Proofs.YtcicaifioghciaaGreatDoor
open Go.RowKit Go.Maps

def ks (l : List Int) : List Value := l.map fun k => Value.int .i64 k
theorem ks_length (l : List Int) : (ks l).length = l.length := by simp [ks]
/-- Kinds in a slice. -/
def KsAt (w : World) (v : Value) (l : List Int) : Prop := RowAt w v l.length (ks l)
theorem KsAt.keepF {w w' : World} {v : Value} {l : List Int} (h : KsAt w v l) (hk : Keeps (fun _ => False) w w') : KsAt w' v l := RowAt.keepF h hk
theorem KsAt.cells {w : World} {v : Value} {l : List Int} (h : KsAt w v l) (h0 : 0 < l.length) :
    ∃ b off cap, v = .slice (some ⟨b, off, none⟩) l.length cap ∧ b < w.heap.size ∧ ∀ i x, l[i]? = some x → w.cell? ⟨b, off + i, none⟩ = some (.int .i64 x) := by
  obtain ⟨b, off, cap, e, hb, hc⟩ := RowAt.cells h h0
  exact ⟨b, off, cap, e, hb, fun i x hx => hc i _ (by simp [ks, hx])⟩

/-- The type of the field that an instruction names. -/
def fldT (S : List FieldA) (i : ValA) : Int := ((S[i.n.toNat]?).map FieldA.type).getD 0
def ofF (S : List FieldA) (i : ValA) (k : Int) : Int := if k = 4 then fldT S i else k
def allowsB (o k : Int) : Bool := if o = 5 then decide (k = 1) || decide (k = 3) else if o = 6 then true else decide (o = k)
def takesB (S : List FieldA) (i : ValA) (vals : List Int) : Bool := vals.all fun k => decide (k = vals.headD 0) && allowsB (ofF S i (opA i.kind).of) k
def afterB (S : List FieldA) (i : ValA) (st : List Int) : List Int := st.take (st.length - (opA i.kind).takes) ++ (if (opA i.kind).gives ≠ 0 then [ofF S i (opA i.kind).gives] else [])
def behB (S : List FieldA) (i : ValA) (st : List Int) : Option (List Int) :=
  if st.length < (opA i.kind).takes then none
  else if takesB S i (st.drop (st.length - (opA i.kind).takes)) = false then none
  else if (afterB S i st).length ≤ 16 then some (afterB S i st) else none
/-- Does the schema have the field that an instruction names, as it must be? -/
def rightF (S : List FieldA) (i : ValA) : Bool :=
  if (opA i.kind).opd = 3 then decide (i.n < S.length)
  else if (opA i.kind).opd = 4 then decide (i.n < S.length) && ((S[i.n.toNat]?).map FieldA.opt).getD false
  else if (opA i.kind).opd = 5 then decide (i.n < S.length) && decide (fldT S i = 1) else true

theorem allows_v (o k : Int) (w : World) : Calls Tryz.prog 117 #[.int .i64 o, .int .i64 k] w fun e w' => e = .returned (.bool (allowsB o k)) ∧ w' = w := by
  go_enter Tryz.func117, Tryz.ntmps117
  go_wp2
  all_goals
    go_ret
    refine ⟨ret_bool ?_, rfl⟩
    apply Bool.eq_iff_iff.2
    simp_all [allowsB]

set_option maxRecDepth 100000 in
set_option maxHeartbeats 1000000 in
theorem isJump_v (i : ValA) (w : World) (hO : Ops w) (ho : opdB i.kind ≠ -1) : Calls Tryz.prog 77 #[i.v] w fun e w' => e = .returned (.bool (decide ((opA i.kind).opd = 6))) ∧ Keeps (fun _ => False) w w' := by
  obtain ⟨k, n, s⟩ := i
  unfold ValA.v
  simp only at *
  obtain ⟨h1, h2⟩ := opdB_range ho
  obtain ⟨m, rfl⟩ := Int.eq_ofNat_of_zero_le (show 0 ≤ k by omega)
  obtain ⟨HX, hxb, hxc⟩ := boxed w #[.int .i64 (m : Int), .int .i64 n, str s] 51
  have f0 := hxc 0 (.int .i64 (m : Int)) rfl
  have g1 := ((hO.keepF (unhide HX)).at (m := m) (by omega)).1
  have i0 : (0 : Int) ≤ (m : Int) := by omega
  have i1 : (m : Int) < 27 := by omega
  clear hxc hO hxb ho h1 h2
  generalize (opA (m : Int)).opd = d at *
  go_enter Tryz.func77, Tryz.ntmps77
  go_wp2
  go_ret
  exact ⟨ret_bool (by apply Bool.eq_iff_iff.2; simp), (Keeps.refl _ _).alloc _⟩

set_option maxRecDepth 100000 in
theorem target_v (a : Nat) (i : ValA) (w : World) (ha : a ≤ 4096) (h0 : 0 ≤ i.n) (h1 : i.n ≤ 255) : Calls Tryz.prog 49 #[.int .i64 (a : Int), i.v] w fun e w' => e = .returned (.int .i64 ((a + 1 + i.n.toNat : Nat) : Int)) ∧ Keeps (fun _ => False) w w' := by
  obtain ⟨k, n, s⟩ := i
  unfold ValA.v
  simp only at *
  obtain ⟨HX, hxb, hxc⟩ := boxed w #[.int .i64 k, .int .i64 n, str s] 51
  have f1 := hxc 1 (.int .i64 n) rfl
  clear hxc hxb
  go_enter Tryz.func49, Tryz.ntmps49
  go_wp2
  go_ret
  exact ⟨ret_int (by omega), (Keeps.refl _ _).alloc _⟩

set_option maxRecDepth 100000 in
set_option maxHeartbeats 1000000 in
theorem ofField_v (S : List FieldA) (so : Option Addr) (sc : Nat) (i : ValA) (k : Int) (w : World) (hS : FldsAt w (.slice so S.length sc) S) (hk : k = 4 → 0 ≤ i.n ∧ i.n < S.length) : Calls Tryz.prog 103 #[.agg #[.slice so S.length sc], i.v, .int .i64 k] w fun e w' => e = .returned (.int .i64 (ofF S i k)) ∧ Keeps (fun _ => False) w w' := by
  obtain ⟨kd, n, s⟩ := i
  unfold ValA.v
  simp only at *
  obtain ⟨HX, hxb, hxc⟩ := boxed w #[.slice so S.length sc] 24
  obtain ⟨HY, hyb, hyc⟩ := boxed (w.alloc (.cells #[.slice so S.length sc] 24)) #[.int .i64 kd, .int .i64 n, str s] 51
  have x0 := ((unhide HY).cell hxb id).trans (hxc 0 (.slice so S.length sc) rfl)
  have y1 := hyc 1 (.int .i64 n) rfl
  rw [World.size_alloc] at y1
  have HK := hide ((unhide HX).trans (unhide HY))
  by_cases h4 : k = 4
  · obtain ⟨h0, h1⟩ := hk h4
    obtain ⟨m, rfl⟩ := Int.eq_ofNat_of_zero_le h0
    obtain ⟨f, hf⟩ : ∃ f, S[m]? = some f := ⟨_, List.getElem?_eq_getElem (by omega)⟩
    obtain ⟨fb, foff, fc, fe, hfb, hfc⟩ := (hS.keepF (unhide HK)).cells (by omega)
    simp only [Value.slice.injEq] at fe
    obtain ⟨rfl, _, rfl⟩ := fe
    have c1 := (hfc m f hf).2.1
    have HE : Hid (ofF S ⟨kd, m, s⟩ k = f.type) := by show _ = _; simp [ofF, h4, fldT, hf]
    have b4 : (k == 4) = true := by simpa using h4
    have i0 : (0 : Int) ≤ (m : Int) := by omega
    clear hfc hf hS hxc hyc hk h4 HX HY
    go_enter Tryz.func103, Tryz.ntmps103
    go_wp2_with fail
    go_ret
    exact ⟨ret_int (unhide HE).symm, unhide HK⟩
  · have HE : Hid (ofF S ⟨kd, n, s⟩ k = k) := by show _ = _; simp [ofF, h4]
    have b4 : (k == 4) = false := by simpa using h4
    clear hS hxc hyc hk h4 HX HY
    go_enter Tryz.func103, Tryz.ntmps103
    go_wp2_with fail
    go_ret
    exact ⟨ret_int (unhide HE).symm, unhide HK⟩

set_option maxRecDepth 100000 in
set_option maxHeartbeats 1000000 in
theorem equal_v (w : World) (va vb : Value) (la lb : List Int) (ha : KsAt w va la) (hb : KsAt w vb lb) (hla : la.length ≤ 4096) :
    Calls Tryz.prog 100 #[va, vb] w fun e w' => e = .returned (.bool (decide (la = lb))) ∧ ∃ n, w' = w.drewN n := by
  obtain ⟨ao, capa, rfl⟩ := RowAt.form ha
  obtain ⟨bo, capb, rfl⟩ := RowAt.form hb
  by_cases hlen : la.length = lb.length
  · have hne : ((la.length : Int) != (lb.length : Int)) = false := by simp [hlen]
    have HA := hide ha
    have HB := hide hb
    have HL := hide hlen
    clear ha hb hlen
    go_enter Tryz.func100, Tryz.ntmps100
    go_wp2
    go_loopw [13] (fun i wr => ∃ k : Nat, k ≤ la.length ∧ i = .int .i64 k ∧ Hid (la.take k = lb.take k) ∧ ∃ n, wr = w.drewN n) (fun i _ => la.length - (intOf i).toNat)
    case atStart => exact ⟨0, Nat.zero_le _, rfl, rfl, 0, rfl⟩
    case round =>
      obtain ⟨k, hk, rfl, HT, n, rfl⟩ := hrel
      by_cases hlt : k < la.length
      · have hltb : k < lb.length := by have := unhide HL; omega
        obtain ⟨b1, o1, c1, e1, _, hc1⟩ := (unhide HA).cells (by omega)
        obtain ⟨b2, o2, c2, e2, _, hc2⟩ := (unhide HB).cells (by omega)
        simp at e1 e2
        obtain ⟨rfl, rfl⟩ := e1
        obtain ⟨rfl, rfl⟩ := e2
        obtain ⟨x, hx⟩ : ∃ x, la[k]? = some x := ⟨_, List.getElem?_eq_getElem hlt⟩
        obtain ⟨y, hy⟩ : ∃ y, lb[k]? = some y := ⟨_, List.getElem?_eq_getElem hltb⟩
        have q1 := hc1 k x hx
        have q2 := hc2 k y hy
        have i1 : (k : Int) < (la.length : Int) := by omega
        have i2 : (k : Int) < (lb.length : Int) := by omega
        have HX := hide hx
        have HY := hide hy
        clear hc1 hc2 hx hy
        go_wp2_with fail
        go_quiet (fail)
        by_cases hxy : x = y
        · subst hxy
          go_wp2
          go_roundw
          case rel => exact ⟨k + 1, by omega, by go_num, take_succ_eq (unhide HT) (unhide HX) (unhide HY), _, rfl⟩
          case measure => simp [intOf]; omega
        · have hb' : (x != y) = true := by rw [bne_iff_ne]; exact hxy
          have HN := hide hxy
          clear hxy
          go_wp2
          go_ret
          exact ⟨ret_bool (by symm; rw [decide_eq_false_iff_not]; exact get_ne (unhide HX) (unhide HY) (unhide HN)), n + nq, by simp⟩
      · have HF := hide (take_end (unhide HL) (by omega) (unhide HT))
        go_wp2
        go_ret
        exact ⟨ret_bool (by symm; rw [decide_eq_true_iff]; exact unhide HF), _, rfl⟩
  · have hne : ((la.length : Int) != (lb.length : Int)) = true := by rw [bne_iff_ne]; omega
    have HL := hide hlen
    clear hlen
    go_enter Tryz.func100, Tryz.ntmps100
    go_wp2
    go_ret
    exact ⟨ret_bool (by symm; rw [decide_eq_false_iff_not]; intro e; exact unhide HL (by rw [e])), 0, rfl⟩

end Go.Proofs.YtcicaifioghciaaGreatDoor
namespace Go.Proofs.YtcicaifioghciaaGreatDoor
open Go.RowKit Go.Maps

theorem form_field {i : ValA} (h : formB i = 0) (h3 : (opA i.kind).opd = 3 ∨ (opA i.kind).opd = 4 ∨ (opA i.kind).opd = 5) : 0 ≤ i.n ∧ i.n < 8 := by
  obtain ⟨ho, hr⟩ := formB_zero h
  have hb : opdB i.kind = 3 := by
    rcases opd_cases ho with ⟨e1, e2⟩ | ⟨e1, e2⟩ | ⟨e1, e2⟩ | ⟨e1, e2⟩ | ⟨e1, e2⟩ | ⟨e1, e2⟩ | ⟨e1, e2⟩
    all_goals first | exact e2 | (rw [e1] at h3; simp at h3)
  exact ((rightB_at hr).2.2.2.1 hb).1
theorem form_jump {i : ValA} (h : formB i = 0) (h6 : (opA i.kind).opd = 6) : 0 ≤ i.n ∧ i.n ≤ 255 := by
  obtain ⟨ho, hr⟩ := formB_zero h
  have hb : opdB i.kind = 4 := by
    rcases opd_cases ho with ⟨e1, e2⟩ | ⟨e1, e2⟩ | ⟨e1, e2⟩ | ⟨e1, e2⟩ | ⟨e1, e2⟩ | ⟨e1, e2⟩ | ⟨e1, e2⟩
    all_goals first | exact e2 | (rw [e1] at h6; simp at h6)
  exact ((rightB_at hr).2.2.2.2 hb).1
set_option maxRecDepth 100000 in
set_option maxHeartbeats 2000000 in
theorem rightField_v (S : List FieldA) (so : Option Addr) (sc : Nat) (i : ValA) (w : World) (hO : Ops w) (hS : FldsAt w (.slice so S.length sc) S) (hf : formB i = 0) : Calls Tryz.prog 76 #[.agg #[.slice so S.length sc], i.v] w fun e w' => e = .returned (.bool (rightF S i)) ∧ Keeps (fun _ => False) w w' := by
  obtain ⟨ho, _⟩ := formB_zero hf
  have hff := form_field hf
  obtain ⟨kd, n, s⟩ := i
  unfold ValA.v
  simp only at *
  obtain ⟨h1, h2⟩ := opdB_range ho
  obtain ⟨m, rfl⟩ := Int.eq_ofNat_of_zero_le (show 0 ≤ kd by omega)
  obtain ⟨HX, hxb, hxc⟩ := boxed w #[.slice so S.length sc] 24
  obtain ⟨HY, hyb, hyc⟩ := boxed (w.alloc (.cells #[.slice so S.length sc] 24)) #[.int .i64 (m : Int), .int .i64 n, str s] 51
  have x0 := ((unhide HY).cell hxb id).trans (hxc 0 (.slice so S.length sc) rfl)
  have y0 := hyc 0 (.int .i64 (m : Int)) rfl
  have y1 := hyc 1 (.int .i64 n) rfl
  rw [World.size_alloc] at y0 y1
  have HK := hide ((unhide HX).trans (unhide HY))
  have g1 := ((hO.keepF (unhide HK)).at (m := m) (by omega)).1
  have i0 : (0 : Int) ≤ (m : Int) := by omega
  have i1 : (m : Int) < 27 := by omega
  have HS := hide (hS.keepF (unhide HK))
  have HRF : Hid (rightF S ⟨m, n, s⟩ = if (opA (m : Int)).opd = 3 then decide (n < S.length) else if (opA (m : Int)).opd = 4 then decide (n < S.length) && ((S[n.toNat]?).map FieldA.opt).getD false else if (opA (m : Int)).opd = 5 then decide (n < S.length) && decide (((S[n.toNat]?).map FieldA.type).getD 0 = 1) else true) := rfl
  rw [unhide HRF]
  clear hxc hyc hO hS HX HY ho h1 h2 hxb hyb hf HRF
  generalize (opA (m : Int)).opd = d at *
  by_cases d3 : d = 3
  · subst d3
    go_enter Tryz.func76, Tryz.ntmps76
    go_wp2
    go_ret
    exact ⟨ret_bool (by simp), unhide HK⟩
  by_cases d4 : d = 4 ∨ d = 5
  · obtain ⟨n0, n8⟩ := hff (by omega)
    obtain ⟨p, rfl⟩ := Int.eq_ofNat_of_zero_le n0
    by_cases hlt : p < S.length
    · obtain ⟨f, hf⟩ : ∃ f, S[p]? = some f := ⟨_, List.getElem?_eq_getElem hlt⟩
      obtain ⟨fb, foff, fc, fe, hfb, hfc⟩ := (unhide HS).cells (by omega)
      simp only [Value.slice.injEq] at fe
      obtain ⟨rfl, _, rfl⟩ := fe
      have c1 := (hfc p f hf).2.1
      have c2 := (hfc p f hf).2.2
      have j1 : (p : Int) < (S.length : Int) := by omega
      have j2 : decide ((p : Int) < (S.length : Int)) = true := decide_eq_true j1
      have HF := hide hf
      clear hfc hf hff
      rcases d4 with rfl | rfl
      · go_enter Tryz.func76, Tryz.ntmps76
        go_wp2
        go_ret
        refine ⟨ret_bool ?_, unhide HK⟩
        have hf := unhide HF
        obtain ⟨_, he⟩ := List.getElem?_eq_some_iff.mp hf
        first | (rw [he]; done) | (simp [he]; done) | (rw [← he]; done) | (subst he; simp; done)
      · go_enter Tryz.func76, Tryz.ntmps76
        go_wp2
        go_ret
        refine ⟨ret_bool ?_, unhide HK⟩
        have hf := unhide HF
        obtain ⟨_, he⟩ := List.getElem?_eq_some_iff.mp hf
        rw [he, Bool.eq_iff_iff, beq_iff_eq, decide_eq_true_iff]
    · have j2 : decide ((p : Int) < (S.length : Int)) = false := decide_eq_false (by omega)
      clear hff
      rcases d4 with rfl | rfl
      · go_enter Tryz.func76, Tryz.ntmps76
        go_wp2
        go_ret
        refine ⟨ret_bool ?_, unhide HK⟩
        simp
      · go_enter Tryz.func76, Tryz.ntmps76
        go_wp2
        go_ret
        refine ⟨ret_bool ?_, unhide HK⟩
        simp
  · have b3 : (d == 3) = false := by simpa using d3
    have b4 : (d == 4) = false := by simp; omega
    have b5 : (d == 5) = false := by simp; omega
    have HE : Hid ((if d = 3 then decide (n < S.length) else if d = 4 then decide (n < S.length) && ((S[n.toNat]?).map FieldA.opt).getD false else if d = 5 then decide (n < S.length) && decide (((S[n.toNat]?).map FieldA.type).getD 0 = 1) else true) = true) := by show _ = _; rw [if_neg d3, if_neg (by omega), if_neg (by omega)]
    rw [unhide HE]
    clear d3 d4 hff
    go_enter Tryz.func76, Tryz.ntmps76
    go_wp2
    go_ret
    exact ⟨rfl, unhide HK⟩

/-- The first instruction that is wrong by itself. -/
def scanI (S : List FieldA) : Nat → List ValA → Option (Nat × Int)
  | _, [] => none
  | k, i :: r => if formB i ≠ 0 then some (k, formB i) else if rightF S i = false then some (k, 113) else scanI S (k + 1) r
def checkI (S : List FieldA) (l : List ValA) : Nat × Int := if 96 < l.length then (l.length, 110) else match scanI S 0 l with
  | some p => p
  | none => if 96 < (bytesC l).length then (l.length, 110) else (0, 0)
/-- The first jump that leads too far. -/
def scanT (N : Nat) : Nat → List ValA → Option (Nat × Int)
  | _, [] => none
  | k, i :: r => if (opA i.kind).opd = 6 ∧ N < k + 1 + i.n.toNat then some (k, 111) else scanT N (k + 1) r
def checkT (l : List ValA) : Nat × Int := (scanT l.length 0 l).getD (0, 0)
theorem scanI_drop {S : List FieldA} {l : List ValA} {k : Nat} {x : ValA} (h : l[k]? = some x) : scanI S k (l.drop k) = if formB x ≠ 0 then some (k, formB x) else if rightF S x = false then some (k, 113) else scanI S (k + 1) (l.drop (k + 1)) := by
  obtain ⟨hk, hx⟩ := List.getElem?_eq_some_iff.1 h
  rw [List.drop_eq_getElem_cons hk, hx, scanI]
theorem scanT_drop {N : Nat} {l : List ValA} {k : Nat} {x : ValA} (h : l[k]? = some x) : scanT N k (l.drop k) = if (opA x.kind).opd = 6 ∧ N < k + 1 + x.n.toNat then some (k, 111) else scanT N (k + 1) (l.drop (k + 1)) := by
  obtain ⟨hk, hx⟩ := List.getElem?_eq_some_iff.1 h
  rw [List.drop_eq_getElem_cons hk, hx, scanT]
theorem scanI_none {S : List FieldA} : ∀ {l : List ValA} {k : Nat}, scanI S k l = none → ∀ i ∈ l, formB i = 0 ∧ rightF S i = true
  | [], _, _ => by intro i hi; simp at hi
  | x :: r, k, h => by
    rw [scanI] at h
    by_cases h1 : formB x = 0
    · rw [if_neg (by simpa using h1)] at h
      cases h2 : rightF S x with
      | false => rw [if_pos h2] at h; cases h
      | true =>
        rw [if_neg (by simp [h2])] at h
        intro i hi
        rcases List.mem_cons.1 hi with rfl | hi
        · exact ⟨h1, h2⟩
        · exact scanI_none h i hi
    · rw [if_pos h1] at h; cases h
set_option maxRecDepth 100000 in
set_option maxHeartbeats 2000000 in
theorem checkTargets_v (l : List ValA) (v : Value) (w : World) (hO : Ops w) (h : ValsAt w v l) (hl : l.length ≤ 96) (hF : ∀ i ∈ l, formB i = 0) :
    Calls Tryz.prog 53 #[v] w fun e w' => e = .returned (.tuple #[.int .i64 ((checkT l).1 : Int), .int .i64 (checkT l).2]) ∧ Keeps (fun _ => False) w w' := by
  obtain ⟨ao, cap, rfl⟩ := RowAt.form h
  have HO := hide hO
  have HV := hide h
  have HF := hide hF
  have HC : Hid (checkT l = (scanT l.length 0 l).getD (0, 0)) := rfl
  generalize checkT l = C at *
  clear hO h hF
  go_enter Tryz.func53, Tryz.ntmps53
  go_wp2_with fail
  go_loopw [8] (fun i wr => ∃ k : Nat, k ≤ l.length ∧ i = .int .i64 k ∧ Hid (scanT l.length 0 l = scanT l.length k (l.drop k)) ∧ Keeps (fun _ => False) w wr) (fun i _ => l.length - (intOf i).toNat)
  case atStart => exact ⟨0, Nat.zero_le _, rfl, by simp [Hid], Keeps.refl _ _⟩
  case round =>
    obtain ⟨k, hk, rfl, HS, hkp⟩ := hrel
    have HK := hide hkp
    by_cases hlt : k < l.length
    · obtain ⟨x, hx⟩ : ∃ x, l[k]? = some x := ⟨_, List.getElem?_eq_getElem hlt⟩
      obtain ⟨b, off, c, e, hbl, hc⟩ := (unhide HV).cells (by omega)
      simp at e
      obtain ⟨rfl, rfl⟩ := e
      have c0 := (hkp.cell hbl id).trans (hc k x hx).1
      have c1 := (hkp.cell hbl id).trans (hc k x hx).2.1
      have c2 := (hkp.cell hbl id).trans (hc k x hx).2.2
      have hxf := (unhide HF) x (List.mem_of_getElem? hx)
      have HD := hide (scanT_drop (N := l.length) hx)
      obtain ⟨HX, hxb, hxc⟩ := boxed wr #[.int .i64 x.kind, .int .i64 x.n, str x.s] 51
      have a0 := hxc 0 (.int .i64 x.kind) rfl
      have a1 := hxc 1 (.int .i64 x.n) rfl
      have a2 := hxc 2 (str x.s) rfl
      have HKX := hide ((unhide HK).trans (unhide HX))
      have HQ := hide (isJump_v x _ ((unhide HO).keepF (unhide HKX)) (formB_zero hxf).1)
      have hxj := form_jump hxf
      have i2 : (k : Int) < (l.length : Int) := by omega
      have i0' : (0 : Int) ≤ (k : Int) := by omega
      unfold ValA.v at HQ
      clear hc hx hkp hxc
      go_wp2_with fail
      refine (unhide HQ).mono ?_
      rintro e w2 ⟨rfl, hk2⟩
      have HK2 := hide ((unhide HKX).trans hk2)
      by_cases hj : (opA x.kind).opd = 6
      · obtain ⟨n0, n1⟩ := hxj hj
        have d0 := (hk2.cell hxb id).trans a0
        have d1 := (hk2.cell hxb id).trans a1
        have d2 := (hk2.cell hxb id).trans a2
        have HT := hide (target_v k x w2 (by omega) n0 n1)
        unfold ValA.v at HT
        rw [decide_eq_true hj]
        obtain ⟨TG, hTG⟩ : ∃ TG : Nat, k + 1 + x.n.toNat = TG := ⟨_, rfl⟩
        rw [hTG] at HT HD
        have HJ := hide hj
        clear hk2 HQ HX hj hxj a0 a1 a2 hTG
        go_wp2_with fail
        refine (unhide HT).mono ?_
        rintro e w3 ⟨rfl, hk3⟩
        have HK3 := hide ((unhide HK2).trans hk3)
        clear hk3 HT
        by_cases hbig : l.length < TG
        · have b1 : (l.length : Int) < (TG : Int) := by omega
          have HE : Hid (C = (k, 111)) := by
            show _ = _
            rw [unhide HC, unhide HS, unhide HD, if_pos ⟨unhide HJ, hbig⟩]
            rfl
          go_wp2_with fail
          go_ret2
          rw [unhide HE]
          exact ⟨rfl, unhide HK3⟩
        · have b1 : ¬ (l.length : Int) < (TG : Int) := by omega
          have HE : Hid (scanT l.length 0 l = scanT l.length (k + 1) (l.drop (k + 1))) := by
            show _ = _
            rw [unhide HS, unhide HD, if_neg (fun h => hbig h.2)]
          go_wp2_with fail
          go_roundw
          case rel => exact ⟨k + 1, by omega, by go_num, HE, unhide HK3⟩
          case measure => simp [intOf]; omega
      · rw [decide_eq_false hj]
        have HE : Hid (scanT l.length 0 l = scanT l.length (k + 1) (l.drop (k + 1))) := by
          show _ = _
          rw [unhide HS, unhide HD, if_neg (fun h => hj h.1)]
        clear hk2 HQ HX hj hxj a0 a1 a2
        go_wp2_with fail
        go_roundw
        case rel => exact ⟨k + 1, by omega, by go_num, HE, unhide HK2⟩
        case measure => simp [intOf]; omega
    · obtain rfl : k = l.length := by omega
      have i2 : ¬ (l.length : Int) < (l.length : Int) := by omega
      have HE : Hid (C = (0, 0)) := by
        show _ = _
        rw [unhide HC, unhide HS, List.drop_length]
        rfl
      clear hlt hkp
      go_wp2_with fail
      go_ret2
      rw [unhide HE]
      exact ⟨rfl, unhide HK⟩

end Go.Proofs.YtcicaifioghciaaGreatDoor
namespace Go.Proofs.YtcicaifioghciaaGreatDoor
open Go.RowKit Go.Maps

theorem checkI_long {S : List FieldA} {l : List ValA} (h : 96 < l.length) : checkI S l = (l.length, 110) := by unfold checkI; rw [if_pos h]
theorem checkI_some {S : List FieldA} {l : List ValA} {p : Nat × Int} (h : l.length ≤ 96) (h2 : scanI S 0 l = some p) : checkI S l = p := by unfold checkI; rw [if_neg (by omega), h2]
theorem checkI_big {S : List FieldA} {l : List ValA} (h : l.length ≤ 96) (h2 : scanI S 0 l = none) (h3 : 96 < (bytesC l).length) : checkI S l = (l.length, 110) := by unfold checkI; rw [if_neg (by omega), h2]; simp only; rw [if_pos h3]
theorem checkI_ok {S : List FieldA} {l : List ValA} (h : l.length ≤ 96) (h2 : scanI S 0 l = none) (h3 : (bytesC l).length ≤ 96) : checkI S l = (0, 0) := by unfold checkI; rw [if_neg (by omega), h2]; simp only; rw [if_neg (by omega)]

set_option maxRecDepth 100000 in
set_option maxHeartbeats 2000000 in
theorem checkInstructions_v (S : List FieldA) (so : Option Addr) (sc : Nat) (l : List ValA) (v : Value) (w : World) (hO : Ops w) (hT : Types w) (hS : FldsAt w (.slice so S.length sc) S) (h : ValsAt w v l) (hI : InR l) :
    Calls Tryz.prog 52 #[.agg #[.slice so S.length sc], v] w fun e w' => e = .returned (.tuple #[.int .i64 ((checkI S l).1 : Int), .int .i64 (checkI S l).2]) ∧ Keeps (fun _ => False) w w' := by
  obtain ⟨ao, cap, rfl⟩ := RowAt.form h
  obtain ⟨HB, hbb, hbc⟩ := boxed w #[.slice so S.length sc] 24
  have s0 := hbc 0 (.slice so S.length sc) rfl
  by_cases h96 : 96 < l.length
  · rw [checkI_long h96]
    have i1 : (96 : Int) < (l.length : Int) := by omega
    clear h hO hT hI hbc hbb
    go_enter Tryz.func52, Tryz.ntmps52
    go_wp2_with fail
    go_ret2
    exact ⟨rfl, unhide HB⟩
  · have hl : l.length ≤ 96 := by omega
    have i1 : ¬ (96 : Int) < (l.length : Int) := by omega
    have HO := hide hO
    have HT := hide hT
    have HV := hide h
    have HI := hide hI
    have HS := hide hS
    clear hO hT h hI h96 hS hbc
    go_enter Tryz.func52, Tryz.ntmps52
    go_wp2_with fail
    go_loopw [16] (fun i wr => ∃ k : Nat, k ≤ l.length ∧ i = .int .i64 k ∧ Hid (scanI S 0 l = scanI S k (l.drop k)) ∧ Keeps (fun _ => False) (w.alloc (.cells #[.slice so S.length sc] 24)) wr) (fun i _ => l.length - (intOf i).toNat)
    case atStart => exact ⟨0, Nat.zero_le _, rfl, by simp [Hid], Keeps.refl _ _⟩
    case round =>
      obtain ⟨k, hk, rfl, HS0, hkp⟩ := hrel
      have s1 := (hkp.cell hbb id).trans s0
      have HK := hide ((unhide HB).trans hkp)
      by_cases hlt : k < l.length
      · obtain ⟨x, hx⟩ : ∃ x, l[k]? = some x := ⟨_, List.getElem?_eq_getElem hlt⟩
        obtain ⟨b, off, c, e, hbl, hc⟩ := (unhide HV).cells (by omega)
        simp at e
        obtain ⟨rfl, rfl⟩ := e
        have c0 := ((unhide HK).cell hbl id).trans (hc k x hx).1
        have c1 := ((unhide HK).cell hbl id).trans (hc k x hx).2.1
        have c2 := ((unhide HK).cell hbl id).trans (hc k x hx).2.2
        have HD := hide (scanI_drop (S := S) hx)
        obtain ⟨HX, hxb, hxc⟩ := boxed wr #[.int .i64 x.kind, .int .i64 x.n, str x.s] 51
        have a0 := hxc 0 (.int .i64 x.kind) rfl
        have a1 := hxc 1 (.int .i64 x.n) rfl
        have a2 := hxc 2 (str x.s) rfl
        have hbr : w.heap.size < wr.heap.size := Nat.lt_of_lt_of_le hbb hkp.size
        have s2 := ((unhide HX).cell hbr id).trans s1
        have hbr2 := Nat.lt_of_lt_of_le hbr (unhide HX).size
        have HKX := hide ((unhide HK).trans (unhide HX))
        have HQ := hide (checkForm_v x _ ((unhide HO).keepF (unhide HKX)))
        have i2 : (k : Int) < (l.length : Int) := by omega
        have i0' : (0 : Int) ≤ (k : Int) := by omega
        unfold ValA.v at HQ
        have HJX := hide (hkp.trans (unhide HX))
        clear hc hx hkp hxc
        go_wp2_with fail
        refine (unhide HQ).mono ?_
        rintro e w2 ⟨rfl, hk2⟩
        have HK2 := hide ((unhide HKX).trans hk2)
        have HJ2 := hide ((unhide HJX).trans hk2)
        by_cases hf : formB x = 0
        · rw [hf]
          have s3 := (hk2.cell hbr2 id).trans s2
          have d0 := (hk2.cell hxb id).trans a0
          have d1 := (hk2.cell hxb id).trans a1
          have d2 := (hk2.cell hxb id).trans a2
          have HR := hide (rightField_v S so sc x w2 ((unhide HO).keepF (unhide HK2)) ((unhide HS).keepF (unhide HK2)) hf)
          unfold ValA.v at HR
          have HF := hide hf
          clear hk2 HQ HX a0 a1 a2 hf s2 s1 c0 c1 c2 HKX
          go_wp2_with fail
          refine (unhide HR).mono ?_
          rintro e w3 ⟨rfl, hk3⟩
          have HK3 := hide ((unhide HK2).trans hk3)
          have HJ3 := hide ((unhide HJ2).trans hk3)
          clear hk3 HR
          cases hr : rightF S x with
          | true =>
            have HE : Hid (scanI S 0 l = scanI S (k + 1) (l.drop (k + 1))) := by
              show _ = _
              rw [unhide HS0, unhide HD, if_neg (by simpa using unhide HF), if_neg (by simp [hr])]
            go_wp2_with fail
            go_roundw
            case rel => exact ⟨k + 1, by omega, by go_num, HE, unhide HJ3⟩
            case measure => simp [intOf]; omega
          | false =>
            have HE : Hid (checkI S l = (k, 113)) := by
              show _ = _
              refine checkI_some hl ?_
              rw [unhide HS0, unhide HD, if_neg (by simpa using unhide HF), if_pos hr]
            go_wp2_with fail
            go_ret2
            rw [unhide HE]
            exact ⟨rfl, unhide HK3⟩
        · have HE : Hid (checkI S l = (k, formB x)) := by
            show _ = _
            refine checkI_some hl ?_
            rw [unhide HS0, unhide HD, if_pos hf]
          have hf2 : (formB x != 0) = true := by simpa using hf
          clear hf HD HQ hk2 HX
          generalize formB x = E at *
          go_wp2_with fail
          go_ret2
          rw [unhide HE]
          exact ⟨rfl, unhide HK2⟩
      · obtain rfl : k = l.length := by omega
        have i2 : ¬ (l.length : Int) < (l.length : Int) := by omega
        have hn : scanI S 0 l = none := by have := unhide HS0; rw [List.drop_length] at this; exact this
        have HQ := hide (bytesOf_v l (.slice ao l.length cap) wr ((unhide HO).keepF (unhide HK)) ((unhide HT).keepF (unhide HK)) ((unhide HV).keepF (unhide HK)) hl (fun i hi => (scanI_none hn i hi).1) (unhide HI))
        have HEB : Hid (96 < (bytesC l).length → checkI S l = (l.length, 110)) := fun h => checkI_big hl hn h
        have HEO : Hid ((bytesC l).length ≤ 96 → checkI S l = (0, 0)) := fun h => checkI_ok hl hn h
        clear hn HS0 hkp hlt s1
        go_wp2_with fail
        refine (unhide HQ).mono ?_
        rintro e w2 ⟨v', rfl, ho, hk2⟩
        obtain ⟨oo, oc, rfl⟩ := (rowAt_own ho).form
        have HK2 := hide ((unhide HK).trans hk2)
        clear ho hk2 HQ
        by_cases hb : 96 < (bytesC l).length
        · have HE := hide ((unhide HEB) hb)
          have i3 : (96 : Int) < ((bytesC l).length : Int) := by omega
          clear HEB HEO
          generalize bytesC l = D at *
          go_wp2_with fail
          go_ret2
          rw [unhide HE]
          exact ⟨rfl, unhide HK2⟩
        · have HE := hide ((unhide HEO) (by omega))
          have i3 : ¬ (96 : Int) < ((bytesC l).length : Int) := by omega
          clear HEB HEO
          generalize bytesC l = D at *
          go_wp2_with fail
          go_ret2
          rw [unhide HE]
          exact ⟨rfl, unhide HK2⟩

end Go.Proofs.YtcicaifioghciaaGreatDoor
namespace Go.Proofs.YtcicaifioghciaaGreatDoor
open Go.RowKit Go.Maps

theorem names_field : ∀ o ∈ ([1, 2, 3, 4, 5, 6, 7, 8, 9, 10, 11, 12, 13, 14, 15, 16, 17, 18, 19, 20, 21, 22, 23, 24, 25, 26] : List Int), ((opA o).of = 4 ∨ (opA o).gives = 4) → (opA o).opd = 3 := by decide
theorem names_ok {S : List FieldA} {i : ValA} (hf : formB i = 0) (hr : rightF S i = true) (h : (opA i.kind).of = 4 ∨ (opA i.kind).gives = 4) : 0 ≤ i.n ∧ i.n < S.length := by
  have h3 := names_field _ (op_cases (formB_zero hf).1) h
  refine ⟨(form_field hf (Or.inl h3)).1, ?_⟩
  unfold rightF at hr
  rw [if_pos h3] at hr
  exact of_decide_eq_true hr
/-- The first of the values from k on that doesn't do: none. -/
theorem takesB_drop {S : List FieldA} {i : ValA} {l : List Int} : takesB S i l = (l.drop 0).all (fun k => decide (k = l.headD 0) && allowsB (ofF S i (opA i.kind).of) k) := rfl

set_option maxRecDepth 100000 in
set_option maxHeartbeats 2000000 in
theorem takesThese_v (S : List FieldA) (so : Option Addr) (sc : Nat) (i : ValA) (l : List Int) (v : Value) (w : World) (hO : Ops w) (hS : FldsAt w (.slice so S.length sc) S) (hf : formB i = 0) (hr : rightF S i = true) (h : KsAt w v l) (hl : l.length ≤ 16) :
    Calls Tryz.prog 101 #[.agg #[.slice so S.length sc], i.v, v] w fun e w' => e = .returned (.bool (takesB S i l)) ∧ Keeps (fun _ => False) w w' := by
  obtain ⟨ao, cap, rfl⟩ := RowAt.form h
  have ho := (formB_zero hf).1
  obtain ⟨h1, h2⟩ := opdB_range ho
  have hnm := fun h4 : (opA i.kind).of = 4 => names_ok hf hr (Or.inl h4)
  have HTB : Hid (takesB S i l = (l.drop 0).all (fun k => decide (k = l.headD 0) && allowsB (ofF S i (opA i.kind).of) k)) := rfl
  obtain ⟨kd, n, s⟩ := i
  unfold ValA.v
  simp only at *
  obtain ⟨m, rfl⟩ := Int.eq_ofNat_of_zero_le (show 0 ≤ kd by omega)
  obtain ⟨HX, hxb, hxc⟩ := boxed w #[.slice so S.length sc] 24
  obtain ⟨HY, hyb, hyc⟩ := boxed (w.alloc (.cells #[.slice so S.length sc] 24)) #[.int .i64 (m : Int), .int .i64 n, str s] 51
  have x0 := ((unhide HY).cell hxb id).trans (hxc 0 (.slice so S.length sc) rfl)
  have y0 := hyc 0 (.int .i64 (m : Int)) rfl
  have y1 := hyc 1 (.int .i64 n) rfl
  have y2 := hyc 2 (str s) rfl
  rw [World.size_alloc] at y0 y1 y2
  have HK := hide ((unhide HX).trans (unhide HY))
  have g3 := ((hO.keepF (unhide HK)).at (m := m) (by omega)).2.2.1
  have i0 : (0 : Int) ≤ (m : Int) := by omega
  have i1 : (m : Int) < 27 := by omega
  have hz0 := Nat.lt_of_lt_of_le hxb (unhide HY).size
  have hz1 : w.heap.size + 1 < ((w.alloc (.cells #[.slice so S.length sc] 24)).alloc (.cells #[.int .i64 (m : Int), .int .i64 n, str s] 51)).heap.size := by simp
  have hz2 := (hO.keepF (unhide HK)).lt
  generalize hW : ((w.alloc (.cells #[.slice so S.length sc] 24)).alloc (.cells #[.int .i64 (m : Int), .int .i64 n, str s] 51)) = W at *
  have HQ := hide (ofField_v S so sc ⟨m, n, s⟩ (opA (m : Int)).of W.drew ((hS.keepF (unhide HK)).keepF (Keeps.refl _ W).drew) hnm)
  have HV := hide ((h.keepF (unhide HK)).keepF (Keeps.refl _ W).drew)
  have HKD := hide ((unhide HK).trans (Keeps.refl _ W).drew)
  unfold ValA.v at HQ
  generalize ofF S ⟨m, n, s⟩ (opA (m : Int)).of = F at *
  generalize (opA (m : Int)).of = K at *
  generalize takesB S ⟨m, n, s⟩ l = R at *
  clear hxc hyc hO hS HX HY ho h1 h2 hxb hyb hf hr hnm h HK
  go_enter Tryz.func101, Tryz.ntmps101
  go_wp2_with fail
  clear hW
  go_region_held3 (fun w' => w'.cell? ⟨w.heap.size, 0, none⟩ = some (.slice so S.length sc) ∧ w'.cell? ⟨w.heap.size + 1, 0, none⟩ = some (.int .i64 (m : Int)) ∧ w'.cell? ⟨w.heap.size + 1, 1, none⟩ = some (.int .i64 n) ∧ w'.cell? ⟨w.heap.size + 1, 2, none⟩ = some (str s) ∧ w'.cell? ⟨0, m * 5 + 3, none⟩ = some (.int .i64 K))
    (go_keep)
    (first
      | (go_at_call 103
         refine (unhide HQ).mono ?_
         rintro e w2 ⟨rfl, hk2⟩
         have q0 := (hk2.cell (o := 0) hz0 id).trans x0
         have q1 := (hk2.cell (o := 0) hz1 id).trans y0
         have q2 := (hk2.cell (o := 1) hz1 id).trans y1
         have q3 := (hk2.cell (o := 2) hz1 id).trans y2
         have q4 := (hk2.cell (o := m * 5 + 3) hz2 id).trans g3))
  have HK2 := hide ((unhide HKD).trans hk2)
  have HV2 := hide ((unhide HV).keepF hk2)
  clear hk2 HQ HV
  have x0' := q0
  clear q0 q1 q2 q3 q4 x0 y0 y1 y2 g3 hz0 hz1 hz2 x0' HKD
  go_wp2_with fail
  go_loopw [20] (fun i wr => ∃ k : Nat, k ≤ l.length ∧ i = .int .i64 k ∧ Hid (R = (l.drop k).all (fun k => decide (k = l.headD 0) && allowsB F k)) ∧ ∃ q, wr = w2.drewN q) (fun i _ => l.length - (intOf i).toNat)
  case atStart => exact ⟨0, Nat.zero_le _, rfl, HTB, 0, rfl⟩
  case round =>
    obtain ⟨k, hk, rfl, HS, q, rfl⟩ := hrel
    by_cases hlt : k < l.length
    · obtain ⟨x, hx⟩ : ∃ x, l[k]? = some x := ⟨_, List.getElem?_eq_getElem hlt⟩
      obtain ⟨y, hy⟩ : ∃ y, l[0]? = some y := ⟨_, List.getElem?_eq_getElem (by omega)⟩
      obtain ⟨b, off, c, e, hbl, hc⟩ := (unhide HV2).cells (by omega)
      simp at e
      obtain ⟨rfl, rfl⟩ := e
      have c0 := hc k x hx
      have c1 := hc 0 y hy
      rw [Nat.add_zero] at c1
      have HD : Hid (R = ((decide (x = y) && allowsB F x) && (l.drop (k + 1)).all (fun k => decide (k = l.headD 0) && allowsB F k))) := by
        show _ = _
        obtain ⟨hk', hx'⟩ := List.getElem?_eq_some_iff.1 hx
        have hh : l.headD 0 = y := by cases l with
          | nil => simp at hy
          | cons a r => simpa using hy
        rw [unhide HS, List.drop_eq_getElem_cons hk', List.all_cons, hx', hh]
      have i2 : (k : Int) < (l.length : Int) := by omega
      have i0' : (0 : Int) ≤ (k : Int) := by omega
      have i3 : (0 : Int) < (l.length : Int) := by omega
      clear hc hx hy HS
      by_cases hxy : x = y
      · subst hxy
        have HC := hide (allows_v F x)
        go_wp2_with fail
        refine ((unhide HC) _).mono ?_
        rintro e w3 ⟨rfl, rfl⟩
        cases ha : allowsB F x with
        | true =>
          have HE : Hid (R = (l.drop (k + 1)).all (fun k => decide (k = l.headD 0) && allowsB F k)) := by
            show _ = _
            rw [unhide HD, ha]
            simp
          clear HD HC
          go_wp2_with fail
          go_roundw
          case rel => exact ⟨k + 1, by omega, by go_num, HE, q, rfl⟩
          case measure => simp [intOf]; omega
        | false =>
          have HE : Hid (R = false) := by
            show _ = _
            rw [unhide HD, ha]
            simp
          clear HD HC
          go_wp2_with fail
          go_ret
          rw [unhide HE]
          exact ⟨rfl, (unhide HK2).trans (keeps_drewN _ _)⟩
      · have bxy : (x != y) = true := by rw [bne_iff_ne]; exact hxy
        have HE : Hid (R = false) := by
          show _ = _
          rw [unhide HD, decide_eq_false hxy]
          rfl
        clear hxy HD
        go_wp2_with fail
        go_ret
        rw [unhide HE]
        exact ⟨rfl, (unhide HK2).trans (keeps_drewN _ _)⟩
    · obtain rfl : k = l.length := by omega
      have i2 : ¬ (l.length : Int) < (l.length : Int) := by omega
      have HE : Hid (R = true) := by
        show _ = _
        rw [unhide HS, List.drop_length]
        rfl
      clear hlt
      go_wp2_with fail
      go_ret
      rw [unhide HE]
      exact ⟨rfl, (unhide HK2).trans (keeps_drewN _ _)⟩

end Go.Proofs.YtcicaifioghciaaGreatDoor
