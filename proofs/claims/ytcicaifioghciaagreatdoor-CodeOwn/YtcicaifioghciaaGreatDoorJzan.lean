import Derived.Test.YtcicaifioghciaaGreatDoorJzam
import Derived.Test.YtcicaifioghciaaGreatDoorShelf
import Derived.Test.YtcicaifioghciaaGreatDoorJzal
import Derived.Lib.ConvBytes
import Derived.Lib.LaidTab
import Derived.Test.YtcicaifioghciaaGreatDoorJzai
import Derived.Test.YtcicaifioghciaaGreatDoorJzaj
namespace Go.Proofs.YtcicaifioghciaaGreatDoor
open Go.RowKit Go.Maps

/-- A builder that has been written to: it knows its own address. -/
def Bld (B b : Nat) (t : Txt) (w : World) : Prop := Lib.BuilderAt 63 5 B b (.pointer (some ⟨b, 0, none⟩)) (bs t) w
/-- What writing to a builder may write: itself, and rows of bytes. -/
def KB (w : World) (B b k : Nat) : Prop := k = b ∨ (B ≤ k ∧ ∃ c, w.heap[k]? = some (.cells c 5 (0, 0)))
theorem kb_trans {x y z : World} {B b : Nat} (h : Keeps (KB x B b) x y) (k : Keeps (KB y B b) y z) : Keeps (KB x B b) x z :=
  h.then k fun i hi hf => by
    rcases hf with rfl | ⟨hB, c, hc⟩
    · exact Or.inl rfl
    · by_cases hq : KB x B b i
      · exact hq
      · exact Or.inr ⟨hB, c, (h.block i hi hq).symm.trans hc⟩

set_option maxRecDepth 100000 in
theorem copyCheck_v (b : Nat) (w : World) (h : w.cell? ⟨b, 0, none⟩ = some (.pointer (some ⟨b, 0, none⟩))) : Calls Tryz.prog 46 #[.pointer (some ⟨b, 0, none⟩)] w fun e w' => e = .returned (.tuple #[]) ∧ w' = w := by
  obtain ⟨j, hj, _⟩ := Option.map_eq_some_iff.1 Tryz.Builder_Extra_169.sizeBuilder
  go_enter Tryz.func46, Tryz.ntmps46
  go_wp2
  rw [Lib.run_neq_ptr_same w _ Tryz.underlying61 hj]
  go_wp2
  go_end0
  exact ⟨rfl, rfl⟩

set_option maxHeartbeats 1000000 in
set_option maxRecDepth 100000 in
/-- copyCheck of a Builder that was not written yet: it lays its own place. -/
theorem copyCheck_new (b : Nat) (w : World) (h0 : w.cell? ⟨b, 0, none⟩ = some (.pointer none)) (hsh : w.shape? b = some (63, 2)) (hfz : w.frozen? ⟨b, 0, none⟩ = false) :
    Calls Tryz.prog 46 #[.pointer (some ⟨b, 0, none⟩)] w fun e w' => e = .returned (.tuple #[]) ∧ w' = w.setCell ⟨b, 0, none⟩ (.pointer (some ⟨b, 0, none⟩)) := by
  obtain ⟨j, hj, hjs⟩ := Option.map_eq_some_iff.1 Tryz.Builder_Extra_169.sizeBuilder
  go_enter Tryz.func46, Tryz.ntmps46
  go_wp2
  rw [Lib.run_to_unsafe w ⟨b, 0, none⟩ Tryz.underlying61 Tryz.underlying120 hj (by rw [hjs]; decide) hsh (Nat.zero_lt_succ 1)]
  simp only [Result.andThen]
  rw [Oper.upon_value]
  go_wp2
  rw [run_callFunc_extern Tryz.func67 (by kernel_rfl) (by kernel_rfl) (by kernel_rfl) (e := Extern.AbiNoEscape.same) (by kernel_rfl)]
  rw [Lib.run_noEscape]
  simp only [Result.andThen]
  rw [Oper.upon_value]
  go_wp2
  rw [Lib.run_from_unsafe w ⟨b, 0, none⟩ Tryz.underlying120 Tryz.underlying61 hj hsh Tryz.Builder_Extra_169.liesBuilder]
  simp only [Result.andThen]
  rw [Oper.upon_value]
  go_wp2
  go_end0
  exact ⟨rfl, rfl⟩
theorem copyCheck_any (B b : Nat) (t : Txt) (w : World) (h : Lib.IsBuilder 63 5 B b (bs t) w) :
    Calls Tryz.prog 46 #[.pointer (some ⟨b, 0, none⟩)] w fun e w' => e = .returned (.tuple #[]) ∧ Bld B b t w' ∧ Keeps (fun k => k = b) w w' := by
  rcases h with h | h
  · refine (copyCheck_new b w h.cell0 h.shape h.frozen0).mono ?_
    rintro e w' ⟨rfl, rfl⟩
    exact ⟨rfl, h.used _, keeps_set w b 0 _⟩
  · refine (copyCheck_v b w h.cell0).mono ?_
    rintro e w' ⟨rfl, rfl⟩
    exact ⟨rfl, h, Keeps.refl _ _⟩
/-- The frame of a write: the builder's own block was marked, its row grew, its field was set. -/
theorem kb_frame {w w1 w2 : World} {B b : Nat} {t : Txt} {v u : Value} (h1 : Keeps (fun k => k = b) w w1) (hown : w1.ownsRow B 5 1 v t.length (bs t)) (hne : v.ownBlock ≠ some b) (hg : Keeps (fun q => v.ownBlock = some q) w1 w2) : Keeps (KB w B b) w (w2.setCell ⟨b, 1, none⟩ u) := by
  have k2 : Keeps (fun q => q = b ∨ v.ownBlock = some q) w w2 := (h1.mono (fun _ _ e => Or.inl e)).then hg (fun i _ e => Or.inr e)
  refine (Keeps.setCell (F := fun q => q = b ∨ v.ownBlock = some q) (p := ⟨b, 1, none⟩) k2 (fun _ => Or.inl rfl) u).mono fun k hk hf => ?_
  rcases hf with e | e
  · exact Or.inl e
  · obtain ⟨q1, c, q2⟩ := own_block hown e
    have hkb : ¬ k = b := fun e' => hne (e' ▸ e)
    exact Or.inr ⟨q1, c, (h1.block k hk hkb).symm.trans q2⟩

set_option maxRecDepth 100000 in
set_option maxHeartbeats 2000000 in
theorem writeString_v (B b : Nat) (t s : Txt) (w : World) (h : Lib.IsBuilder 63 5 B b (bs t) w) (hlen : t.length + s.length ≤ 70368744177664) (hBw : B ≤ w.heap.size) :
    Calls Tryz.prog 29 #[.pointer (some ⟨b, 0, none⟩), str s] w fun e w' => e = .returned (.tuple #[.int .i64 s.length, .nilIface]) ∧ Lib.IsBuilder 63 5 B b (bs (t ++ s)) w' ∧ Keeps (KB w B b) w w' := by
  obtain ⟨i0, hi, hz0, hz1, hz2⟩ := info_parts Tryz.info5
  have HQ := hide (copyCheck_any B b t w h)
  clear h
  have hl : (bs t).length = t.length := by simp [bs]
  have hsz : ByteArray.size ⟨s.toArray⟩ = s.length := by simp [ByteArray.size]
  go_enter Tryz.func29, Tryz.ntmps29
  go_wp2_with fail
  refine (unhide HQ).mono ?_
  rintro e w1 ⟨rfl, hb1, hl1⟩
  have HL1 := hide hl1
  have hBw1 : B ≤ w1.heap.size := Nat.le_trans hBw hl1.size
  obtain ⟨hB, v, hbk, hown, hne⟩ := hb1
  rw [hl] at hown
  have c0 : w1.cell? ⟨b, 0, none⟩ = some (.pointer (some ⟨b, 0, none⟩)) := by rw [Lib.cell_of_heap hbk]; rfl
  have c1 : w1.cell? ⟨b, 1, none⟩ = some v := by rw [Lib.cell_of_heap hbk]; rfl
  have hlt : b < w1.heap.size := lt_of_block hbk
  clear hl1 HQ
  go_wp2_with (at_builtin; refine Lib.wpList_append_own_string _ rfl _ _ 29 9 rfl B 5 i0 Tryz.underlying29 Tryz.underlying9 hi hz0 hz1 hz2 _ _ _ rfl hown ⟨s.toArray⟩ rfl ?c3 ?c4 ?c5 ?_)
  case c3 => rw [hsz]; unfold maxLen; omega
  case c4 => rw [hsz]; omega
  case c5 => omega
  intro v' w2 hown' hgrow _
  have hb2 : w2.heap[b]? = some (.cells #[.pointer (some ⟨b, 0, none⟩), v] 63 (0, 0)) := by
    rw [hgrow.block b hlt (fun e => hne e.symm)]
    exact hbk
  have d0 : w2.cell? ⟨b, 0, none⟩ = some (.pointer (some ⟨b, 0, none⟩)) := by rw [Lib.cell_of_heap hb2]; rfl
  have d1 : w2.cell? ⟨b, 1, none⟩ = some v := by rw [Lib.cell_of_heap hb2]; rfl
  have f1 : w2.frozen? ⟨b, 1, none⟩ = false := Lib.frozen_of_heap hb2 1
  obtain ⟨ao, n', cap, rfl⟩ : ∃ ao n' cap, v' = .slice ao n' cap := by
    rcases hown'.2 with ⟨hv, _⟩ | ⟨g, cap, cur, hv, _⟩
    · exact ⟨_, _, _, hv⟩
    · exact ⟨_, _, _, hv⟩
  go_wp2
  go_ret2
  refine ⟨rfl, Or.inr ?_, ?_⟩
  · refine Lib.BuilderAt.put (T := 63) (e := 5) hB hb2 (bs' := bs (t ++ s)) ?_ (by decide)
    rw [show (bs (t ++ s)).length = t.length + s.length by simp [bs], show bs (t ++ s) = bs t ++ bs s by simp [bs]]
    first | exact hown' | (rw [strCells_bs, hsz] at hown'; exact hown')
  · exact kb_frame (unhide HL1) hown hne ((Keeps.refl (fun q => v.ownBlock = some q) w1).grown hgrow (fun q e _ => e))
end Go.Proofs.YtcicaifioghciaaGreatDoor
namespace Go.Proofs.YtcicaifioghciaaGreatDoor
open Go.RowKit Go.Maps

set_option maxRecDepth 100000 in
set_option maxHeartbeats 2000000 in
theorem writeByte_v (B b : Nat) (t : Txt) (c : UInt8) (w : World) (h : Lib.IsBuilder 63 5 B b (bs t) w) (hlen : t.length ≤ 70368744177000) (hBw : B ≤ w.heap.size) :
    Calls Tryz.prog 70 #[.pointer (some ⟨b, 0, none⟩), .int .u8 (num c)] w fun e w' => e = .returned .nilIface ∧ Lib.IsBuilder 63 5 B b (bs (t ++ [c])) w' ∧ Keeps (KB w B b) w w' := by
  obtain ⟨i0, hi, hz0, hz1, hz2⟩ := info_parts Tryz.info5
  have HQ := hide (copyCheck_any B b t w h)
  clear h
  have hl : (bs t).length = t.length := by simp [bs]
  go_enter Tryz.func70, Tryz.ntmps70
  go_wp2_with fail
  refine (unhide HQ).mono ?_
  rintro e w1 ⟨rfl, hb1, hl1⟩
  have HL1 := hide hl1
  have hBw1 : B ≤ w1.heap.size := Nat.le_trans hBw hl1.size
  obtain ⟨hB, v, hbk, hown, hne⟩ := hb1
  rw [hl] at hown
  have c0 : w1.cell? ⟨b, 0, none⟩ = some (.pointer (some ⟨b, 0, none⟩)) := by rw [Lib.cell_of_heap hbk]; rfl
  have c1 : w1.cell? ⟨b, 1, none⟩ = some v := by rw [Lib.cell_of_heap hbk]; rfl
  have hlt : b < w1.heap.size := lt_of_block hbk
  clear hl1 HQ
  go_wp2_with (at_builtin; refine wpList_append_own _ rfl _ _ 29 rfl B 5 i0 (.int .u8 0) 1 1 Tryz.underlying29 hi hz0 hz1 hz2 rfl (by decide) _ _ _ rfl (hown.alloc _) ⟨w1.heap.size, 0, none⟩ 1 1 [.int .u8 (num c)] rfl rfl ?c1 ?c2 ?c3 ?c4 ?c5 ?_)
  case c1 =>
    intro j u hj
    match j, hj with
    | 0, hj => simp at hj; subst hj; simp [Addr.add]
  case c2 => intro u hu; simp at hu; subst hu; rfl
  case c3 => unfold maxLen; omega
  case c4 => omega
  case c5 => simp; omega
  intro v' w2 hown' hgrow _
  have hb2 : w2.heap[b]? = some (.cells #[.pointer (some ⟨b, 0, none⟩), v] 63 (0, 0)) := by
    rw [hgrow.block b (by simp; omega) (fun e => hne e.symm), Lib.alloc_old w1 _ b hlt]
    exact hbk
  have d0 : w2.cell? ⟨b, 0, none⟩ = some (.pointer (some ⟨b, 0, none⟩)) := by rw [Lib.cell_of_heap hb2]; rfl
  have d1 : w2.cell? ⟨b, 1, none⟩ = some v := by rw [Lib.cell_of_heap hb2]; rfl
  have f1 : w2.frozen? ⟨b, 1, none⟩ = false := Lib.frozen_of_heap hb2 1
  obtain ⟨g, cap, rfl⟩ : ∃ g cap, v' = .slice (some ⟨g, 0, none⟩) (t.length + 1) cap := by
    rcases hown'.2 with ⟨_, h0⟩ | ⟨g, cap, cur, hv, _⟩
    · omega
    · exact ⟨g, cap, hv⟩
  go_wp2
  go_ret
  refine ⟨rfl, Or.inr ?_, ?_⟩
  · refine Lib.BuilderAt.put (T := 63) (e := 5) hB hb2 (bs' := bs (t ++ [c])) ?_ (by decide)
    rw [show (bs (t ++ [c])).length = t.length + 1 by simp [bs], show bs (t ++ [c]) = bs t ++ [.int .u8 (num c)] by simp [bs]]
    exact hown'
  · exact kb_frame (unhide HL1) hown hne (((Keeps.refl _ w1).alloc _).trans ((Keeps.refl (fun q => v.ownBlock = some q) _).grown hgrow (fun q e _ => e)))
theorem byteCells_bs (t : Txt) : Lib.byteCells t = bs t := by simp [Lib.byteCells, bs, num]
theorem string_v (B b : Nat) (t : Txt) (w : World) (h : Lib.IsBuilder 63 5 B b (bs t) w) (hBw : B ≤ w.heap.size) :
    Calls Tryz.prog 32 #[.pointer (some ⟨b, 0, none⟩)] w fun e w' => e = .returned (str t) ∧ Below B w w' :=
  (Any.Builder_String_any Tryz.lays169 Tryz.Builder_Extra_169 B b t w (by rw [byteCells_bs]; exact h) hBw).mono fun _ _ h => ⟨h.1, by first | exact h.2 | exact h.2.2 | exact h.2.1⟩

/-- The table of powers of ten stands as its text lays it. -/
def Pow (w : World) : Prop := Lib.TabIs Tryz.prog w "internal/strconv.uint64pow10" .u64 Lib.pow10Tab
theorem Pow.keepF {w w' : World} (h : Pow w) (k : Keeps (fun _ => False) w w') : Pow w' := by
  unfold Pow Lib.TabIs World.var? at h ⊢
  cases hg : Tryz.prog.globalNamed "internal/strconv.uint64pow10" with
  | none => simp [hg] at h
  | some g =>
    simp only [hg, Option.bind_some] at h ⊢
    have hlt : g < w.heap.size := by
      rcases Nat.lt_or_ge g w.heap.size with h' | h'
      · exact h'
      · simp [Array.getElem?_eq_none h'] at h
    rw [k.block g hlt id]
    exact h
theorem keeps_grow (w : World) (n : Nat) (os : Array Obj) : Keeps (fun _ => False) w (Go.Sort.grow (w.drewN n) os) := by
  obtain ⟨h1, h2, h3, h4⟩ := drewN_os w n
  refine ⟨h1, h2, h3, ?_, fun k hk _ => ?_⟩
  · unfold Go.Sort.grow; simp only [Array.size_append, h4]; omega
  · unfold Go.Sort.grow; simp only [h4]; exact Array.getElem?_append_left hk
theorem decD_eq : ∀ u : Nat, 0 < u → Lib.decDigits u = decN u := by
  intro u
  induction u using Nat.strongRecOn with
  | ind u ih =>
    intro h
    rw [Lib.decDigits, decN_pos h]
    split
    · rename_i h10
      rw [show u / 10 = 0 by omega, decN_zero, show u % 10 = u by omega]
      rfl
    · rw [ih (u / 10) (by omega) (by omega)]
theorem itoa_eq (n : Int) : Lib.itoa n = decimal n := by
  unfold Lib.itoa decimal
  by_cases h0 : n = 0
  · subst h0
    rw [if_neg (by omega), if_pos rfl, Lib.decDigits]
    rfl
  · rw [if_neg h0]
    by_cases h : n < 0
    · rw [if_pos h, if_pos h, decD_eq _ (by omega)]
    · rw [if_neg h, if_neg h, show n.toNat = n.natAbs by omega, decD_eq _ (by omega)]

set_option maxRecDepth 100000 in
theorem formatInt_v (n : Int) (h0 : -9223372036854775808 ≤ n) (h1 : n ≤ 9223372036854775807) (w : World) (hP : Pow w) :
    Calls Tryz.prog 50 #[.int .i64 n, .int .i64 10] w fun e w' => e = .returned (str (decimal n)) ∧ Keeps (fun _ => False) w w' := by
  have HQ := hide (Tryz.internal_strconv_FormatInt_10 n h0 h1 w hP)
  rw [itoa_eq] at HQ
  clear hP h0 h1
  go_enter Tryz.func50, Tryz.ntmps50
  go_wp2_with fail
  refine (unhide HQ).mono ?_
  rintro e w2 ⟨rfl, k, os, rfl⟩
  have HK := hide (keeps_grow w k os)
  generalize Go.Sort.grow (w.drewN k) os = w2 at *
  go_wp2_with fail
  go_ret
  exact ⟨rfl, unhide HK⟩

end Go.Proofs.YtcicaifioghciaaGreatDoor
namespace Go.Proofs.YtcicaifioghciaaGreatDoor
open Go.ChangeShapes Go.WideShapes Go.ChangeAt Go.RowKit Go.Deep

section
variable {H : Type} {enc : TypeId × Value → H} {W : World} {fuel : Nat}
theorem len32T {fuel : Nat} {c : Value} {x : DataW H × List MemPlace} (h : DataW.trod enc Tryz.prog W 0 (fun _ => true) true fuel 25 [c] = some x) (hw : ∀ n ∈ x.1.weights Tryz.prog 25, n ≤ reachBytes) {n : Nat} {xs : List Value} (hr : RowAt W c n xs) : n + 2 ≤ 4398046511104 := by
  obtain ⟨ao, cp, hform⟩ := hr.form
  rcases DataW.trod_slice Tryz.underlying25 h with ⟨hcs, _⟩ | ⟨a, len, cap, elems, rest, n', hn, hcs, hxx, _, hlc, _, hel, _, _, _⟩
  · simp at hcs
    rw [hcs] at hform
    simp at hform
    omega
  · have := hw ((elems.length + rest.length) * 32) (by
      rw [hxx]
      simp only [DataW.weights, Tryz.underlying25, List.length_map, b52]
      exact List.mem_cons_self ..)
    unfold reachBytes at this
    simp at hcs
    rw [hcs] at hform
    simp at hform
    omega
theorem ins_inT {fuel : Nat} {c : Value} {x : DataW H × List MemPlace} (h : DataW.trod enc Tryz.prog W 0 (fun _ => true) true fuel 25 [c] = some x) (hw : ∀ n ∈ x.1.weights Tryz.prog 25, n ≤ reachBytes) : ∃ l : List ValA, ValsAt W c l ∧ InR l ∧ l.length + 2 ≤ 4398046511104 := by
  obtain ⟨l, hl, hq⟩ := rowsOf ValA.cs 3 (by omega) (fun _ => rfl) Tryz.underlying25 e52 ins_read h
  exact ⟨l, hl, hq, len32T h hw hl⟩
theorem lenFT {fuel : Nat} {c : Value} {x : DataW H × List MemPlace} (h : DataW.trod enc Tryz.prog W 0 (fun _ => true) true fuel 22 [c] = some x) (hw : ∀ n ∈ x.1.weights Tryz.prog 22, n ≤ reachBytes) {n : Nat} {xs : List Value} (hr : RowAt W c n xs) : n + 8 ≤ 4398046511104 := by
  obtain ⟨ao, cp, hform⟩ := hr.form
  rcases DataW.trod_slice Tryz.underlying22 h with ⟨hcs, _⟩ | ⟨a, len, cap, elems, rest, n', hn, hcs, hxx, _, hlc, _, hel, _, _, _⟩
  · simp at hcs
    rw [hcs] at hform
    simp at hform
    omega
  · have := hw ((elems.length + rest.length) * 32) (by
      rw [hxx]
      simp only [DataW.weights, Tryz.underlying22, List.length_map, b62]
      exact List.mem_cons_self ..)
    unfold reachBytes at this
    simp at hcs
    rw [hcs] at hform
    simp at hform
    omega
set_option maxRecDepth 100000 in
theorem schema_inT {fuel : Nat} {cs : List Value} {x : DataW H × List MemPlace} (h : DataW.trod enc Tryz.prog W 0 (fun _ => true) true fuel 24 cs = some x) (hw : ∀ n ∈ x.1.weights Tryz.prog 24, n ≤ reachBytes) :
    ∃ (sv : Value) (S : List FieldA), cs = [sv] ∧ FldsAt W sv S ∧ S.length + 8 ≤ 4398046511104 := by
  obtain ⟨xs, m, hm, hx, hl, hlen, hf⟩ := DataW.trod_struct Tryz.underlying24 h
  have hl' : cs.length = 1 := hl.trans e39
  match xs, hlen, cs, hl' with
  | [y0], _, [c0], _ =>
    have h0 : DataW.trod enc Tryz.prog W 0 (fun _ => true) true m 22 (([c0].drop 0).take (Tryz.prog.cellsOf 22)) = some y0 := hf 0 _ rfl
    rw [e37] at h0
    simp only [List.drop_zero, List.take_succ_cons, List.take_zero] at h0
    have hw0 : ∀ n ∈ y0.1.weights Tryz.prog 22, n ≤ reachBytes := fun n hn => hw n (by
      rw [hx]
      simp only [DataW.weights, Tryz.underlying24, List.map_cons, List.map_nil, DataW.weightsEach, List.append_nil]
      exact hn)
    obtain ⟨l, hl, _⟩ := rowsOf FieldA.cs 3 (by omega) (fun _ => rfl) Tryz.underlying22 e62 field_read h0
    exact ⟨c0, l, rfl, hl, lenFT h0 hw0 hl⟩
end
theorem pow_of {W : World} (h : laidMetH Tryz.prog Rows.codeOwnRow.laid W) : Pow W := by
  have hpow := h.filter (fun x => x.1 == "internal/strconv.uint64pow10")
  rw [show Rows.codeOwnRow.laid.filter (fun x => x.1 == "internal/strconv.uint64pow10") = [("internal/strconv.uint64pow10", Rows.laid_internal_strconv_uint64pow10)] by rfl, MakeChecks.laidMetH_plain _ _ _ (by kernel_rfl)] at hpow
  have e : (Rows.laid_internal_strconv_uint64pow10 : DataW Unit) = Lib.tabData .u64 Lib.pow10Tab := by kernel_rfl
  rw [e] at hpow
  exact Lib.tabIs_of_head (rest := []) (g := 2) (t := 159) (e := 138) (n := 20) (by kernel_rfl) (by kernel_rfl) Tryz.underlying159 Tryz.underlying138 (by kernel_rfl) (by kernel_rfl) hpow
theorem own_env {W : World} (h : laidMetH Tryz.prog Rows.codeOwnRow.laid W) : Ops W ∧ Types W := by
  have h1 := h.filter (fun x => x.1 == "arbor/value.types")
  have h2 := h.filter (fun x => x.1 == "arbor/code.operations")
  rw [show Rows.codeOwnRow.laid.filter (fun x => x.1 == "arbor/value.types") = [("arbor/value.types", Rows.laid_arbor_value_types)] by rfl] at h1
  rw [show Rows.codeOwnRow.laid.filter (fun x => x.1 == "arbor/code.operations") = [("arbor/code.operations", Rows.laid_arbor_code_operations)] by rfl] at h2
  exact ⟨ops_met h2, types_met h1⟩
end Go.Proofs.YtcicaifioghciaaGreatDoor
namespace Go.Proofs.YtcicaifioghciaaGreatDoor
open Go.RowKit Go.Maps

def fitE (S : List FieldA) (i : ValA) : Int := if formB i ≠ 0 then formB i else if rightF S i = false then 113 else 0
/-- The operations that ask for more than a field. -/
theorem opd_kind : ∀ o ∈ ([1, 2, 3, 4, 5, 6, 7, 8, 9, 10, 11, 12, 13, 14, 15, 16, 17, 18, 19, 20, 21, 22, 23, 24, 25, 26] : List Int), ((opA o).opd = 4 ↔ (o = 6 ∨ o = 22)) ∧ ((opA o).opd = 5 ↔ o = 21) ∧ ((opA o).opd = 6 ↔ (o = 25 ∨ o = 26)) ∧ (opdB o = 3 ↔ ((opA o).opd = 3 ∨ (opA o).opd = 4 ∨ (opA o).opd = 5)) ∧ (opdB o = 4 ↔ (opA o).opd = 6) := by decide
theorem rightF_as {S : List FieldA} {i : ValA} (hf : formB i = 0) : rightF S i = if opdB i.kind ≠ 3 then true else if (S.length : Int) ≤ i.n then false else if (i.kind = 6 ∨ i.kind = 22) ∧ ((S[i.n.toNat]?).map FieldA.opt).getD false = false then false else if i.kind = 21 ∧ fldT S i ≠ 1 then false else true := by
  obtain ⟨h4, h5, _, h3, _⟩ := opd_kind _ (op_cases (formB_zero hf).1)
  unfold rightF
  by_cases h : opdB i.kind = 3
  · rw [if_neg (show ¬ opdB i.kind ≠ 3 from fun q => q h)]
    by_cases hn : (S.length : Int) ≤ i.n
    · rw [if_pos hn, decide_eq_false (show ¬ i.n < (S.length : Int) by omega)]
      rcases h3.1 h with e | e | e <;> simp [e]
    · rw [if_neg hn, decide_eq_true (show i.n < (S.length : Int) by omega)]
      rcases h3.1 h with e | e | e
      · have n4 : ¬ (i.kind = 6 ∨ i.kind = 22) := fun q => by have := h4.2 q; omega
        have n5 : ¬ i.kind = 21 := fun q => by have := h5.2 q; omega
        rw [if_pos e, if_neg (fun q => n4 q.1), if_neg (fun q => n5 q.1)]
      · have n4 := h4.1 e
        have n5 : ¬ i.kind = 21 := by omega
        rw [if_neg (show ¬ (opA i.kind).opd = 3 by omega), if_pos e, if_neg (show ¬ (i.kind = 21 ∧ fldT S i ≠ 1) from fun q => n5 q.1)]
        cases hq : ((S[i.n.toNat]?).map FieldA.opt).getD false with
        | false => rw [if_pos ⟨n4, rfl⟩]; rfl
        | true => rw [if_neg (fun q => by cases q.2)]; rfl
      · have n5 := h5.1 e
        have n4 : ¬ (i.kind = 6 ∨ i.kind = 22) := by omega
        rw [if_neg (show ¬ (opA i.kind).opd = 3 by omega), if_neg (show ¬ (opA i.kind).opd = 4 by omega), if_pos e, if_neg (show ¬ ((i.kind = 6 ∨ i.kind = 22) ∧ ((S[i.n.toNat]?).map FieldA.opt).getD false = false) from fun q => n4 q.1)]
        by_cases ht : fldT S i = 1
        · rw [if_neg (fun q => q.2 ht), decide_eq_true ht]; rfl
        · rw [if_pos ⟨n5, ht⟩, decide_eq_false ht]; rfl
  · rw [if_pos (show opdB i.kind ≠ 3 from h)]
    have n3 : ¬ (opA i.kind).opd = 3 := fun q => h (h3.2 (Or.inl q))
    have n4 : ¬ (opA i.kind).opd = 4 := fun q => h (h3.2 (Or.inr (Or.inl q)))
    have n5 : ¬ (opA i.kind).opd = 5 := fun q => h (h3.2 (Or.inr (Or.inr q)))
    rw [if_neg n3, if_neg n4, if_neg n5]
set_option maxRecDepth 100000 in
set_option maxHeartbeats 2000000 in
theorem refFits_v (S : List FieldA) (so : Option Addr) (sc : Nat) (i : ValA) (w : World) (hS : FldsAt w (.slice so S.length sc) S) : Calls Tryz.prog 61 #[.agg #[.slice so S.length sc], i.v] w fun e w' => e = .returned (.int .i64 (fitE S i)) ∧ Keeps (fun _ => False) w w' := by
  have HE : Hid (fitE S i = if formB i ≠ 0 then formB i else if rightF S i = false then 113 else 0) := rfl
  generalize fitE S i = R at *
  have HR : Hid (formB i = 0 → rightF S i = if opdB i.kind ≠ 3 then true else if (S.length : Int) ≤ i.n then false else if (i.kind = 6 ∨ i.kind = 22) ∧ ((S[i.n.toNat]?).map FieldA.opt).getD false = false then false else if i.kind = 21 ∧ fldT S i ≠ 1 then false else true) := fun q => rightF_as q
  have HNF : Hid (formB i = 0 → opdB i.kind = 3 → 0 ≤ i.n) := fun q q3 => (form_field q ((opd_kind _ (op_cases (formB_zero q).1)).2.2.2.1.1 q3)).1
  have HF := hide (fun w' => form_v i w')
  have HO := hide (fun w' => operand_v i.kind w')
  have HT : Hid (fldT S i = ((S[i.n.toNat]?).map FieldA.type).getD 0) := rfl
  generalize fldT S i = FT at *
  generalize formB i = FB at *
  generalize rightF S i = RF at *
  obtain ⟨kd, n, s⟩ := i
  unfold ValA.v at *
  simp only at *
  generalize opdB kd = OB at *
  obtain ⟨HX, hxb, hxc⟩ := boxed w #[.slice so S.length sc] 24
  obtain ⟨HY, hyb, hyc⟩ := boxed (w.alloc (.cells #[.slice so S.length sc] 24)) #[.int .i64 kd, .int .i64 n, str s] 51
  have x0 := ((unhide HY).cell hxb id).trans (hxc 0 (.slice so S.length sc) rfl)
  have y0 := hyc 0 (.int .i64 kd) rfl
  have y1 := hyc 1 (.int .i64 n) rfl
  have y2 := hyc 2 (str s) rfl
  rw [World.size_alloc] at y0 y1 y2
  have HK := hide ((unhide HX).trans (unhide HY))
  have HS := hide (hS.keepF (unhide HK))
  have hz0 := Nat.lt_of_lt_of_le hxb (unhide HY).size
  have hz1 : w.heap.size + 1 < ((w.alloc (.cells #[.slice so S.length sc] 24)).alloc (.cells #[.int .i64 kd, .int .i64 n, str s] 51)).heap.size := by simp
  generalize hW : ((w.alloc (.cells #[.slice so S.length sc] 24)).alloc (.cells #[.int .i64 kd, .int .i64 n, str s] 51)) = W at *
  clear hxc hyc HX HY hxb hyb hS
  go_enter Tryz.func61, Tryz.ntmps61
  go_wp2_with fail
  refine ((unhide HF) _).mono ?_
  rintro e w1 ⟨rfl, hk1⟩
  have x1 := (hk1.cell (o := 0) hz0 id).trans x0
  have z0 := (hk1.cell (o := 0) hz1 id).trans y0
  have z1 := (hk1.cell (o := 1) hz1 id).trans y1
  have z2 := (hk1.cell (o := 2) hz1 id).trans y2
  have HK1 := hide ((unhide HK).trans hk1)
  have HS1 := hide ((unhide HS).keepF hk1)
  have hzz : w.heap.size + 1 < w1.heap.size := Nat.lt_of_lt_of_le hz1 hk1.size
  clear hk1 HF x0 y0 y1 y2 HK HS hz0 hz1 hW
  by_cases hf : FB = 0
  · subst hf
    have HR2 := hide ((unhide HR) rfl)
    have HN2 := hide ((unhide HNF) rfl)
    have HE2 : Hid (R = if RF = false then 113 else 0) := unhide HE
    clear HE HR HNF
    go_wp2_with fail
    refine ((unhide HO) _).mono ?_
    rintro e w2 ⟨rfl, rfl⟩
    by_cases h3 : OB = 3
    · subst h3
      have n0 := (unhide HN2) rfl
      rw [if_neg (by simp)] at HR2
      obtain ⟨p, rfl⟩ := Int.eq_ofNat_of_zero_le n0
      by_cases hn : S.length ≤ p
      · have j1 : (S.length : Int) ≤ (p : Int) := by omega
        have HZ : Hid (R = 113) := by show _ = _; rw [unhide HE2, unhide HR2, if_pos j1]; rfl
        clear HR2 HE2
        go_wp2_with fail
        go_ret
        exact ⟨ret_int (unhide HZ).symm, unhide HK1⟩
      · have j1 : ¬ (S.length : Int) ≤ (p : Int) := by omega
        have j2 : (p : Int) < (S.length : Int) := by omega
        rw [if_neg j1] at HR2
        obtain ⟨f, hf⟩ : ∃ f, S[p]? = some f := ⟨_, List.getElem?_eq_getElem (by omega)⟩
        obtain ⟨fb, foff, fc, fe, hfb, hfc⟩ := (unhide HS1).cells (by omega)
        simp only [Value.slice.injEq] at fe
        obtain ⟨rfl, _, rfl⟩ := fe
        have c0 := (hfc p f hf).1
        have c1 := (hfc p f hf).2.1
        have c2 := (hfc p f hf).2.2
        obtain ⟨HY, hyb, hyc⟩ := boxed w2 #[str f.name, .int .i64 f.type, .bool f.opt] 55
        have d1 := hyc 1 (.int .i64 f.type) rfl
        have d2 := hyc 2 (.bool f.opt) rfl
        have HFT : Hid (FT = f.type) := by show _ = _; rw [unhide HT]; simp [hf]
        have HFO : Hid (((S[((p : Nat) : Int).toNat]?).map FieldA.opt).getD false = f.opt) := by show _ = _; simp [hf]
        rw [unhide HFO, unhide HFT] at HR2
        have HKY := hide ((unhide HK1).trans (unhide HY))
        have y0 := ((unhide HY).cell (o := 0) hzz id).trans z0
        generalize f.opt = FO at *
        generalize f.type = TY at *
        clear hfc hf hyc HY HT HFT HFO j1 hn
        by_cases h6 : kd = 6
        · subst h6
          cases FO with
          | false =>
            have HZ : Hid (R = 113) := by show _ = _; rw [unhide HE2, unhide HR2]; simp
            clear HR2 HE2
            go_wp2_with fail
            go_ret
            exact ⟨ret_int (unhide HZ).symm, unhide HKY⟩
          | true =>
            have HZ : Hid (R = 0) := by show _ = _; rw [unhide HE2, unhide HR2]; simp
            clear HR2 HE2
            go_wp2_with fail
            go_ret
            exact ⟨ret_int (unhide HZ).symm, unhide HKY⟩
        · by_cases h22 : kd = 22
          · subst h22
            cases FO with
            | false =>
              have HZ : Hid (R = 113) := by show _ = _; rw [unhide HE2, unhide HR2]; simp
              clear HR2 HE2
              go_wp2_with fail
              go_ret
              exact ⟨ret_int (unhide HZ).symm, unhide HKY⟩
            | true =>
              have HZ : Hid (R = 0) := by show _ = _; rw [unhide HE2, unhide HR2]; simp
              clear HR2 HE2
              go_wp2_with fail
              go_ret
              exact ⟨ret_int (unhide HZ).symm, unhide HKY⟩
          · have b6 : (kd == 6) = false := by simpa using h6
            have b22 : (kd == 22) = false := by simpa using h22
            by_cases h21 : kd = 21
            · subst h21
              by_cases ht : TY = 1
              · subst ht
                have HZ : Hid (R = 0) := by show _ = _; rw [unhide HE2, unhide HR2]; simp
                clear HR2 HE2
                go_wp2_with fail
                go_ret
                exact ⟨ret_int (unhide HZ).symm, unhide HKY⟩
              · have bt : (TY != 1) = true := by simpa using ht
                have HZ : Hid (R = 113) := by show _ = _; rw [unhide HE2, unhide HR2]; simp [ht]
                clear HR2 HE2 ht
                go_wp2_with fail
                go_ret
                exact ⟨ret_int (unhide HZ).symm, unhide HKY⟩
            · have b21 : (kd == 21) = false := by simpa using h21
              have HZ : Hid (R = 0) := by show _ = _; rw [unhide HE2, unhide HR2]; simp [h6, h22, h21]
              clear HR2 HE2 h6 h22 h21
              go_wp2_with fail
              go_ret
              exact ⟨ret_int (unhide HZ).symm, unhide HKY⟩
    · have b3 : (OB != 3) = true := by simpa using h3
      have HZ : Hid (R = 0) := by show _ = _; rw [unhide HE2, unhide HR2, if_pos h3]; rfl
      clear h3 HR2 HE2
      go_wp2_with fail
      go_ret
      exact ⟨ret_int (unhide HZ).symm, unhide HK1⟩
  · have bf : (FB != 0) = true := by simpa using hf
    rw [if_pos hf] at HE
    clear hf
    go_wp2_with fail
    go_ret
    exact ⟨ret_int (unhide HE).symm, unhide HK1⟩

end Go.Proofs.YtcicaifioghciaaGreatDoor
namespace Go.Proofs.YtcicaifioghciaaGreatDoor
open Go.RowKit Go.Maps
def soundA (S : List FieldA) (l : List ValA) : Nat × Int := if errS S ≠ 0 then (0, 60) else if (checkI S l).2 ≠ 0 then checkI S l else checkT l
theorem fitE_scan {S : List FieldA} {l : List ValA} {k : Nat} {x : ValA} (h : l[k]? = some x) : scanI S k (l.drop k) = if fitE S x ≠ 0 then some (k, fitE S x) else scanI S (k + 1) (l.drop (k + 1)) := by
  rw [scanI_drop h]
  unfold fitE
  by_cases h1 : formB x = 0
  · rw [if_neg (show ¬ formB x ≠ 0 from fun q => q h1), if_neg (show ¬ formB x ≠ 0 from fun q => q h1)]
    cases rightF S x <;> simp
  · rw [if_pos (show formB x ≠ 0 from h1), if_pos (show formB x ≠ 0 from h1), if_pos h1]
set_option maxRecDepth 100000 in
set_option maxHeartbeats 4000000 in
theorem sound_v (S : List FieldA) (so : Option Addr) (sc : Nat) (l : List ValA) (v : Value) (w : World) (hS : FldsAt w (.slice so S.length sc) S) (h : ValsAt w v l) (hI : InR l) :
    Calls Tryz.prog 39 #[.agg #[.slice so S.length sc], v] w fun e w' => e = .returned (.tuple #[.int .i64 ((soundA S l).1 : Int), .int .i64 (soundA S l).2]) ∧ Keeps (fun _ => False) w w' := by
  obtain ⟨ao, cap, rfl⟩ := RowAt.form h
  obtain ⟨HB, hbb, hbc⟩ := boxed w #[.slice so S.length sc] 24
  have s0 := hbc 0 (.slice so S.length sc) rfl
  have HS := hide (hS.keepF (unhide HB))
  have HV := hide (h.keepF (unhide HB))
  have HI := hide hI
  have HL : Hid (soundA S l = if errS S ≠ 0 then (0, 60) else if (checkI S l).2 ≠ 0 then checkI S l else checkT l) := rfl
  generalize soundA S l = R at *
  have HQ := hide (checkSchema_any S _ _ (unhide HS))
  generalize hWb : w.alloc (.cells #[.slice so S.length sc] 24) = Wb at *
  clear hbc h hS hI
  go_enter Tryz.func39, Tryz.ntmps39
  go_wp2_with fail
  refine (unhide HQ).mono ?_
  rintro e w1 ⟨rfl, hk1⟩
  have s1 := (hk1.cell hbb id).trans s0
  have hb1 := Nat.lt_of_lt_of_le hbb hk1.size
  have HK1 := hide ((unhide HB).trans hk1)
  have HS1 := hide ((unhide HS).keepF hk1)
  have HV1 := hide ((unhide HV).keepF hk1)
  clear hk1 HQ HS HV s0 hbb hWb
  by_cases he : errS S = 0
  · rw [he]
    rw [if_neg (show ¬ errS S ≠ 0 from fun q => q he)] at HL
    by_cases h96 : 96 < l.length
    · have i1 : (96 : Int) < (l.length : Int) := by omega
      rw [checkI_long h96] at HL
      have HE : Hid (R = (l.length, 110)) := unhide HL
      clear HL he
      go_wp2_with fail
      go_ret2
      rw [unhide HE]
      exact ⟨rfl, unhide HK1⟩
    · have hl : l.length ≤ 96 := by omega
      have i1 : ¬ (96 : Int) < (l.length : Int) := by omega
      have HCS := hide (fun p q => checkI_some (S := S) (l := l) (p := p) hl q)
      have HCB := hide (fun q1 q2 => checkI_big (S := S) (l := l) hl q1 q2)
      have HCO := hide (fun q1 q2 => checkI_ok (S := S) (l := l) hl q1 q2)
      generalize checkI S l = CI at *
      clear he h96
      go_wp2_with fail
      go_loopw [6] (fun i wr => ∃ k : Nat, k ≤ l.length ∧ i = .int .i64 k ∧ Hid (scanI S 0 l = scanI S k (l.drop k)) ∧ Keeps (fun _ => False) w1 wr) (fun i _ => l.length - (intOf i).toNat)
      case atStart => exact ⟨0, Nat.zero_le _, rfl, by simp [Hid], Keeps.refl _ _⟩
      case round =>
        obtain ⟨k, hk, rfl, HS0, hkp⟩ := hrel
        have s2 := (hkp.cell hb1 id).trans s1
        have hb2 := Nat.lt_of_lt_of_le hb1 hkp.size
        have HK2 := hide ((unhide HK1).trans hkp)
        have HS2 := hide ((unhide HS1).keepF hkp)
        have HV2 := hide ((unhide HV1).keepF hkp)
        by_cases hlt : k < l.length
        · obtain ⟨x, hx⟩ : ∃ x, l[k]? = some x := ⟨_, List.getElem?_eq_getElem hlt⟩
          obtain ⟨b, off, c, e, hbl, hc⟩ := (unhide HV2).cells (by omega)
          simp at e
          obtain ⟨rfl, rfl⟩ := e
          have c0 := (hc k x hx).1
          have c1 := (hc k x hx).2.1
          have c2 := (hc k x hx).2.2
          have HD := hide (fitE_scan (S := S) hx)
          have HF := hide (refFits_v S so sc x wr.drew ((unhide HS2).keepF (Keeps.refl _ wr).drew))
          unfold ValA.v at HF
          generalize fitE S x = FE at *
          have i2 : (k : Int) < (l.length : Int) := by omega
          have i0' : (0 : Int) ≤ (k : Int) := by omega
          have HKP := hide (hkp.trans (Keeps.refl _ wr).drew)
          clear hc hx hkp
          go_wp2_with fail
          go_region_held3 (fun w' => w'.cell? ⟨w.heap.size, 0, none⟩ = some (.slice so S.length sc) ∧ w'.cell? ⟨b, off + k * 3, none⟩ = some (.int .i64 x.kind) ∧ w'.cell? ⟨b, off + k * 3 + 1, none⟩ = some (.int .i64 x.n) ∧ w'.cell? ⟨b, off + k * 3 + 2, none⟩ = some (str x.s))
            (go_keep)
            (first
              | (go_at_call 61
                 refine (unhide HF).mono ?_
                 rintro e w3 ⟨rfl, hk3⟩
                 have q0 := (hk3.cell (o := 0) hb2 id).trans s2
                 have q1 := (hk3.cell hbl id).trans c0
                 have q2 := (hk3.cell hbl id).trans c1
                 have q3 := (hk3.cell hbl id).trans c2))
          have HKP3 := hide ((unhide HKP).trans hk3)
          clear hk3 q0 q1 q2 q3 c0 c1 c2 HF HKP
          by_cases hfe : FE = 0
          · have HE : Hid (scanI S 0 l = scanI S (k + 1) (l.drop (k + 1))) := by
              show _ = _
              rw [unhide HS0, unhide HD, if_neg (fun q => q hfe)]
            subst hfe
            clear HD HS0
            go_wp2_with fail
            go_roundw
            case rel => exact ⟨k + 1, by omega, by go_num, HE, unhide HKP3⟩
            case measure => simp [intOf]; omega
          · have bf : (FE != 0) = true := by simpa using hfe
            have HE0 : Hid (CI = (k, FE)) := (unhide HCS) _ (by rw [unhide HS0, unhide HD, if_pos hfe])
            have HE : Hid (R = (k, FE)) := by
              show _ = _
              rw [unhide HL, unhide HE0, if_pos hfe]
            clear HD HS0 hfe HE0
            go_wp2_with fail
            go_ret2
            rw [unhide HE]
            exact ⟨rfl, (unhide HK1).trans (unhide HKP3)⟩
        · obtain rfl : k = l.length := by omega
          have i2 : ¬ (l.length : Int) < (l.length : Int) := by omega
          have hn : scanI S 0 l = none := by have := unhide HS0; rw [List.drop_length] at this; exact this
          have hfm : ∀ i ∈ l, formB i = 0 := fun i hi => (scanI_none hn i hi).1
          have HQ := hide (bytes_v l (.slice ao l.length cap) wr (unhide HV2) (by omega) (firstE_of hfm) (unhide HI))
          have HEB : Hid (96 < (bytesC l).length → R = (l.length, 110)) := fun q => by rw [unhide HL, (unhide HCB) hn q]; rfl
          have HEO : Hid ((bytesC l).length ≤ 96 → R = checkT l) := fun q => by rw [unhide HL, (unhide HCO) hn q]; rfl
          have HFM := hide hfm
          clear hn HS0 hkp hlt hfm HL HCS HCB HCO s1 s2 hb1 hb2 HS1 HS2
          go_wp2_with fail
          refine (unhide HQ).mono ?_
          rintro e w3 ⟨v', rfl, ho, hk3⟩
          obtain ⟨oo, oc, rfl⟩ := (rowAt_own ho).form
          have HK3 := hide ((unhide HK2).trans hk3)
          have HV3 := hide ((unhide HV2).keepF hk3)
          clear ho hk3 HQ HK2 HV2 HV1 HK1 HB
          by_cases hb : 96 < (bytesC l).length
          · have HE := hide ((unhide HEB) hb)
            have i3 : (96 : Int) < ((bytesC l).length : Int) := by omega
            clear HEB HEO
            generalize bytesC l = D at *
            go_wp2_with fail
            go_ret2
            rw [unhide HE]
            exact ⟨rfl, unhide HK3⟩
          · have HE := hide ((unhide HEO) (by omega))
            have i3 : ¬ (96 : Int) < ((bytesC l).length : Int) := by omega
            have HC : Hid (R = (scanT l.length 0 l).getD (0, 0)) := unhide HE
            clear HEB HEO HE
            generalize bytesC l = D at *
            go_wp2_with fail
            go_loopw [8] (fun i wr => ∃ k : Nat, k ≤ l.length ∧ i = .int .i64 k ∧ Hid (scanT l.length 0 l = scanT l.length k (l.drop k)) ∧ Keeps (fun _ => False) w3 wr) (fun i _ => l.length - (intOf i).toNat)
            case atStart => exact ⟨0, Nat.zero_le _, rfl, by simp [Hid], Keeps.refl _ _⟩
            case round =>
              obtain ⟨k, hk, rfl, HS0, hkp⟩ := hrel
              have HK4 := hide hkp
              have HV4 := hide ((unhide HV3).keepF hkp)
              by_cases hlt : k < l.length
              · obtain ⟨x, hx⟩ : ∃ x, l[k]? = some x := ⟨_, List.getElem?_eq_getElem hlt⟩
                obtain ⟨b, off, c, e, hbl, hc⟩ := (unhide HV4).cells (by omega)
                simp at e
                obtain ⟨rfl, rfl⟩ := e
                have c0 := (hc k x hx).1
                have hxf := (unhide HFM) x (List.mem_of_getElem? hx)
                have HD := hide (scanT_drop (N := l.length) hx)
                have h46 := (opd_kind _ (op_cases (formB_zero hxf).1)).2.2.2.2
                have hxj := form_jump hxf
                have HOP := hide (fun w' => operand_v x.kind w')
                have i4 : (k : Int) < (l.length : Int) := by omega
                have i0' : (0 : Int) ≤ (k : Int) := by omega
                have HTG := hide (fun (q0 : 0 ≤ x.n) (q1 : x.n ≤ 255) w' (q2 : ValsAt w' (.slice (some ⟨b, off, none⟩) l.length cap) l) => refTarget_v l _ w' q2 k x hx hl q0 q1)
                generalize opdB x.kind = OB at *
                clear hc hx hkp
                go_wp2_with fail
                refine ((unhide HOP) _).mono ?_
                rintro e w5 ⟨rfl, rfl⟩
                by_cases hj : OB = 4
                · have h6 := h46.1 hj
                  obtain ⟨n0, n1⟩ := hxj h6
                  have HT2 := hide ((unhide HTG) n0 n1 _ (unhide HV4))
                  obtain ⟨TG, hTG⟩ : ∃ TG : Nat, k + 1 + x.n.toNat = TG := ⟨_, rfl⟩
                  rw [hTG] at HT2 HD
                  have HJ := hide h6
                  subst hj
                  clear hTG HTG hxj h46 h6
                  go_wp2_with fail
                  refine (unhide HT2).mono ?_
                  rintro e w6 ⟨rfl, hk6⟩
                  have HK6 := hide ((unhide HK4).trans hk6)
                  clear hk6 HT2
                  by_cases hbig : l.length < TG
                  · have b1 : (l.length : Int) < (TG : Int) := by omega
                    have HE : Hid (R = (k, 111)) := by
                      show _ = _
                      rw [unhide HC, unhide HS0, unhide HD, if_pos ⟨unhide HJ, hbig⟩]
                      rfl
                    go_wp2_with fail
                    go_ret2
                    rw [unhide HE]
                    exact ⟨rfl, (unhide HK3).trans (unhide HK6)⟩
                  · have b1 : ¬ (l.length : Int) < (TG : Int) := by omega
                    have HE : Hid (scanT l.length 0 l = scanT l.length (k + 1) (l.drop (k + 1))) := by
                      show _ = _
                      rw [unhide HS0, unhide HD, if_neg (fun h => hbig h.2)]
                    go_wp2_with fail
                    go_roundw
                    case rel => exact ⟨k + 1, by omega, by go_num, HE, unhide HK6⟩
                    case measure => simp [intOf]; omega
                · have b4 : (OB == 4) = false := by simpa using hj
                  have HE : Hid (scanT l.length 0 l = scanT l.length (k + 1) (l.drop (k + 1))) := by
                    show _ = _
                    rw [unhide HS0, unhide HD, if_neg (fun h => hj (h46.2 h.1))]
                  clear hj h46 hxj HTG HD HS0
                  go_wp2_with fail
                  go_roundw
                  case rel => exact ⟨k + 1, by omega, by go_num, HE, unhide HK4⟩
                  case measure => simp [intOf]; omega
              · obtain rfl : k = l.length := by omega
                have i4 : ¬ (l.length : Int) < (l.length : Int) := by omega
                have HE : Hid (R = (0, 0)) := by
                  show _ = _
                  rw [unhide HC, unhide HS0, List.drop_length]
                  rfl
                have HKE := hide ((unhide HK3).trans hkp)
                clear hlt hkp
                go_wp2_with fail
                go_ret2
                rw [unhide HE]
                exact ⟨rfl, unhide HKE⟩
  · have be : (errS S != 0) = true := by simpa using he
    rw [if_pos (show errS S ≠ 0 from he)] at HL
    generalize errS S = E at *
    clear he
    go_wp2_with fail
    go_ret2
    rw [unhide HL]
    exact ⟨rfl, unhide HK1⟩

end Go.Proofs.YtcicaifioghciaaGreatDoor
