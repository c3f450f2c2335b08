import Derived.Test.YtbfkoamledkhnaaGreatDoorZ
import Derived.Test.YtbfkoamledkhnaaGreatDoorJn
import Derived.Test.YtbfkoamledkhnaaGreatDoorJo
import Derived.Test.YtbfkoamledkhnaaGreatDoorQd
import Derived.RegionTactic
namespace Go.Proofs.YtbfkoamledkhnaaGreatDoor
open Go.RowKit Go.Maps

/-- A field as text. -/
def pfield (f : FieldA) : Txt := f.name ++ [58] ++ wordB f.type ++ (if f.opt then [63] else [])
def psStep (p : Txt × Nat) (f : FieldA) : Txt × Nat := ((if 0 < p.2 then p.1 ++ [44] else p.1) ++ pfield f, p.2 + 1)
def psF (l : List FieldA) : Txt × Nat := l.foldl psStep ([], 0)
def printSchemaB (l : List FieldA) : Txt := if schemaB l then (psF l).1 else []
theorem psF_snoc (l : List FieldA) (f : FieldA) : psF (l ++ [f]) = psStep (psF l) f := by simp [psF]
theorem wordB_le (t : Int) : (wordB t).length ≤ 5 := by unfold wordB; repeat' split
                                                        all_goals simp

set_option maxRecDepth 100000 in
set_option maxHeartbeats 4000000 in
theorem printSchema_any (l : List FieldA) (v : Value) (w : World) (h : FldsAt w v l) :
    Calls Tryz.prog 18 #[.agg #[v]] w fun e w' => e = .returned (.tuple #[str (printSchemaB l), .int .i64 (errS l)]) ∧ Keeps (fun _ => False) w w' := by
  obtain ⟨ao, cap, rfl⟩ := RowAt.form h
  obtain ⟨HB, hb, hbc⟩ := boxed w #[.slice ao l.length cap] 28
  have hp := hbc 0 (.slice ao l.length cap) rfl
  have HF := hide (h.keepF (unhide HB))
  have HS := hide (checkSchema_any l _ _ (unhide HF))
  clear hbc h
  obtain ⟨D, HD⟩ : ∃ D, Hid (printSchemaB l = D) := ⟨_, rfl⟩
  obtain ⟨E, HEE⟩ : ∃ E, Hid (errS l = E) := ⟨_, rfl⟩
  rw [unhide HD, unhide HEE]
  rw [unhide HEE] at HS
  go_enter Tryz.func18, Tryz.ntmps18
  go_wp2_with fail
  refine (unhide HS).mono ?_
  rintro e w2 ⟨rfl, hk2⟩
  have hp2 := (hk2.cell (o := 0) hb id).trans hp
  have hb2 := Nat.lt_of_lt_of_le hb hk2.size
  have HF2 := hide ((unhide HF).keepF hk2)
  have HB2 := hide ((unhide HB).trans hk2)
  clear HS HF HB hk2 hp hb
  generalize w.alloc (.cells #[.slice ao l.length cap] 28) = w1 at *
  rcases errS_eq l with ⟨hs, he⟩ | ⟨hs, he⟩
  · rw [unhide HEE] at he
    subst he
    have hl8 := (schemaB_len hs).2
    have HDE : Hid (D = (psF l).1) := by show _ = _; rw [← unhide HD]; unfold printSchemaB; rw [if_pos hs]
    have HSS := hide hs
    clear hs
    go_wp2_with fail
    go_loopw [5, 6] (fun o i wr => ∃ (k : Nat) (T : Txt), k ≤ l.length ∧ i = .int .i64 k ∧ o = str T ∧ T.length ≤ 100 * k ∧ Hid (psF (l.take k) = (T, k)) ∧ Keeps (fun _ => False) w2 wr) (fun _ i _ => l.length - (intOf i).toNat)
    case atStart => exact ⟨0, [], Nat.zero_le _, rfl, rfl, by simp, rfl, Keeps.refl _ _⟩
    case round =>
      obtain ⟨k, T, hk, rfl, rfl, hTl, HTT, hkp⟩ := hrel
      have HK := hide hkp
      have p0 := (hkp.cell (o := 0) hb2 id).trans hp2
      by_cases hlt : k < l.length
      · obtain ⟨f, hf⟩ : ∃ f, l[k]? = some f := ⟨_, List.getElem?_eq_getElem hlt⟩
        obtain ⟨b, off, c, e, hbl, hc⟩ := (unhide HF2).cells (by omega)
        simp at e
        obtain ⟨rfl, rfl⟩ := e
        have c0 := (hkp.cell hbl id).trans (hc k f hf).1
        have c1 := (hkp.cell hbl id).trans (hc k f hf).2.1
        have c2 := (hkp.cell hbl id).trans (hc k f hf).2.2
        have i2 : (k : Int) < (l.length : Int) := by omega
        obtain ⟨U, HU⟩ : ∃ U : Txt, Hid ((if 0 < k then T ++ [44] else T) = U) := ⟨_, hide rfl⟩
        have HZ : Hid (psF (l.take (k + 1)) = (U ++ pfield f, k + 1)) := by
          show _ = _
          rw [take_snoc _ _ _ hf, psF_snoc, unhide HTT, ← unhide HU]
          rfl
        have hnm := (schemaB_name8 (unhide HSS) (List.mem_of_getElem? hf)).1
        have hwl := wordB_le f.type
        have hUl : U.length ≤ T.length + 1 := by rw [← unhide HU]; split <;> simp
        have hTl2 : T.length ≤ 800 := by omega
        have a1 := fun w => add_str w U f.name (by omega)
        have a2 := fun w => add_str w (U ++ f.name) [58] (by simp; omega)
        have a3 := fun w => add_str w (U ++ f.name ++ [58]) (wordB f.type) (by simp; omega)
        have a4 := fun w => add_str w (U ++ f.name ++ [58] ++ wordB f.type) [63] (by simp; omega)
        have HP : Hid (pfield f = f.name ++ [58] ++ wordB f.type ++ (if f.opt then [63] else [])) := rfl
        have HQ := fun w => hide (word_any f.type w)
        generalize wordB f.type = V at *
        clear hkp hc hf
        by_cases hk0 : 0 < k
        case' pos =>
          have hUT : U = T ++ [44] := by rw [← unhide HU, if_pos hk0]
          have b1 : ∀ w, (Op.stringOp .add ⟨T.toArray⟩ ⟨#[44]⟩).run Tryz.prog w = .ok (str U) w := fun w => by rw [hUT]; exact add_str w T [44] (by simp; omega)
          have hk0' : (0 : Int) < (k : Int) := by omega
          clear hUT HU
        case' neg =>
          have hUT : U = T := by rw [← unhide HU, if_neg hk0]
          have b1 : ∀ w, (Op.stringOp .add ⟨T.toArray⟩ ⟨f.name.toArray⟩).run Tryz.prog w = .ok (str (U ++ f.name)) w := fun w => by rw [hUT]; exact add_str w T f.name (by omega)
          have hk0' : (k : Int) ≤ 0 := by omega
          clear hUT HU a1
        all_goals
          cases hfo : f.opt
          all_goals
            rw [hfo] at c2 HP
            obtain ⟨HXB, hxb, hxc⟩ := boxed wr #[str f.name, .int .i64 f.type, .bool f.opt] 56
            rw [hfo] at HXB hxb hxc
            go_wp2_with fail
            refine (unhide (HQ _)).mono ?_
            rintro e w4 ⟨rfl, rfl⟩
            go_wp2_with fail
            go_roundw
            case rel =>
              refine ⟨k + 1, U ++ pfield f, by omega, by go_num, ?_, ?_, unhide HZ, (unhide HK).trans (unhide HXB)⟩
              · rw [unhide HP]
                first | exact str_app _ _ _ (by simp) | simp
              · rw [unhide HP]
                simp only [List.length_append, List.length_singleton]
                first | (simp; omega) | omega
            case measure => simp [intOf]; omega
      · obtain rfl : k = l.length := by omega
        have HTE : Hid (D = T) := by
          show _ = _
          have h1 := unhide HTT
          rw [List.take_length] at h1
          rw [unhide HDE, h1]
        clear hkp
        go_wp2_with fail
        go_ret2
        exact ⟨by rw [unhide HTE]; rfl, (unhide HB2).trans (unhide HK)⟩
  · rw [unhide HEE] at he
    have HE9 : Hid (D = []) := by show _ = _; rw [← unhide HD]; unfold printSchemaB; simp [hs]
    subst he
    clear hs
    go_wp2_with fail
    go_ret2
    exact ⟨by rw [unhide HE9]; rfl, unhide HB2⟩

end Go.Proofs.YtbfkoamledkhnaaGreatDoor
namespace Go.Proofs.YtbfkoamledkhnaaGreatDoor
open Go.RowKit Go.Maps

theorem joinB_snoc (L : List Txt) (x : Txt) : joinB (L ++ [x]) = (if 0 < L.length then joinB L ++ [44] else joinB L) ++ x := by
  cases L with
  | nil => simp [joinB]
  | cons a r => simp [joinB]
theorem psF_eq : ∀ l : List FieldA, psF l = (joinB (l.map pfield), l.length) := by
  intro l
  have h : ∀ n (l : List FieldA), l.length = n → psF l = (joinB (l.map pfield), l.length) := by
    intro n
    induction n with
    | zero => intro l hl; obtain rfl : l = [] := List.eq_nil_of_length_eq_zero hl; rfl
    | succ n ih =>
      intro l hl
      have hne : l ≠ [] := by rintro rfl; simp at hl
      rw [← List.dropLast_concat_getLast hne, psF_snoc, ih l.dropLast (by rw [List.length_dropLast, hl]; rfl), List.map_append]
      simp only [List.map_cons, List.map_nil, psStep, List.length_append, List.length_cons, List.length_nil]
      rw [joinB_snoc, List.length_map]
  exact h _ l rfl
theorem Types.word {w : World} (h : Types w) {t : Int} (ht : t = 1 ∨ t = 2 ∨ t = 3) : ∃ n : Nat, t = n ∧ n < 4 ∧ w.cell? ⟨0, n * 2, none⟩ = some (str (wordB t)) := by
  rcases ht with rfl | rfl | rfl
  · exact ⟨1, rfl, by omega, h.cell 2 _ rfl⟩
  · exact ⟨2, rfl, by omega, h.cell 4 _ rfl⟩
  · exact ⟨3, rfl, by omega, h.cell 6 _ rfl⟩
theorem run_mks (n : Nat) (hn : n ≤ 1024) (w : World) : (Instr.makeSlice 101 (.int .i64 (n : Int)) (.int .i64 (n : Int))).run Tryz.prog w = .ok (.slice (some ⟨w.heap.size, 0, none⟩) n n) (w.alloc (.cells (Array.replicate n (str [])) 9)) := by
  obtain ⟨i0, hi, hz0, hz1, hz2⟩ := info_parts Tryz.info9
  have q := run_make (P := Tryz.prog) w 101 9 i0 (.string ⟨#[]⟩) Tryz.underlying101 hi hz0 .i64 .i64 (n : Int) (n : Int) (by omega) (by omega) (by rw [hz2]; omega) (by omega)
  rw [hz1] at q
  have e : madeCells (Value.string ⟨#[]⟩).cells n = Array.replicate n (str []) := by
    apply Array.ext_getElem?
    intro i
    rw [show (Value.string ⟨#[]⟩).cells = #[.string ⟨#[]⟩] from rfl]
    simp only [madeCells, Array.getElem?_map, Array.getElem?_range, Array.getElem?_replicate]
    by_cases h : i < n
    · simp [h, Nat.mod_one]
    · simp [h]
  simp only [Int.toNat_natCast, Nat.mul_one, e] at q
  exact q
/-- The pieces of a schema's text, as far as they are written. -/
def pieces (l : List FieldA) (k : Nat) : List Txt := (l.take k).map pfield ++ List.replicate (l.length - k) []
theorem pieces_zero (l : List FieldA) : pieces l 0 = List.replicate l.length [] := by simp [pieces]
theorem pieces_full (l : List FieldA) : pieces l l.length = l.map pfield := by simp [pieces]
theorem pieces_at {l : List FieldA} {k : Nat} {f : FieldA} (h : l[k]? = some f) : pieces l k = (l.take k).map pfield ++ [] :: List.replicate (l.length - (k + 1)) [] ∧ pieces l (k + 1) = (l.take k).map pfield ++ pfield f :: List.replicate (l.length - (k + 1)) [] := by
  have hl := get_lt h
  unfold pieces
  constructor
  · rw [show l.length - k = (l.length - (k + 1)) + 1 by omega, List.replicate_succ]
  · rw [take_snoc _ _ _ h, List.map_append, List.append_assoc]
    rfl
theorem set_piece {R Z : List Txt} {k : Nat} (hk : R.length = k) (x y : Txt) : ((R ++ x :: Z).map str).toArray.setIfInBounds k (str y) = ((R ++ y :: Z).map str).toArray := by
  subst hk
  apply Array.ext'
  simp
theorem piece_cell {w : World} {S k : Nat} {R Z : List Txt} {x : Txt} (h : w.heap[S]? = some (.cells ((R ++ x :: Z).map str).toArray 9 (0, 0))) (hk : R.length = k) : w.cell? ⟨S, k, none⟩ = some (str x) ∧ w.frozen? ⟨S, k, none⟩ = false := by
  subst hk
  refine ⟨?_, frozen_of_blk h _⟩
  rw [cell_of_blk h]
  simp

set_option maxRecDepth 100000 in
set_option maxHeartbeats 2000000 in
theorem val_printSchema (l : List FieldA) (v : Value) (w : World) (hT : Types w) (h : FldsAt w v l) :
    Calls Tryz.prog 47 #[.agg #[v]] w fun e w' => e = .returned (.tuple #[str (printSchemaB l), .int .i64 (errS l)]) ∧ Keeps (fun _ => False) w w' := by
  obtain ⟨ao, cap, rfl⟩ := RowAt.form h
  obtain ⟨HB, hb, hbc⟩ := boxed w #[.slice ao l.length cap] 28
  have hp := hbc 0 (.slice ao l.length cap) rfl
  have HF := hide (h.keepF (unhide HB))
  have HTy := hide (hT.keepF (unhide HB))
  have HS := hide (checkSchema_v l _ _ (unhide HTy) (unhide HF))
  clear hbc h hT
  go_enter Tryz.func47, Tryz.ntmps47
  go_wp2_with fail
  refine (unhide HS).mono ?_
  rintro e w2 ⟨rfl, hk2⟩
  have hp2 := (hk2.cell (o := 0) hb id).trans hp
  have hb2 : w.heap.size < w2.heap.size := Nat.lt_of_lt_of_le hb hk2.size
  have HF2 := hide ((unhide HF).keepF hk2)
  have HT2 := hide ((unhide HTy).keepF hk2)
  have HB2 := hide ((unhide HB).trans hk2)
  clear HS HF HB hk2 hp hb HTy
  generalize w.alloc (.cells #[.slice ao l.length cap] 28) = w1 at *
  rcases errS_eq l with ⟨hs, he⟩ | ⟨hs, he⟩
  · rw [he]
    have hl8 := (schemaB_len hs).2
    have HES := hide he
    have HE : Hid (printSchemaB l = joinB (l.map pfield)) := by show _ = _; unfold printSchemaB; rw [if_pos hs, psF_eq]
    have HOK : Hid (∀ f ∈ l, (f.type = 1 ∨ f.type = 2 ∨ f.type = 3) ∧ f.name.length ≤ 8) := fun f hf => ⟨type_of (List.all_eq_true.1 (schemaB_ok hs) f hf), (schemaB_name8 hs hf).1⟩
    have hmk := run_mks l.length (by omega) w2
    have HG := hide (heap_alloc_new w2 (.cells (Array.replicate l.length (str [])) 9))
    have HA : Hid (Keeps (fun q => w2.heap.size ≤ q) w2 (w2.alloc (.cells (Array.replicate l.length (str [])) 9))) := (Keeps.refl _ _).alloc _
    have hp4 := ((unhide HA).cell (o := 0) hb2 (by omega)).trans hp2
    have hS4 : w2.heap.size < (w2.alloc (.cells (Array.replicate l.length (str [])) 9)).heap.size := by simp
    clear hs he
    go_wp2_with fail
    generalize w2.alloc (.cells (Array.replicate l.length (str [])) 9) = w4 at *
    clear hmk
    go_loopw [20] (fun i wr => ∃ (k : Nat), k ≤ l.length ∧ i = .int .i64 k ∧ Hid (wr.heap[w2.heap.size]? = some (.cells ((pieces l k).map str).toArray 9 (0, 0))) ∧ Keeps (fun q => w2.heap.size ≤ q) w4 wr) (fun i _ => l.length - (intOf i).toNat)
    case atStart => exact ⟨0, Nat.zero_le _, rfl, by show _ = _; rw [pieces_zero, List.map_replicate, List.toArray_replicate]; exact unhide HG, Keeps.refl _ _⟩
    case round =>
      obtain ⟨k, hk, rfl, HBk, hkp⟩ := hrel
      have HK := hide ((unhide HA).trans hkp)
      have HKP := hide hkp
      have hS5 : w2.heap.size < wr.heap.size := Nat.lt_of_lt_of_le hS4 hkp.size
      clear hkp
      by_cases hlt : k < l.length
      · obtain ⟨f, hf⟩ : ∃ f, l[k]? = some f := ⟨_, List.getElem?_eq_getElem hlt⟩
        obtain ⟨b5, off5, c5, e5, hbl, hc⟩ := (unhide HF2).cells (by omega)
        simp at e5
        obtain ⟨rfl, rfl⟩ := e5
        have c0 := ((unhide HK).cell hbl (by omega)).trans (hc k f hf).1
        have c1 := ((unhide HK).cell hbl (by omega)).trans (hc k f hf).2.1
        have c2 := ((unhide HK).cell hbl (by omega)).trans (hc k f hf).2.2
        have HZ := hide (pieces_at hf)
        have HRL : Hid (((l.take k).map pfield).length = k) := by show _ = _; rw [List.length_map, List.length_take, Nat.min_eq_left hk]
        obtain ⟨hty, hnl⟩ := (unhide HOK) f (List.mem_of_getElem? hf)
        have HT5 := hide ((unhide HT2).keep (unhide HK) (by have := (unhide HT2).lt; omega))
        obtain ⟨HX, hxb, hxc⟩ := boxed wr #[str f.name, .int .i64 f.type, .bool f.opt] 56
        obtain ⟨tn, htn, htl, htc⟩ := ((unhide HT5).keepF (unhide HX)).word hty
        have n0 : (wr.alloc (.cells #[str f.name, .int .i64 f.type, .bool f.opt] 56)).cell? ⟨wr.heap.size, 0, none⟩ = some (str f.name) := hxc 0 _ rfl
        have n1 : (wr.alloc (.cells #[str f.name, .int .i64 f.type, .bool f.opt] 56)).cell? ⟨wr.heap.size, 1, none⟩ = some (.int .i64 f.type) := hxc 1 _ rfl
        have n2 : (wr.alloc (.cells #[str f.name, .int .i64 f.type, .bool f.opt] 56)).cell? ⟨wr.heap.size, 2, none⟩ = some (.bool f.opt) := hxc 2 _ rfl
        have HBN : (wr.alloc (.cells #[str f.name, .int .i64 f.type, .bool f.opt] 56)).heap[w2.heap.size]? = some (.cells (((l.take k).map pfield ++ [] :: List.replicate (l.length - (k + 1)) []).map str).toArray 9 (0, 0)) := by
          rw [← (unhide HZ).1]
          exact (Below.heap_alloc _ _ _ hS5).trans (unhide HBk)
        obtain ⟨d0, g0⟩ := piece_cell HBN (unhide HRL)
        have HN := hide HBN
        have HKN := hide ((unhide HKP).alloc (.cells #[str f.name, .int .i64 f.type, .bool f.opt] 56))
        have i5 : (k : Int) < (l.length : Int) := by omega
        obtain ⟨W, HW⟩ : ∃ W : Txt, Hid (wordB f.type = W) := ⟨_, hide rfl⟩
        have hWl : W.length ≤ 5 := by rw [← unhide HW]; exact wordB_le _
        obtain ⟨N1, HN1⟩ : ∃ N1 : Txt, Hid (N1 = f.name ++ [58]) := ⟨f.name ++ [58], rfl⟩
        obtain ⟨I, HI⟩ : ∃ I : Txt, Hid (I = N1 ++ W) := ⟨N1 ++ W, rfl⟩
        have hN1l : N1.length ≤ 9 := by rw [unhide HN1, List.length_append]; simp; omega
        have hIl : I.length ≤ 14 := by rw [unhide HI, List.length_append]; omega
        have t1 : ∀ w' : World, (Op.stringOp .add (ByteArray.mk f.name.toArray) (ByteArray.mk #[58])).run Tryz.prog w' = .ok (str N1) w' := fun w' => by
          rw [run_string_add_sum w' _ _ (by simp [ByteArray.size]; omega), str_cat f.name [58] N1 (by rw [unhide HN1])]
        have t2 : ∀ w' : World, (Op.stringOp .add (ByteArray.mk N1.toArray) (ByteArray.mk W.toArray)).run Tryz.prog w' = .ok (str I) w' := fun w' => by
          rw [run_string_add_sum w' _ _ (by simp [ByteArray.size]; omega), str_cat N1 W I (by rw [unhide HI])]
        rw [unhide HW] at htc
        have HTN := hide htn
        rw [htn] at n1 c1 HBN HN HKN htc n0 n2 d0 g0 hxb
        have htn0 : (tn : Int) < 4 := by omega
        have HPF : Hid (pfield f = I ++ (if f.opt then [63] else [])) := by show _ = _; unfold pfield; rw [unhide HW, ← unhide HN1, ← unhide HI]
        have hz1 : wr.heap.size ≠ w2.heap.size := by omega
        have hz0 : (0 : Nat) ≠ w2.heap.size := by have := (unhide HT2).lt; omega
        have HB1 : Hid ((wr.setCell ⟨w2.heap.size, k, none⟩ (str I)).heap[w2.heap.size]? = some (.cells (((l.take k).map pfield ++ I :: List.replicate (l.length - (k + 1)) []).map str).toArray 9 (0, 0))) := by
          have h := unhide HBk
          rw [(unhide HZ).1] at h
          show _ = _
          rw [heap_setCell_at h, set_piece (unhide HRL)]
        clear hc hf HBN hty hxc htn
        cases hfo : f.opt with
        | false =>
          rw [hfo] at c2 n0 n1 n2 HN HKN htc d0 g0 hxb HPF
          go_wp2_with fail
          go_region
          go_wp2_with fail
          go_roundw
          case rel =>
            refine ⟨k + 1, by omega, by go_num, ?_, (((unhide HKP).then (keeps_set _ _ _ _) (fun i _ e => by omega)).alloc _).drew⟩
            show _ = _
            rw [(unhide HZ).2, unhide HPF]
            simp only [Bool.false_eq_true, if_false, List.append_nil]
            exact (Below.heap_alloc _ _ _ (by simpa using hS5)).trans (unhide HB1)
          case measure => simp [intOf]; omega
        | true =>
          rw [hfo] at c2 n0 n1 n2 HN HKN htc d0 g0 hxb HPF
          go_wp2_with fail
          obtain ⟨I2, HI2⟩ : ∃ I2 : Txt, Hid (I2 = I ++ [63]) := ⟨I ++ [63], rfl⟩
          have hc3 : (wr.setCell ⟨w2.heap.size, k, none⟩ (str I)).cell? ⟨w2.heap.size, k, none⟩ = some (str I) := (piece_cell (unhide HB1) (unhide HRL)).1
          have hg3 : (wr.setCell ⟨w2.heap.size, k, none⟩ (str I)).frozen? ⟨w2.heap.size, k, none⟩ = false := (piece_cell (unhide HB1) (unhide HRL)).2
          have hc4 : Value.string (ByteArray.mk I.toArray ++ ByteArray.mk #[63]) = str I2 := str_cat I [63] I2 (by rw [unhide HI2])
          have HB2' : Hid (((wr.setCell ⟨w2.heap.size, k, none⟩ (str I)).setCell ⟨w2.heap.size, k, none⟩ (str I2)).heap[w2.heap.size]? = some (.cells (((l.take k).map pfield ++ I2 :: List.replicate (l.length - (k + 1)) []).map str).toArray 9 (0, 0))) := by
            show _ = _
            rw [heap_setCell_at (unhide HB1), set_piece (unhide HRL)]
          have hS6 : w2.heap.size < (wr.setCell ⟨w2.heap.size, k, none⟩ (str I)).heap.size := by simpa using hS5
          go_region
          go_wp2_with fail
          go_roundw
          case rel =>
            refine ⟨k + 1, by omega, by go_num, ?_, ((((unhide HKP).then (keeps_set _ _ _ _) (fun i _ e => by omega)).then (keeps_set _ _ _ _) (fun i _ e => by omega)).alloc _).drew⟩
            show _ = _
            rw [(unhide HZ).2, unhide HPF]
            simp only [if_true]
            rw [← unhide HI2]
            exact (Below.heap_alloc _ _ _ (by simpa using hS5)).trans (unhide HB2')
          case measure => simp [intOf]; omega
      · obtain rfl : k = l.length := by omega
        have HBF := unhide HBk
        rw [pieces_full] at HBF
        have HOW : Hid (wr.ownsRow w2.heap.size 9 1 (.slice (some ⟨w2.heap.size, 0, none⟩) l.length l.length) l.length ((l.map pfield).map str)) := ⟨by simp, Or.inr ⟨w2.heap.size, _, _, rfl, Nat.le_refl _, HBF, Nat.le_refl _, by unfold maxLen; omega, by simp, by rw [List.take_of_length_le (by simp)]⟩⟩
        have HJ := hide (join_v _ (unhide HOW) (by simp) hl8 (fun x hx => by
          obtain ⟨f, hf, rfl⟩ := List.mem_map.1 hx
          have h1 := ((unhide HOK) f hf).2
          have h2 := wordB_le f.type
          unfold pfield
          simp only [List.length_append, List.length_cons, List.length_nil]
          split <;> simp <;> omega))
        rw [← unhide HE] at HJ
        clear HBF
        go_wp2_with fail
        refine (unhide HJ).mono ?_
        rintro e w5 ⟨rfl, hk5⟩
        have HK5 := hide (((unhide HB2).narrow (F := fun q => w2.heap.size ≤ q) (unhide HK) (fun q hq => by omega)).trans hk5)
        clear hk5 HJ
        go_wp2_with fail
        go_ret2
        exact ⟨by rw [unhide HES]; rfl, unhide HK5⟩
  · rw [he]
    have HES := hide he
    have HE : Hid (printSchemaB l = []) := by show _ = _; unfold printSchemaB; rw [if_neg (by simp [hs])]
    clear hs he
    go_wp2_with fail
    go_ret2
    exact ⟨by rw [unhide HE, unhide HES]; rfl, unhide HB2⟩
end Go.Proofs.YtbfkoamledkhnaaGreatDoor
