import Derived.Test.YtklkhegeeglfbaaGreatDoorJzad
import Derived.Test.YtklkhegeeglfbaaGreatDoorJn
import Derived.Test.YtklkhegeeglfbaaGreatDoorJo
import Derived.Test.YtklkhegeeglfbaaGreatDoorQd
import Derived.RegionTactic
import Derived.Test.YtklkhegeeglfbaaGreatDoorJzaa
import Derived.Test.YtklkhegeeglfbaaGreatDoorJzac
namespace Go.Proofs.YtklkhegeeglfbaaGreatDoor
open Go.RowKit Go.Maps

/-- A field as text. -/
def pfield (f : FieldA) : Txt := f.name ++ [58] ++ wordB f.type ++ (if f.opt then [63] else [])
def psStep (p : Txt × Nat) (f : FieldA) : Txt × Nat := ((if 0 < p.2 then p.1 ++ [44] else p.1) ++ pfield f, p.2 + 1)
def psF (l : List FieldA) : Txt × Nat := l.foldl psStep ([], 0)
def printSchemaB (l : List FieldA) : Txt := if schemaB l then (psF l).1 else []
theorem psF_snoc (l : List FieldA) (f : FieldA) : psF (l ++ [f]) = psStep (psF l) f := by simp [psF]
theorem wordB_le (t : Int) : (wordB t).length ≤ 5 := by unfold wordB; repeat' split
                                                        all_goals simp

end Go.Proofs.YtklkhegeeglfbaaGreatDoor
namespace Go.Proofs.YtklkhegeeglfbaaGreatDoor
open Go.RowKit Go.Maps

theorem joinB_snoc (L : List Txt) (x : Txt) : joinB (L ++ [x]) = (if 0 < L.length then joinB L ++ [44] else joinB L) ++ x := by
  cases L with
  | nil => simp [joinB]
  | cons a r => simp [joinB]
theorem psF_eq : ∀ l : List FieldA, psF l = (joinB (l.map pfield), l.length) := by
  intro l
  have h : ∀ n (l : List FieldA), l.length = n → psF l = (joinB (l.map pfield), l.length) := by
    intro n
    induction n with
    | zero => intro l hl; obtain rfl : l = [] := List.eq_nil_of_length_eq_zero hl; rfl
    | succ n ih =>
      intro l hl
      have hne : l ≠ [] := by rintro rfl; simp at hl
      rw [← List.dropLast_concat_getLast hne, psF_snoc, ih l.dropLast (by rw [List.length_dropLast, hl]; rfl), List.map_append]
      simp only [List.map_cons, List.map_nil, psStep, List.length_append, List.length_cons, List.length_nil]
      rw [joinB_snoc, List.length_map]
  exact h _ l rfl
theorem Types.word {w : World} (h : Types w) {t : Int} (ht : t = 1 ∨ t = 2 ∨ t = 3) : ∃ n : Nat, t = n ∧ n < 4 ∧ w.cell? ⟨0, n * 2, none⟩ = some (str (wordB t)) := by
  rcases ht with rfl | rfl | rfl
  · exact ⟨1, rfl, by omega, h.cell 2 _ rfl⟩
  · exact ⟨2, rfl, by omega, h.cell 4 _ rfl⟩
  · exact ⟨3, rfl, by omega, h.cell 6 _ rfl⟩
theorem run_mks (n : Nat) (hn : n ≤ 1024) (w : World) : (Instr.makeSlice 96 (.int .i64 (n : Int)) (.int .i64 (n : Int))).run Tryz.prog w = .ok (.slice (some ⟨w.heap.size, 0, none⟩) n n) (w.alloc (.cells (Array.replicate n (str [])) 9)) := by
  obtain ⟨i0, hi, hz0, hz1, hz2⟩ := info_parts Tryz.info9
  have q := run_make (P := Tryz.prog) w 96 9 i0 (.string ⟨#[]⟩) Tryz.underlying96 hi hz0 .i64 .i64 (n : Int) (n : Int) (by omega) (by omega) (by rw [hz2]; omega) (by omega)
  rw [hz1] at q
  have e : madeCells (Value.string ⟨#[]⟩).cells n = Array.replicate n (str []) := by
    apply Array.ext_getElem?
    intro i
    rw [show (Value.string ⟨#[]⟩).cells = #[.string ⟨#[]⟩] from rfl]
    simp only [madeCells, Array.getElem?_map, Array.getElem?_range, Array.getElem?_replicate]
    by_cases h : i < n
    · simp [h, Nat.mod_one]
    · simp [h]
  simp only [Int.toNat_natCast, Nat.mul_one, e] at q
  exact q
/-- The pieces of a schema's text, as far as they are written. -/
def pieces (l : List FieldA) (k : Nat) : List Txt := (l.take k).map pfield ++ List.replicate (l.length - k) []
theorem pieces_zero (l : List FieldA) : pieces l 0 = List.replicate l.length [] := by simp [pieces]
theorem pieces_full (l : List FieldA) : pieces l l.length = l.map pfield := by simp [pieces]
theorem pieces_at {l : List FieldA} {k : Nat} {f : FieldA} (h : l[k]? = some f) : pieces l k = (l.take k).map pfield ++ [] :: List.replicate (l.length - (k + 1)) [] ∧ pieces l (k + 1) = (l.take k).map pfield ++ pfield f :: List.replicate (l.length - (k + 1)) [] := by
  have hl := get_lt h
  unfold pieces
  constructor
  · rw [show l.length - k = (l.length - (k + 1)) + 1 by omega, List.replicate_succ]
  · rw [take_snoc _ _ _ h, List.map_append, List.append_assoc]
    rfl
theorem set_piece {R Z : List Txt} {k : Nat} (hk : R.length = k) (x y : Txt) : ((R ++ x :: Z).map str).toArray.setIfInBounds k (str y) = ((R ++ y :: Z).map str).toArray := by
  subst hk
  apply Array.ext'
  simp
theorem piece_cell {w : World} {S k : Nat} {R Z : List Txt} {x : Txt} (h : w.heap[S]? = some (.cells ((R ++ x :: Z).map str).toArray 9 (0, 0))) (hk : R.length = k) : w.cell? ⟨S, k, none⟩ = some (str x) ∧ w.frozen? ⟨S, k, none⟩ = false := by
  subst hk
  refine ⟨?_, frozen_of_blk h _⟩
  rw [cell_of_blk h]
  simp

set_option maxRecDepth 100000 in
set_option maxHeartbeats 2000000 in
theorem val_printSchema (l : List FieldA) (v : Value) (w : World) (hT : Types w) (h : FldsAt w v l) :
    Calls Tryz.prog 33 #[.agg #[v]] w fun e w' => e = .returned (.tuple #[str (printSchemaB l), .int .i64 (errS l)]) ∧ Keeps (fun _ => False) w w' := by
  obtain ⟨ao, cap, rfl⟩ := RowAt.form h
  obtain ⟨HB, hb, hbc⟩ := boxed w #[.slice ao l.length cap] 26
  have hp := hbc 0 (.slice ao l.length cap) rfl
  have HF := hide (h.keepF (unhide HB))
  have HTy := hide (hT.keepF (unhide HB))
  have HS := hide (checkSchema_v l _ _ (unhide HTy) (unhide HF))
  clear hbc h hT
  go_enter Tryz.func33, Tryz.ntmps33
  go_wp2_with fail
  refine (unhide HS).mono ?_
  rintro e w2 ⟨rfl, hk2⟩
  have hp2 := (hk2.cell (o := 0) hb id).trans hp
  have hb2 : w.heap.size < w2.heap.size := Nat.lt_of_lt_of_le hb hk2.size
  have HF2 := hide ((unhide HF).keepF hk2)
  have HT2 := hide ((unhide HTy).keepF hk2)
  have HB2 := hide ((unhide HB).trans hk2)
  clear HS HF HB hk2 hp hb HTy
  generalize w.alloc (.cells #[.slice ao l.length cap] 26) = w1 at *
  rcases errS_eq l with ⟨hs, he⟩ | ⟨hs, he⟩
  · rw [he]
    have hl8 := (schemaB_len hs).2
    have HES := hide he
    have HE : Hid (printSchemaB l = joinB (l.map pfield)) := by show _ = _; unfold printSchemaB; rw [if_pos hs, psF_eq]
    have HOK : Hid (∀ f ∈ l, (f.type = 1 ∨ f.type = 2 ∨ f.type = 3) ∧ f.name.length ≤ 8) := fun f hf => ⟨type_of (List.all_eq_true.1 (schemaB_ok hs) f hf), (schemaB_name8 hs hf).1⟩
    have hmk := run_mks l.length (by omega) w2
    have HG := hide (heap_alloc_new w2 (.cells (Array.replicate l.length (str [])) 9))
    have HA : Hid (Keeps (fun q => w2.heap.size ≤ q) w2 (w2.alloc (.cells (Array.replicate l.length (str [])) 9))) := (Keeps.refl _ _).alloc _
    have hp4 := ((unhide HA).cell (o := 0) hb2 (by omega)).trans hp2
    have hS4 : w2.heap.size < (w2.alloc (.cells (Array.replicate l.length (str [])) 9)).heap.size := by simp
    clear hs he
    go_wp2_with fail
    generalize w2.alloc (.cells (Array.replicate l.length (str [])) 9) = w4 at *
    clear hmk
    go_loopw [20] (fun i wr => ∃ (k : Nat), k ≤ l.length ∧ i = .int .i64 k ∧ Hid (wr.heap[w2.heap.size]? = some (.cells ((pieces l k).map str).toArray 9 (0, 0))) ∧ Keeps (fun q => w2.heap.size ≤ q) w4 wr) (fun i _ => l.length - (intOf i).toNat)
    case atStart => exact ⟨0, Nat.zero_le _, rfl, by show _ = _; rw [pieces_zero, List.map_replicate, List.toArray_replicate]; exact unhide HG, Keeps.refl _ _⟩
    case round =>
      obtain ⟨k, hk, rfl, HBk, hkp⟩ := hrel
      have HK := hide ((unhide HA).trans hkp)
      have HKP := hide hkp
      have hS5 : w2.heap.size < wr.heap.size := Nat.lt_of_lt_of_le hS4 hkp.size
      clear hkp
      by_cases hlt : k < l.length
      · obtain ⟨f, hf⟩ : ∃ f, l[k]? = some f := ⟨_, List.getElem?_eq_getElem hlt⟩
        obtain ⟨b5, off5, c5, e5, hbl, hc⟩ := (unhide HF2).cells (by omega)
        simp at e5
        obtain ⟨rfl, rfl⟩ := e5
        have c0 := ((unhide HK).cell hbl (by omega)).trans (hc k f hf).1
        have c1 := ((unhide HK).cell hbl (by omega)).trans (hc k f hf).2.1
        have c2 := ((unhide HK).cell hbl (by omega)).trans (hc k f hf).2.2
        have HZ := hide (pieces_at hf)
        have HRL : Hid (((l.take k).map pfield).length = k) := by show _ = _; rw [List.length_map, List.length_take, Nat.min_eq_left hk]
        obtain ⟨hty, hnl⟩ := (unhide HOK) f (List.mem_of_getElem? hf)
        have HT5 := hide ((unhide HT2).keep (unhide HK) (by have := (unhide HT2).lt; omega))
        obtain ⟨HX, hxb, hxc⟩ := boxed wr #[str f.name, .int .i64 f.type, .bool f.opt] 69
        obtain ⟨tn, htn, htl, htc⟩ := ((unhide HT5).keepF (unhide HX)).word hty
        have n0 : (wr.alloc (.cells #[str f.name, .int .i64 f.type, .bool f.opt] 69)).cell? ⟨wr.heap.size, 0, none⟩ = some (str f.name) := hxc 0 _ rfl
        have n1 : (wr.alloc (.cells #[str f.name, .int .i64 f.type, .bool f.opt] 69)).cell? ⟨wr.heap.size, 1, none⟩ = some (.int .i64 f.type) := hxc 1 _ rfl
        have n2 : (wr.alloc (.cells #[str f.name, .int .i64 f.type, .bool f.opt] 69)).cell? ⟨wr.heap.size, 2, none⟩ = some (.bool f.opt) := hxc 2 _ rfl
        have HBN : (wr.alloc (.cells #[str f.name, .int .i64 f.type, .bool f.opt] 69)).heap[w2.heap.size]? = some (.cells (((l.take k).map pfield ++ [] :: List.replicate (l.length - (k + 1)) []).map str).toArray 9 (0, 0)) := by
          rw [← (unhide HZ).1]
          exact (Below.heap_alloc _ _ _ hS5).trans (unhide HBk)
        obtain ⟨d0, g0⟩ := piece_cell HBN (unhide HRL)
        have HN := hide HBN
        have HKN := hide ((unhide HKP).alloc (.cells #[str f.name, .int .i64 f.type, .bool f.opt] 69))
        have i5 : (k : Int) < (l.length : Int) := by omega
        obtain ⟨W, HW⟩ : ∃ W : Txt, Hid (wordB f.type = W) := ⟨_, hide rfl⟩
        have hWl : W.length ≤ 5 := by rw [← unhide HW]; exact wordB_le _
        obtain ⟨N1, HN1⟩ : ∃ N1 : Txt, Hid (N1 = f.name ++ [58]) := ⟨f.name ++ [58], rfl⟩
        obtain ⟨I, HI⟩ : ∃ I : Txt, Hid (I = N1 ++ W) := ⟨N1 ++ W, rfl⟩
        have hN1l : N1.length ≤ 9 := by rw [unhide HN1, List.length_append]; simp; omega
        have hIl : I.length ≤ 14 := by rw [unhide HI, List.length_append]; omega
        have t1 : ∀ w' : World, (Op.stringOp .add (ByteArray.mk f.name.toArray) (ByteArray.mk #[58])).run Tryz.prog w' = .ok (str N1) w' := fun w' => by
          rw [run_string_add_sum w' _ _ (by simp [ByteArray.size]; omega), str_cat f.name [58] N1 (by rw [unhide HN1])]
        have t2 : ∀ w' : World, (Op.stringOp .add (ByteArray.mk N1.toArray) (ByteArray.mk W.toArray)).run Tryz.prog w' = .ok (str I) w' := fun w' => by
          rw [run_string_add_sum w' _ _ (by simp [ByteArray.size]; omega), str_cat N1 W I (by rw [unhide HI])]
        rw [unhide HW] at htc
        have HTN := hide htn
        rw [htn] at n1 c1 HBN HN HKN htc n0 n2 d0 g0 hxb
        have htn0 : (tn : Int) < 4 := by omega
        have HPF : Hid (pfield f = I ++ (if f.opt then [63] else [])) := by show _ = _; unfold pfield; rw [unhide HW, ← unhide HN1, ← unhide HI]
        have hz1 : wr.heap.size ≠ w2.heap.size := by omega
        have hz0 : (0 : Nat) ≠ w2.heap.size := by have := (unhide HT2).lt; omega
        have HB1 : Hid ((wr.setCell ⟨w2.heap.size, k, none⟩ (str I)).heap[w2.heap.size]? = some (.cells (((l.take k).map pfield ++ I :: List.replicate (l.length - (k + 1)) []).map str).toArray 9 (0, 0))) := by
          have h := unhide HBk
          rw [(unhide HZ).1] at h
          show _ = _
          rw [heap_setCell_at h, set_piece (unhide HRL)]
        clear hc hf HBN hty hxc htn
        cases hfo : f.opt with
        | false =>
          rw [hfo] at c2 n0 n1 n2 HN HKN htc d0 g0 hxb HPF
          go_wp2_with fail
          go_region
          go_wp2_with fail
          go_roundw
          case rel =>
            refine ⟨k + 1, by omega, by go_num, ?_, (((unhide HKP).then (keeps_set _ _ _ _) (fun i _ e => by omega)).alloc _).drew⟩
            show _ = _
            rw [(unhide HZ).2, unhide HPF]
            simp only [Bool.false_eq_true, if_false, List.append_nil]
            exact (Below.heap_alloc _ _ _ (by simpa using hS5)).trans (unhide HB1)
          case measure => simp [intOf]; omega
        | true =>
          rw [hfo] at c2 n0 n1 n2 HN HKN htc d0 g0 hxb HPF
          go_wp2_with fail
          obtain ⟨I2, HI2⟩ : ∃ I2 : Txt, Hid (I2 = I ++ [63]) := ⟨I ++ [63], rfl⟩
          have hc3 : (wr.setCell ⟨w2.heap.size, k, none⟩ (str I)).cell? ⟨w2.heap.size, k, none⟩ = some (str I) := (piece_cell (unhide HB1) (unhide HRL)).1
          have hg3 : (wr.setCell ⟨w2.heap.size, k, none⟩ (str I)).frozen? ⟨w2.heap.size, k, none⟩ = false := (piece_cell (unhide HB1) (unhide HRL)).2
          have hc4 : Value.string (ByteArray.mk I.toArray ++ ByteArray.mk #[63]) = str I2 := str_cat I [63] I2 (by rw [unhide HI2])
          have HB2' : Hid (((wr.setCell ⟨w2.heap.size, k, none⟩ (str I)).setCell ⟨w2.heap.size, k, none⟩ (str I2)).heap[w2.heap.size]? = some (.cells (((l.take k).map pfield ++ I2 :: List.replicate (l.length - (k + 1)) []).map str).toArray 9 (0, 0))) := by
            show _ = _
            rw [heap_setCell_at (unhide HB1), set_piece (unhide HRL)]
          have hS6 : w2.heap.size < (wr.setCell ⟨w2.heap.size, k, none⟩ (str I)).heap.size := by simpa using hS5
          go_region
          go_wp2_with fail
          go_roundw
          case rel =>
            refine ⟨k + 1, by omega, by go_num, ?_, ((((unhide HKP).then (keeps_set _ _ _ _) (fun i _ e => by omega)).then (keeps_set _ _ _ _) (fun i _ e => by omega)).alloc _).drew⟩
            show _ = _
            rw [(unhide HZ).2, unhide HPF]
            simp only [if_true]
            rw [← unhide HI2]
            exact (Below.heap_alloc _ _ _ (by simpa using hS5)).trans (unhide HB2')
          case measure => simp [intOf]; omega
      · obtain rfl : k = l.length := by omega
        have HBF := unhide HBk
        rw [pieces_full] at HBF
        have HOW : Hid (wr.ownsRow w2.heap.size 9 1 (.slice (some ⟨w2.heap.size, 0, none⟩) l.length l.length) l.length ((l.map pfield).map str)) := ⟨by simp, Or.inr ⟨w2.heap.size, _, _, rfl, Nat.le_refl _, HBF, Nat.le_refl _, by unfold maxLen; omega, by simp, by rw [List.take_of_length_le (by simp)]⟩⟩
        have HJ := hide (join_v _ (unhide HOW) (by simp) hl8 (fun x hx => by
          obtain ⟨f, hf, rfl⟩ := List.mem_map.1 hx
          have h1 := ((unhide HOK) f hf).2
          have h2 := wordB_le f.type
          unfold pfield
          simp only [List.length_append, List.length_cons, List.length_nil]
          split <;> simp <;> omega))
        rw [← unhide HE] at HJ
        clear HBF
        go_wp2_with fail
        refine (unhide HJ).mono ?_
        rintro e w5 ⟨rfl, hk5⟩
        have HK5 := hide (((unhide HB2).narrow (F := fun q => w2.heap.size ≤ q) (unhide HK) (fun q hq => by omega)).trans hk5)
        clear hk5 HJ
        go_wp2_with fail
        go_ret2
        exact ⟨by rw [unhide HES]; rfl, unhide HK5⟩
  · rw [he]
    have HES := hide he
    have HE : Hid (printSchemaB l = []) := by show _ = _; unfold printSchemaB; rw [if_neg (by simp [hs])]
    clear hs he
    go_wp2_with fail
    go_ret2
    exact ⟨by rw [unhide HE, unhide HES]; rfl, unhide HB2⟩
end Go.Proofs.YtklkhegeeglfbaaGreatDoor
namespace Go.Proofs.YtklkhegeeglfbaaGreatDoor
open Go.RowKit Go.Maps

theorem takeG_readG : ∀ (T : Txt) (k U u : Nat) (s : Txt), k ≤ 9 → U < 128 ^ k → takeG k T U = some (u, s) → ∃ j, readG (10 - k) T U k = some (u, k + j) ∧ s = T.drop j
  | [], k, U, u, s, _, _, h => by simp [takeG] at h
  | c :: r, k, U, u, s, hk, hU, h => by
    rw [takeG] at h
    split at h
    · cases h
    · rename_i h9
      have h9' : k = 9 → c.toNat ≤ 1 := fun e => by
        rcases Nat.lt_or_ge 1 c.toNat with h1 | h1
        · exact absurd ⟨e, h1⟩ h9
        · exact h1
      obtain ⟨g1, g2⟩ := group_lt U k c hU hk h9'
      rw [show 10 - k = (9 - k) + 1 by omega, readG]
      split at h
      · rename_i hc
        split at h
        · cases h
        · simp only [Option.some.injEq, Prod.mk.injEq] at h
          rw [if_pos hc, Nat.mod_eq_of_lt g2]
          exact ⟨1, by rw [h.1], by rw [← h.2]; rfl⟩
      · rename_i hc
        rw [if_neg hc, Nat.mod_eq_of_lt g2]
        have hk8 : k ≤ 8 := by
          rcases Nat.lt_or_ge k 9 with h1 | h1
          · omega
          · have := h9' (by omega); omega
        obtain ⟨j, e1, e2⟩ := takeG_readG r (k + 1) _ u s (by omega) g1 h
        rw [show 9 - k = 10 - (k + 1) by omega, e1]
        exact ⟨j + 1, by rw [show k + 1 + j = k + (j + 1) by omega], by rw [e2]; rfl⟩
theorem take_read {f : FieldA} {t : Txt} {a : Nat} {x : ValA} {s : Txt} (h : takeP f.type (t.drop a) = some (x, s)) : 0 ≤ (readB f t a).2 ∧ (readB f t a).1 = x ∧ s = t.drop (readB f t a).2.toNat := by
  unfold takeP at h
  unfold readB
  by_cases h1 : f.type = 1
  · rw [if_pos h1] at h ⊢
    unfold takeIntP at h
    cases hg : takeG 0 (t.drop a) 0 with
    | none => rw [hg] at h; cases h
    | some p =>
      obtain ⟨u, e⟩ := p
      rw [hg] at h
      simp only [Option.map_some, Option.some.injEq, Prod.mk.injEq] at h
      obtain ⟨j, e1, e2⟩ := takeG_readG _ 0 0 u e (by omega) (by simp) hg
      unfold readIntB
      rw [show 10 - 0 = 10 from rfl, Nat.zero_add] at e1
      rw [e1]
      refine ⟨by show (0 : Int) ≤ ((a + j : Nat) : Int); omega, h.1, ?_⟩
      rw [← h.2, e2, List.drop_drop]
      rfl
  · rw [if_neg h1] at h ⊢
    cases hc : t[a]? with
    | none =>
      rw [List.drop_eq_nil_of_le (get_ge hc)] at h
      split at h <;> cases h
    | some c =>
      rw [drop_at hc] at h
      simp only
      by_cases h2 : f.type = 2
      · rw [if_pos h2] at h ⊢
        replace h : (if 1 < c.toNat then none else some ((⟨2, num c, []⟩ : ValA), t.drop (a + 1))) = some (x, s) := h
        split at h
        · cases h
        · simp only [Option.some.injEq, Prod.mk.injEq] at h
          exact ⟨by show (0 : Int) ≤ ((a + 1 : Nat) : Int); omega, h.1, by rw [← h.2]; rfl⟩
      · rw [if_neg h2] at h ⊢
        replace h : (if 20 < c.toNat then none else if (t.drop (a + 1)).length < c.toNat then none else some ((⟨3, 0, (t.drop (a + 1)).take c.toNat⟩ : ValA), (t.drop (a + 1)).drop c.toNat)) = some (x, s) := h
        split at h
        · cases h
        · split at h
          · cases h
          · rename_i h3
            simp only [Option.some.injEq, Prod.mk.injEq] at h
            rw [List.length_drop] at h3
            have := get_lt hc
            rw [if_neg (by omega)]
            refine ⟨by show (0 : Int) ≤ ((a + 1 + c.toNat : Nat) : Int); omega, h.1, ?_⟩
            rw [← h.2, List.drop_drop]
            rfl
theorem decP_loop (t : Txt) : ∀ (l : List FieldA) (m a : Nat) (r : List ValA) (m' : Nat) (e : Txt), decP l m (t.drop a) = some (r, m', e) → decLoop l t m a = some r
  | [], m, a, r, m', e, h => by
    simp only [decP, Option.some.injEq, Prod.mk.injEq] at h
    rw [decLoop, h.1]
  | f :: l, m, a, r, m', e, h => by
    rw [decP] at h
    rw [decLoop]
    by_cases h1 : f.opt = true ∧ m % 2 ≠ 1
    · rw [if_pos h1] at h ⊢
      cases hd : decP l (m / 2) (t.drop a) with
      | none => rw [hd] at h; cases h
      | some q =>
        obtain ⟨q1, q2, q3⟩ := q
        rw [hd] at h
        simp only [Option.map_some, Option.some.injEq, Prod.mk.injEq] at h
        rw [decP_loop t l _ _ _ _ _ hd, ← h.1]
        rfl
    · rw [if_neg h1] at h ⊢
      cases ht : takeP f.type (t.drop a) with
      | none => rw [ht] at h; cases h
      | some p =>
        obtain ⟨x, s⟩ := p
        rw [ht] at h
        obtain ⟨g1, g2, g3⟩ := take_read ht
        rw [if_neg (by omega), g2]
        simp only [Option.bind_some] at h
        rw [g3] at h
        cases hd : decP l (if f.opt = true then m / 2 else m) (t.drop (readB f t a).2.toNat) with
        | none => rw [hd] at h; cases h
        | some q =>
          obtain ⟨q1, q2, q3⟩ := q
          rw [hd] at h
          simp only [Option.map_some, Option.some.injEq, Prod.mk.injEq] at h
          rw [decP_loop t l _ _ _ _ _ hd, ← h.1]
          rfl
theorem decLoop_in (t : Txt) : ∀ (l : List FieldA) (m a : Nat) (r : List ValA), a ≤ t.length → decLoop l t m a = some r → InR r
  | [], m, a, r, _, h => by
    simp only [decLoop, Option.some.injEq] at h
    subst h
    intro x hx; cases hx
  | f :: l, m, a, r, ha, h => by
    rw [decLoop] at h
    split at h
    · cases hd : decLoop l t (m / 2) a with
      | none => rw [hd] at h; cases h
      | some q =>
        rw [hd] at h
        simp only [Option.map_some, Option.some.injEq] at h
        subst h
        intro x hx
        rcases List.mem_cons.1 hx with rfl | hx
        · simp
        · exact decLoop_in t l _ _ _ ha hd x hx
    · split at h
      · cases h
      · rename_i h2
        have hf := readB_facts f t a ha
        cases hd : decLoop l t (if f.opt = true then m / 2 else m) (readB f t a).2.toNat with
        | none => rw [hd] at h; cases h
        | some q =>
          rw [hd] at h
          simp only [Option.map_some, Option.some.injEq] at h
          subst h
          intro x hx
          rcases List.mem_cons.1 hx with rfl | hx
          · exact hf.2
          · exact decLoop_in t l _ _ _ (by omega) hd x hx
theorem enc1_wide {f : FieldA} {x : ValA} (hok : fieldOK f = true) (h : fitsB f x = true) (hx : -9223372036854775808 ≤ x.n ∧ x.n ≤ 9223372036854775807) : ((enc1 x).length : Int) ≤ wideB f.type := by
  by_cases hk : x.kind = 0
  · have : (enc1 x).length = 0 := by unfold enc1; simp [hk]
    rcases type_of hok with e | e | e <;> rw [e] <;> simp [wideB] <;> omega
  · have hty := fits_type h hk
    have hl := enc1_length h hx
    rcases type_of hok with e | e | e
    · have h1 : enc1 x = groups (tn x.n) := by unfold enc1; simp [hty.trans e]
      have h2 := groups_length 9 (tn x.n) (by have := tn_le x.n hx.1 hx.2; omega)
      rw [h1, e]
      simp [wideB]
      omega
    · have h1 : (enc1 x).length = 1 := by unfold enc1; simp [hty.trans e]
      rw [h1, e]
      simp [wideB]
    · rw [e]
      simp [wideB]
      omega
theorem flat_wide : ∀ (l : List FieldA) (r : List ValA), l.all fieldOK = true → fitAll l r = true → r.length = l.length → InR r → ((r.flatMap enc1).length : Int) ≤ wides l
  | [], [], _, _, _, _ => by simp [wides]
  | [], x :: r, _, _, hl, _ => by simp at hl
  | f :: l, [], _, _, hl, _ => by simp at hl
  | f :: l, x :: r, hok, hf, hl, hI => by
    simp only [List.all_cons, Bool.and_eq_true] at hok
    unfold fitAll at hf
    simp only [List.zip_cons_cons, List.all_cons, Bool.and_eq_true] at hf
    have h1 := enc1_wide hok.1 hf.1 (hI x (by simp))
    have h2 := flat_wide l r hok.2 hf.2 (by simpa using hl) (fun y hy => hI y (List.mem_cons_of_mem _ hy))
    simp only [List.flatMap_cons, List.length_append, wides, List.map_cons, List.sum_cons]
    unfold wides at h2
    omega
theorem bitsOf_opts : ∀ (l : List FieldA) (r : List ValA), r.length = l.length → (bitsOf (l.zip r)).length = opts l
  | [], [], _ => rfl
  | [], x :: r, hl => by simp at hl
  | f :: l, [], hl => by simp at hl
  | f :: l, x :: r, hl => by
    have h := bitsOf_opts l r (by simpa using hl)
    rw [List.zip_cons_cons, bitsOf_cons]
    unfold opts at h ⊢
    cases ho : f.opt <;> simp [ho, h]
theorem enc_64 {l : List FieldA} {r : List ValA} (he : errR l r = 0) (hI : InR r) : (encB l r).length ≤ 64 := by
  obtain ⟨hs, hl, hf⟩ := errR_zero he
  have h1 := flat_wide l r (schemaB_ok hs) hf hl hI
  have h2 : widthB l ≤ 64 := by
    unfold schemaB at hs
    simp only [Bool.and_eq_true, decide_eq_true_eq] at hs
    exact hs.2
  unfold widthB headB at h2
  unfold encB
  rw [List.length_append]
  have h3 : (headT (l.zip r)).length ≤ (opts l + 7) / 8 := by
    unfold headT
    rw [bitsOf_opts l r hl]
    split
    · simp; omega
    · simp
  omega
theorem decode_eq (l : List FieldA) (t : Txt) : decodeV l t = decodeB l t := by
  unfold decodeV decodeB
  cases hs : schemaB l with
  | false => simp
  | true =>
    rw [if_neg (by simp), if_neg (by simp)]
    cases hd : decodeP l t with
    | some r =>
      obtain ⟨he, hI, hen⟩ := decodeP_sound hs hd
      obtain ⟨h1, h2⟩ := decodeP_some hd
      have h3 := enc_64 he hI
      rw [hen] at h3
      rw [if_neg (by omega), decP_loop t l _ _ _ _ _ h2]
      simp only
      rw [if_pos ⟨he, hen⟩]
    | none =>
      by_cases h1 : t.length < headB l ∨ 64 < t.length
      · rw [if_pos h1]
      · rw [if_neg h1]
        cases hl : decLoop l t (head0 l t) (headB l) with
        | none => rfl
        | some r =>
          simp only
          by_cases h2 : errR l r = 0 ∧ encB l r = t
          · have hI := decLoop_in t l _ _ _ (by omega) hl
            have := decodeP_enc hs h2.1 hI
            rw [h2.2, hd] at this
            cases this
          · rw [if_neg h2]
theorem print_items (z : List (FieldA × ValA)) : printTo z = joinB (items z) ∧ (printTo z = [] ↔ items z = []) := by
  have h : ∀ n (z : List (FieldA × ValA)), z.length = n → printTo z = joinB (items z) ∧ (printTo z = [] ↔ items z = []) := by
    intro n
    induction n with
    | zero => intro z hz; obtain rfl : z = [] := List.eq_nil_of_length_eq_zero hz; exact ⟨rfl, by simp [printTo, items]⟩
    | succ n ih =>
      intro z hz
      have hne : z ≠ [] := by rintro rfl; simp at hz
      obtain ⟨h1, h2⟩ := ih z.dropLast (by rw [List.length_dropLast, hz]; rfl)
      rw [← List.dropLast_concat_getLast hne, printTo_snoc, items_snoc]
      unfold printStep
      by_cases hk : (z.getLast hne).2.kind = 0
      · rw [if_pos hk, if_pos hk, List.append_nil]
        exact ⟨h1, h2⟩
      · rw [if_neg hk, if_neg hk, joinB_snoc]
        refine ⟨?_, by simp⟩
        by_cases he : printTo z.dropLast = []
        · rw [if_pos he, if_neg (by rw [h2.1 he]; simp), ← h1]
          simp
        · have : items z.dropLast ≠ [] := fun e => he (h2.2 e)
          rw [if_neg he, if_pos (List.length_pos_iff.2 this), ← h1]
          simp
  exact h _ z rfl
theorem print_eq (l : List FieldA) (r : List ValA) : printP l r = printB l r := by
  unfold printP printB
  rw [(print_items _).1]
end Go.Proofs.YtklkhegeeglfbaaGreatDoor
