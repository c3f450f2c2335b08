import Derived.Test.YtbgapbaeegloaaaDoorTf
import Derived.Test.YtbgapbaeegloaaaDoorLk
namespace Go.Proofs.YtbgapbaeegloaaaDoor
open Go.RowKit Go.Maps

set_option maxRecDepth 100000 in
set_option maxHeartbeats 4000000 in
/-- Tokens that differ in their places alone are alike. -/
theorem alike_v (w : World) (va vb : Value) (n : Nat) (la lb : List TokA) (hla : la.length = n) (hlb : lb.length = n) (ha : ToksAt w va la) (hb : ToksAt w vb lb) (hn : n ≤ 3518437208883) (he : ∀ (i : Nat) (x y : TokA), la[i]? = some x → lb[i]? = some y → x.kind = y.kind ∧ x.text = y.text ∧ x.n = y.n) :
    Calls Tryd.prog 13 #[va, vb] w fun e w' => e = .returned (.bool true) ∧ Keeps (fun _ => False) w w' := by
  obtain ⟨ao, capa, rfl⟩ := RowAt.form ha
  obtain ⟨bo, capb, rfl⟩ := RowAt.form hb
  have HA := hide ha
  have HB := hide hb
  have HLA := hide hla
  have HLB := hide hlb
  have HE := hide he
  have hl' : n ≤ 9223372036854775807 := by omega
  rw [hla, hlb]
  clear ha hb he hla hlb
  go_enter Tryd.func13, Tryd.ntmps13
  go_wp2
  go_loopw [5] (fun i wr => ∃ k : Nat, k ≤ n ∧ i = .int .i64 k ∧ Keeps (fun _ => False) w wr) (fun i _ => n - (intOf i).toNat)
  case atStart => exact ⟨0, Nat.zero_le _, rfl, Keeps.refl _ _⟩
  case round =>
    obtain ⟨k, hk, rfl, hkp⟩ := hrel
    have HK := hide hkp
    by_cases hlt : k < n
    · obtain ⟨b, off, c1, e1, hbl, hc⟩ := (unhide HA).cells (by have := unhide HLA; omega)
      obtain ⟨b', off', c2, e2, hbl', hc'⟩ := (unhide HB).cells (by have := unhide HLB; omega)
      simp at e1 e2
      obtain ⟨rfl, rfl⟩ := e1
      obtain ⟨rfl, rfl⟩ := e2
      obtain ⟨x, hx⟩ : ∃ x, la[k]? = some x := ⟨_, List.getElem?_eq_getElem (by have := unhide HLA; omega)⟩
      obtain ⟨y, hy⟩ : ∃ y, lb[k]? = some y := ⟨_, List.getElem?_eq_getElem (by have := unhide HLB; omega)⟩
      obtain ⟨q1, q2, q3⟩ := (unhide HE) k x y hx hy
      have c0 := (hkp.cell hbl id).trans (hc k x hx).1
      have c1 := (hkp.cell hbl id).trans (hc k x hx).2.1
      have c2 := (hkp.cell hbl id).trans (hc k x hx).2.2.1
      have d0 := (hkp.cell hbl' id).trans (hc' k y hy).1
      have d1 := (hkp.cell hbl' id).trans (hc' k y hy).2.1
      have d2 := (hkp.cell hbl' id).trans (hc' k y hy).2.2.1
      rw [← q1] at d0
      rw [← q2] at d1
      rw [← q3] at d2
      have i1 : (k : Int) < (n : Int) := by omega
      have i0 : (0 : Int) ≤ (k : Int) := by omega
      clear hc hc' hx hy hkp q1 q2 q3
      go_wp2_with fail
      go_quiet (fail)
      go_wp2_with fail
      go_roundw
      case rel => exact ⟨k + 1, by omega, by go_num, (unhide HK).drewN nq⟩
      case measure => simp [intOf]; omega
    · obtain rfl : k = n := by omega
      clear hkp
      go_wp2
      go_ret
      exact ⟨rfl, unhide HK⟩
theorem one_tok (w : World) (x : TokA) : ToksAt (w.alloc (.cells #[.int .i64 x.kind, str x.text, .int .i64 x.n, .int .i64 x.pos] 25)) (.slice (some ⟨w.heap.size, 0, none⟩) 1 1) [x] := by
  refine ⟨⟨_, _, rfl⟩, fun _ => ⟨w.heap.size, 0, 1, rfl, by simp, fun j y hy => ?_⟩, fun ao m c e => by simp at e; omega⟩
  rw [cell_of_blk (heap_alloc_new w _), Nat.zero_add]
  have e : tcs [x] = x.cs := by simp [tcs]
  rw [e] at hy
  rw [← List.getElem?_toArray] at hy
  exact hy
theorem endP_len (t : Txt) (l : List TokA) : endP t l l.length = t.length := by simp [endP]
theorem endP_at {t : Txt} {l : List TokA} {j p : Nat} {x : TokA} (h : l[j]? = some x) (hp : x.pos = (p : Int)) : endP t l j = p := by simp [endP, h, hp]

set_option maxRecDepth 100000 in
set_option maxHeartbeats 4000000 in
theorem lexerPieces_walk (t : Txt) (hl : t.length ≤ 140737488355328) (w : World) (hE : Env w) :
    Calls Tryd.prog 5 #[str t] w fun e w' => e = .returned (.bool true) ∧ Keeps (fun _ => False) w w' := by
  have HE := hide hE
  have HQ0 := hide (lex_v [32, 97, 61, 61, 98] (by decide) w hE)
  have e0 : lexP [32, 97, 61, 61, 98] = ([⟨1, [97], 0, 1⟩, ⟨5, [61, 61], 0, 2⟩, ⟨1, [98], 0, 4⟩], 0, 0) := by decide +kernel
  rw [e0] at HQ0
  simp only [List.length_cons, List.length_nil] at HQ0
  have HQ := fun w' (hk : Keeps (fun _ => False) w w') => hide (lex_v t hl w' ((unhide HE).keepF hk))
  have HER := hide (lex_err_nil t)
  have HPC := hide (lex_pieces t)
  have HLN : Hid ((lexP t).1.length ≤ 3518437208883) := by
    show _ ≤ _
    rcases lex_cases t with ⟨_, e⟩ | ⟨_, _, e⟩ | ⟨_, _, e⟩
    · rw [e]; simp
    · rw [e]; simp
    · rw [e]; exact Nat.le_trans (cut_len t _ [] 0 (by simp) (by omega)) (by omega)
  generalize lexP t = D at HQ HER HPC HLN
  obtain ⟨l, er, a⟩ := D
  simp only at HQ HER HPC HLN
  clear hE e0
  go_enter Tryd.func5, Tryd.ntmps5
  go_wp2_with fail
  refine (unhide HQ0).mono ?_
  rintro e w1 ⟨v0, rfl, ho0, hk0⟩
  obtain ⟨b0, off0, cp0, ev0, hbl0, hc0⟩ := ToksAt.cells (l := [⟨1, [97], 0, 1⟩, ⟨5, [61, 61], 0, 2⟩, ⟨1, [98], 0, 4⟩]) (rowAt_own ho0) (by simp)
  obtain rfl := ev0
  have p0 := (hc0 0 _ rfl).2.2.2
  have p1 := (hc0 1 _ rfl).2.2.2
  have p2 := (hc0 2 _ rfl).2.2.2
  simp only [List.length_cons, List.length_nil, Nat.zero_mul, Nat.add_zero] at p0 p1 p2 ⊢
  have HK0 := hide hk0
  have HQ1 := HQ w1 hk0
  clear hc0 ho0 hk0 HQ0
  go_wp2_with fail
  refine (unhide HQ1).mono ?_
  rintro e w2 ⟨v, rfl, ho, hk⟩
  obtain ⟨ao, cap, rfl⟩ := (rowAt_own ho).form
  have HK2 := hide ((unhide HK0).trans hk)
  have HT : Hid (ToksAt w2 (.slice ao l.length cap) l) := rowAt_own ho
  clear ho hk HQ1 p0 p1 p2 HK0 hbl0
  by_cases h0 : er = 0
  · subst h0
    obtain ⟨h256, he0, hlex0, hall⟩ := (unhide HPC) rfl
    have HALL := hide hall
    have HL0 := hide hlex0
    have HE0 := hide he0
    have hln := unhide HLN
    clear HPC HER hall hlex0 he0 HQ HLN
    go_wp2_with fail
    go_loopw [8, 9] (fun en i wr => ∃ k : Nat, k ≤ l.length ∧ en = .int .i64 (endP t l k : Nat) ∧ i = .int .i64 ((k : Int) - 1) ∧ Keeps (fun _ => False) w2 wr) (fun _ i _ => (intOf i + 1).toNat)
    case atStart => exact ⟨l.length, Nat.le_refl _, by rw [endP_len], by go_num, Keeps.refl _ _⟩
    case round =>
      obtain ⟨k, hk, hen, hi, hkp⟩ := hrel
      cases k with
      | zero =>
        obtain rfl := hen
        obtain rfl : u9 = .int .i64 (-1) := hi
        have HQ9 := hide (lex_v (t.take (endP t l 0)) (by rw [List.length_take]; omega) wr ((unhide HE).keepF ((unhide HK2).trans hkp)))
        rw [unhide HL0] at HQ9
        simp only [List.length_nil] at HQ9
        have hx : (ByteArray.mk t.toArray).extract 0 (endP t l 0) = ⟨(t.take (endP t l 0)).toArray⟩ := by rw [ext_str, List.drop_zero, Nat.sub_zero]
        have hee := unhide HE0
        generalize endP t l 0 = E at *
        generalize t.take E = tE at *
        have hee' : (E : Int) ≤ (t.length : Int) := by omega
        have HK9 := hide ((unhide HK2).trans hkp)
        clear hkp HALL
        go_wp2_with fail
        refine (unhide HQ9).mono ?_
        rintro e w9 ⟨v9, rfl, ho9, hk9⟩
        obtain ⟨ao9, cap9, rfl⟩ := (rowAt_own ho9).form
        have HK10 := hide ((unhide HK9).trans hk9)
        clear ho9 hk9 HQ9
        go_wp2_with fail
        all_goals
          go_ret
          exact ⟨rfl, unhide HK10⟩
      | succ j =>
        obtain rfl := hen
        have hi' : u9 = .int .i64 (j : Int) := by rw [hi]; congr 1; omega
        subst hi'
        obtain ⟨x, hx⟩ : ∃ x, l[j]? = some x := ⟨_, List.getElem?_eq_getElem (by omega)⟩
        obtain ⟨p, hp, hpe, hel, hlp⟩ := (unhide HALL) j x hx
        have HEP := hide (endP_at (t := t) hx hp)
        obtain ⟨b, off, cp, ev, hbl, hc⟩ := (unhide HT).cells (by omega)
        simp at ev
        obtain ⟨rfl, rfl⟩ := ev
        obtain ⟨c0, c1, c2, c3⟩ := hc j x hx
        rw [hp] at c3
        have d3 := (hkp.cell hbl id).trans c3
        have HQ9 := hide (lex_v ((t.drop p).take (endP t l (j + 1) - p)) (by rw [List.length_take, List.length_drop]; omega) wr ((unhide HE).keepF ((unhide HK2).trans hkp)))
        rw [hlp] at HQ9
        simp only [List.length_cons, List.length_nil] at HQ9
        have hxe : (ByteArray.mk t.toArray).extract p (endP t l (j + 1)) = ⟨((t.drop p).take (endP t l (j + 1) - p)).toArray⟩ := by rw [ext_str]
        generalize endP t l (j + 1) = E at *
        generalize (t.drop p).take (E - p) = tE at *
        have g1 : (p : Int) < (E : Int) := by omega
        have g1' : ¬ (E : Int) ≤ (p : Int) := by omega
        have g2 : (E : Int) ≤ (t.length : Int) := by omega
        have g3 : (p : Int) ≤ (E : Int) := by omega
        have hj1 : (j : Int) < (l.length : Int) := by omega
        have HKP := hide hkp
        have HX := hide hx
        have HC0 := hide c0
        have HC1 := hide c1
        have HC2 := hide c2
        have HC3 := hide c3
        clear hc hx hlp hi c0 c1 c2 c3 HALL hkp
        go_wp2_with fail
        refine (unhide HQ9).mono ?_
        rintro e w4 ⟨v4, rfl, ho4, hk4⟩
        have HA : Hid (ToksAt w4 v4 [{ x with pos := 0 }]) := rowAt_own ho4
        obtain ⟨b4, off4, cp4, ev4, hbl4, hc4⟩ := ToksAt.cells (unhide HA) (by simp)
        obtain rfl := ev4
        have z3 := (hc4 0 _ rfl).2.2.2
        simp only [List.length_cons, List.length_nil, Nat.zero_mul, Nat.add_zero] at z3 ⊢
        have hk24 := (unhide HKP).trans hk4
        have f0 := (hk24.cell hbl id).trans (unhide HC0)
        have f1 := (hk24.cell hbl id).trans (unhide HC1)
        have f2 := (hk24.cell hbl id).trans (unhide HC2)
        have f3 := (hk24.cell hbl id).trans (unhide HC3)
        have HK24 := hide hk24
        have HB := hide (one_tok w4 x)
        rw [hp] at HB
        have HA2 : Hid (ToksAt (w4.alloc (.cells #[.int .i64 x.kind, str x.text, .int .i64 x.n, .int .i64 (p : Int)] 25)) (.slice (some ⟨b4, off4, none⟩) 1 cp4) [{ x with pos := 0 }]) := (unhide HA).keepF ((Keeps.refl _ _).alloc _)
        have HAL := hide (alike_v _ _ _ 1 [{ x with pos := 0 }] [x] rfl rfl (unhide HA2) (unhide HB) (by omega) (fun i y z hy hz => by
          match i, hy, hz with
          | 0, hy, hz => simp at hy hz; subst hy; subst hz; exact ⟨rfl, rfl, rfl⟩))
        have HKA : Hid (Keeps (fun _ => False) w2 (w4.alloc (.cells #[.int .i64 x.kind, str x.text, .int .i64 x.n, .int .i64 (p : Int)] 25))) := hk24.alloc _
        clear ho4 hk4 hc4 hk24 HQ9 HA HB HA2 hbl4
        go_wp2_with fail
        refine (unhide HAL).mono ?_
        rintro e w5 ⟨rfl, hk5⟩
        have HK5 := hide ((unhide HKA).trans hk5)
        clear hk5 HAL
        go_wp2_with fail
        go_roundw
        case rel => exact ⟨j, by omega, by rw [unhide HEP], by go_num, unhide HK5⟩
        case measure => simp [intOf]
  · obtain rfl : l = [] := (unhide HER) h0
    have e0 : (er != 0) = true := by simpa using h0
    clear HPC HER HQ
    go_wp2_with fail
    all_goals
      go_ret
      exact ⟨rfl, unhide HK2⟩
end Go.Proofs.YtbgapbaeegloaaaDoor
