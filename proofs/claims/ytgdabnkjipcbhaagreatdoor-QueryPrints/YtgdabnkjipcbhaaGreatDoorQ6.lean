import Derived.Test.YtgdabnkjipcbhaaGreatDoorJzai
import Derived.Test.YtgdabnkjipcbhaaGreatDoorIi
namespace Go.Proofs.YtgdabnkjipcbhaaGreatDoor
open Go.RowKit Go.Maps

/-- Words that are handed in. -/
def Ahead (w : World) (av : Value) (A : List Txt) : Prop := (A = [] ∧ av = .slice none 0 0) ∨ ∃ g o c, 0 < A.length ∧ av = .slice (some ⟨g, o, none⟩) A.length c ∧ g < w.heap.size ∧ (∃ cs fr, w.heap[g]? = some (.cells cs 9 fr)) ∧ ∀ i x, A[i]? = some x → w.cell? ⟨g, o + i, none⟩ = some (str x)
theorem Ahead.keep {w w' : World} {av : Value} {A : List Txt} {F : Nat → Prop} (h : Ahead w av A) (hk : Keeps F w w') (hF : ∀ g cs fr, w.heap[g]? = some (.cells cs 9 fr) → ¬ F g) : Ahead w' av A := by
  rcases h with h | ⟨g, o, c, h1, h2, h3, ⟨cs, fr, h4⟩, h5⟩
  · exact Or.inl h
  · have hf := hF g cs fr h4
    exact Or.inr ⟨g, o, c, h1, h2, Nat.lt_of_lt_of_le h3 hk.size, ⟨cs, fr, (hk.block g h3 hf).trans h4⟩, fun i x hx => (hk.cell h3 hf).trans (h5 i x hx)⟩
theorem Ahead.form {w : World} {av : Value} {A : List Txt} (h : Ahead w av A) : ∃ ao n c, av = .slice ao n c := by
  rcases h with ⟨_, h⟩ | ⟨g, o, c, _, h, _⟩
  · exact ⟨_, _, _, h⟩
  · exact ⟨_, _, _, h⟩
theorem words_any (N b : Nat) (ps A : List Txt) (r : Int) (w : World) (av : Value) (hW : Wtr w N b ps r) (hA : Ahead w av A) (hl : ps.length + A.length ≤ 1000) (hN : N ≤ w.heap.size) :
    Calls Tryz.prog 14 #[.pointer (some ⟨b, 0, none⟩), av] w fun e w' => e = .returned (.tuple #[]) ∧ Wtr w' N b (ps ++ A) r ∧ Below N w w' := by
  rcases hA with ⟨rfl, rfl⟩ | ⟨g, o, c, h1, rfl, _, _, h5⟩
  · rw [List.append_nil]; exact words_nil N b ps r w hW hN
  · exact words_v N b ps A r w g o c hW h5 h1 hl hN
theorem Wtr.err {w : World} {N b : Nat} {ps : List Txt} {r : Int} (h : Wtr w N b ps r) (r' : Int) : Wtr (w.setCell ⟨b, 1, none⟩ (.int .i64 r')) N b ps r' := by
  obtain ⟨hlo, v, hb, ho, hn⟩ := h
  have hs := heap_setCell_at (o := 1) hb (.int .i64 r')
  refine ⟨hlo, v, hs, ?_, hn⟩
  have hk := keepsW w b 1 (.int .i64 r')
  refine ⟨ho.1, ho.2.imp id fun ⟨q, cp, cu, e1, e2, e3, e4⟩ => ⟨q, cp, cu, e1, e2, (hk.block q (lt_of_block e3) (fun e => ?_)).trans e3, e4⟩⟩
  subst e
  rw [e1] at hn
  simp [Value.ownBlock] at hn
theorem Wtr.kind {w : World} {N b : Nat} {ps : List Txt} {r : Int} (h : Wtr w N b ps r) {g : Nat} {cs : Array Value} {fr : Nat × Nat} (hg : w.heap[g]? = some (.cells cs 9 fr)) : ¬ g = b := by
  obtain ⟨_, v, hb, _, _⟩ := h
  exact kind_ne hg hb (by decide)

set_option maxRecDepth 100000 in
theorem wexprs_nil (N b : Nat) (ps : List Txt) (r : Int) (w : World) (ao : Option Addr) (cap : Nat) (av : Value) (hW : Wtr w N b ps r) :
    Calls Tryz.prog 13 #[.pointer (some ⟨b, 0, none⟩), .slice ao 0 cap, av] w fun e w' => e = .returned (.tuple #[]) ∧ Wtr w' N b ps r ∧ Below N w w' := by
  have HW := hide hW
  clear hW
  go_enter Tryz.func13, Tryz.ntmps13
  go_wp2_with fail
  go_loopw [12] (fun i wr => i = .int .i64 0 ∧ wr = w) (fun _ _ => 0)
  case atStart => exact ⟨rfl, rfl⟩
  case round =>
    obtain ⟨rfl, rfl⟩ := hrel
    go_wp2_with fail
    go_end0
    exact ⟨rfl, unhide HW, Below.refl _ _⟩

set_option maxRecDepth 100000 in
set_option maxHeartbeats 4000000 in
theorem wexprs_one (N b : Nat) (ps A : List Txt) (r : Int) (w : World) (av : Value) {Z : Zone} (up : Nat) (lv : Value) (op n : Int) (s : Txt) (kids : EL) (hW : Wtr w N b ps r) (hA : Ahead w av A) (hS : SlE Z w up lv (.cons op n s kids .nil)) (hP : Pow w) (hF : Forms w)
    (hsz : kids.size + 1 ≤ 2147483647) (n0 : -9223372036854775808 ≤ n) (n1 : n ≤ 9223372036854775807) (hi : intE kids) (hl : ps.length + A.length ≤ 900) (hN : N ≤ w.heap.size) :
    Calls Tryz.prog 13 #[.pointer (some ⟨b, 0, none⟩), lv, av] w fun e w' => e = .returned (.tuple #[]) ∧ Wtr w' N b (ps ++ A ++ [printE op n s kids]) (if r = 0 then checkE (.cons op n s kids .nil) else r) ∧ Below N w w' := by
  obtain ⟨ao, cap, hb, off, rfl, hcap, ha, hx⟩ := hS.open
  obtain ⟨rfl, hp⟩ := ha (by simp [EL.len])
  have e2 : (EL.cons op n s kids .nil).len = 1 := rfl
  rw [e2] at hcap ⊢
  obtain ⟨h1, h2, h3, h4, h5, ⟨kao, kcap, h6, h7, h8⟩, _⟩ := hx
  have hkd : SlE Z w hb (.slice kao kids.len kcap) kids := ⟨kao, kcap, rfl, h7, h8⟩
  have hka : Keeps (fun _ => False) w (w.alloc (.cells #[.int .i64 op, .int .i64 n, str s, .slice kao kids.len kcap] 54)) := (Keeps.refl _ w).alloc _
  have HX := hide (printExpr_v op n s kids hsz n0 n1 hi _ hb (.slice kao kids.len kcap) (hP.keepF hka) (hF.keepF hka) (hkd.keepF hka))
  have HW1 := hide (hW.keepF hka)
  have HA1 := hide (hA.keep hka (fun _ _ _ _ => id))
  have HB1 := hide (Below.alloc (Below.refl N w) hN (.cells #[.int .i64 op, .int .i64 n, str s, .slice kao kids.len kcap] 54))
  obtain ⟨T, hT⟩ : ∃ T, T = printE op n s kids := ⟨_, rfl⟩
  obtain ⟨C, hC⟩ : ∃ C, C = checkE (.cons op n s kids .nil) := ⟨_, rfl⟩
  rw [← hT, ← hC] at HX ⊢
  obtain ⟨avo, avn, avc, rfl⟩ := hA.form
  obtain ⟨PS, hPS⟩ : ∃ PS, PS = ps ++ A ++ [T] := ⟨_, rfl⟩
  obtain ⟨R, hR⟩ : ∃ R : Int, R = (if r = 0 then C else r) := ⟨_, rfl⟩
  rw [← hPS, ← hR]
  have HPS := hide hPS
  have HR := hide hR
  have HN := hide hN
  clear hT hC hkd hka hP hF hW hA hS hi h2 h7 h8 hp ha hsz n0 n1 hN hPS hR
  go_enter Tryz.func13, Tryz.ntmps13
  go_wp2_with fail
  go_loopw [12] (fun i wr => (i = .int .i64 0 ∧ wr = w) ∨ (i = .int .i64 1 ∧ Hid (Wtr wr N b PS R) ∧ Hid (Below N w wr))) (fun i _ => 1 - (intOf i).toNat)
  case atStart => exact Or.inl ⟨rfl, rfl⟩
  case round =>
    rcases hrel with ⟨rfl, rfl⟩ | ⟨rfl, HW2, HB2⟩
    · go_wp2_with fail
      refine (unhide HX).mono ?_
      rintro e w2 ⟨rfl, hk2⟩
      have HA2 := hide ((unhide HA1).keep hk2 (fun _ _ _ _ => id))
      have HW2 := hide ((unhide HW1).keepF hk2)
      have HB2 := hide ((unhide HB1).trans (hk2.below (by have := unhide HN; have := (unhide HB1).size; omega) (fun _ h => h.elim)))
      obtain ⟨v, _, c1, f1, hbl, _⟩ := (unhide HW2).cells
      have hN2 : N ≤ w2.heap.size := by have := unhide HN; have := (unhide HB2).size; omega
      clear hk2 HX HA1 HW1 HB1
      by_cases hr : r = 0
      · subst hr
        have HW3 := hide ((unhide HW2).err C)
        have HA3 := hide ((unhide HA2).keep (keepsW w2 b 1 (.int .i64 C)) (fun g cs fr h e => (unhide HW2).kind h e))
        have HB3 := hide ((unhide HB2).trans (below_set (o := 1) (unhide HW2).lo hN2 (.int .i64 C)))
        have HRC : Hid (R = C) := by show _ = _; rw [unhide HR, if_pos rfl]
        go_wp2_with fail
        refine (words_any N b ps A _ _ _ (unhide HW3) (unhide HA3) (by omega) (Nat.le_trans (unhide HN) (unhide HB3).size)).mono ?_
        rintro e w4 ⟨rfl, hw4, hb4⟩
        have hN4 : N ≤ w4.heap.size := Nat.le_trans (Nat.le_trans (unhide HN) (unhide HB3).size) hb4.size
        have hk5 : Keeps (fun _ => False) w4 (w4.alloc (.cells #[str T] 9)) := (Keeps.refl _ w4).alloc _
        have HW5 := hide (hw4.keepF hk5)
        have HB5 := hide ((unhide HB3).trans (hb4.alloc hN4 (.cells #[str T] 9)))
        have hcl : ∀ i x, [T][i]? = some x → (w4.alloc (.cells #[str T] 9)).cell? ⟨w4.heap.size, 0 + i, none⟩ = some (str x) := fun i x hx => by
          rcases i with _ | i
          · obtain rfl : T = x := by simpa using hx
            exact (cell_of_blk (heap_alloc_new w4 _) 0).trans rfl
          · simp at hx
        have HC5 := hide (words_v N b (ps ++ A) [T] _ _ w4.heap.size 0 1 (unhide HW5) hcl (by simp) (by simp; omega) (Nat.le_trans hN4 hk5.size))
        clear hw4 hb4 hk5 hcl HW5 HW3 HA3 HB3
        go_wp2_with fail
        refine (unhide HC5).mono ?_
        rintro e w6 ⟨rfl, hw6, hb6⟩
        rw [← unhide HPS, ← unhide HRC] at hw6
        have HW6 := hide hw6
        have HB6 := hide ((unhide HB5).trans hb6)
        clear hw6 hb6 HB5 HC5
        go_wp2_with fail
        go_roundw
        case rel => exact Or.inr ⟨by go_num, HW6, HB6⟩
        case measure => simp [intOf]
      · have HRC : Hid (R = r) := by show _ = _; rw [unhide HR, if_neg hr]
        have hr0 : (r == 0) = false := by simpa using hr
        have HW3 := HW2
        have HA3 := HA2
        have HB3 := HB2
        go_wp2_with fail
        refine (words_any N b ps A _ _ _ (unhide HW3) (unhide HA3) (by omega) (Nat.le_trans (unhide HN) (unhide HB3).size)).mono ?_
        rintro e w4 ⟨rfl, hw4, hb4⟩
        have hN4 : N ≤ w4.heap.size := Nat.le_trans (Nat.le_trans (unhide HN) (unhide HB3).size) hb4.size
        have hk5 : Keeps (fun _ => False) w4 (w4.alloc (.cells #[str T] 9)) := (Keeps.refl _ w4).alloc _
        have HW5 := hide (hw4.keepF hk5)
        have HB5 := hide ((unhide HB3).trans (hb4.alloc hN4 (.cells #[str T] 9)))
        have hcl : ∀ i x, [T][i]? = some x → (w4.alloc (.cells #[str T] 9)).cell? ⟨w4.heap.size, 0 + i, none⟩ = some (str x) := fun i x hx => by
          rcases i with _ | i
          · obtain rfl : T = x := by simpa using hx
            exact (cell_of_blk (heap_alloc_new w4 _) 0).trans rfl
          · simp at hx
        have HC5 := hide (words_v N b (ps ++ A) [T] _ _ w4.heap.size 0 1 (unhide HW5) hcl (by simp) (by simp; omega) (Nat.le_trans hN4 hk5.size))
        clear hw4 hb4 hk5 hcl HW5 HW3 HA3 HB3
        go_wp2_with fail
        refine (unhide HC5).mono ?_
        rintro e w6 ⟨rfl, hw6, hb6⟩
        rw [← unhide HPS, ← unhide HRC] at hw6
        have HW6 := hide hw6
        have HB6 := hide ((unhide HB5).trans hb6)
        clear hw6 hb6 HB5 HC5
        go_wp2_with fail
        go_roundw
        case rel => exact Or.inr ⟨by go_num, HW6, HB6⟩
        case measure => simp [intOf]
    · go_wp2_with fail
      go_end0
      exact ⟨rfl, unhide HW2, unhide HB2⟩
end Go.Proofs.YtgdabnkjipcbhaaGreatDoor
