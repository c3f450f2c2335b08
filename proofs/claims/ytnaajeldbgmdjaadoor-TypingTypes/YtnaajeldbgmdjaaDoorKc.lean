import Derived.Test.YtnaajeldbgmdjaaDoorKa
import Derived.Test.YtnaajeldbgmdjaaDoorJc
namespace Go.Proofs.YtnaajeldbgmdjaaDoor
open Go.RowKit Go.Maps

/-- Numbers in a slice. -/
def ints (l : List Int) : List Value := l.map (Value.int .i64)
def IntsAt (w : World) (v : Value) (l : List Int) : Prop := RowAt w v l.length (ints l)
theorem IntsAt.keepF {w w' : World} {v : Value} {l : List Int} (h : IntsAt w v l) (hk : Keeps (fun _ => False) w w') : IntsAt w' v l := RowAt.keepF h hk
theorem IntsAt.cells {w : World} {v : Value} {l : List Int} (h : IntsAt w v l) (h0 : 0 < l.length) :
    ∃ b off cap, v = .slice (some ⟨b, off, none⟩) l.length cap ∧ b < w.heap.size ∧ ∀ i x, l[i]? = some x → w.cell? ⟨b, off + i, none⟩ = some (.int .i64 x) := by
  obtain ⟨b, off, cap, e, hb, hc⟩ := RowAt.cells h h0
  exact ⟨b, off, cap, e, hb, fun i x hx => hc i _ (by simp [ints, hx])⟩
theorem ints_nil (w : World) : IntsAt w (.slice none 0 0) [] := ⟨⟨_, _, rfl⟩, fun h => by simp at h, fun ao m cap e => by simp at e; omega⟩
theorem ints_new (w : World) (l : List Int) (t : TypeId) (n : Nat) (hn : n = l.length) : IntsAt (w.alloc (.cells (ints l).toArray t)) (.slice (some ⟨w.heap.size, 0, none⟩) n n) l := by
  subst hn
  refine ⟨⟨_, _, rfl⟩, fun _ => ⟨_, 0, _, rfl, by simp, fun j x hx => ?_⟩, fun ao m cap e => by simp at e; omega⟩
  rw [cell_of_blk (heap_alloc_new w _)]
  simpa using hx
/-- The first error of a list. -/
def orL : List Int → Int
  | [] => 0
  | a :: r => if a = 0 then orL r else a
theorem orL_two (a b : Int) : orL [a, b] = orI a b := by
  unfold orL orI
  split
  · simp only [orL]; split <;> simp_all
  · rfl
theorem orL_three (a b c : Int) : orL [a, b, c] = orI a (orI b c) := by
  show (if a = 0 then orL [b, c] else a) = _
  rw [orL_two]
  rfl
/-- A kind as a value. -/
abbrev kindV (k : KA) : Value := .agg #[.int .i64 k.t, .bool k.o]

set_option maxRecDepth 100000 in
set_option maxHeartbeats 1000000 in
theorem or_v (es : List Int) (v : Value) (w : World) (h : IntsAt w v es) (hl : es.length ≤ 1000) :
    Calls Tryd.prog 107 #[v] w fun e w' => e = .returned (.int .i64 (orL es)) ∧ w' = w := by
  obtain ⟨ao, cap, rfl⟩ := RowAt.form h
  have HF := hide h
  clear h
  go_enter Tryd.func107, Tryd.ntmps107
  go_wp2_with fail
  go_loopw [8] (fun i wr => ∃ k : Nat, k ≤ es.length ∧ i = .int .i64 k ∧ Hid (orL (es.drop k) = orL es) ∧ wr = w) (fun i _ => es.length - (intOf i).toNat)
  case atStart => exact ⟨0, Nat.zero_le _, rfl, by simp [Hid], rfl⟩
  case round =>
    obtain ⟨k, hk, rfl, HS, rfl⟩ := hrel
    cases h : es[k]? with
    | none =>
      have h1 := get_ge h
      obtain rfl : k = es.length := by omega
      clear h h1
      rw [List.drop_length] at HS
      have i1 : ¬ (es.length : Int) < (es.length : Int) := by omega
      go_wp2_with fail
      go_ret
      exact ⟨ret_int (unhide HS), rfl⟩
    | some x =>
      have h1 := get_lt h
      obtain ⟨b, off, c, e, hbl, hc⟩ := (unhide HF).cells (by omega)
      simp at e
      obtain ⟨rfl, rfl⟩ := e
      have c0 := hc k x h
      have HO : Hid (orL (es.drop k) = if x = 0 then orL (es.drop (k + 1)) else x) := by
        obtain ⟨hk', hx⟩ := List.getElem?_eq_some_iff.1 h
        show _ = _
        rw [List.drop_eq_getElem_cons hk', hx]
        rfl
      clear h hc
      have i1 : (k : Int) < (es.length : Int) := by omega
      have i0 : (0 : Int) ≤ (k : Int) := by omega
      by_cases hx : x = 0
      · subst hx
        rw [if_pos rfl] at HO
        go_wp2_with fail
        go_roundw
        case rel => exact ⟨k + 1, by omega, by go_num, (unhide HO).symm.trans (unhide HS), by trivial⟩
        case measure => simp [intOf]; omega
      · rw [if_neg hx] at HO
        have n0 : (x != 0) = true := by simpa using hx
        clear hx
        go_wp2_with fail
        go_ret
        exact ⟨ret_int ((unhide HO).symm.trans (unhide HS)), by trivial⟩

/-- OK, if something is right. -/
def unlessI (r : Bool) (e : Int) : Int := if r then 0 else e
set_option maxRecDepth 100000 in
theorem unless_v (r : Bool) (e : Int) (w : World) : Calls Tryd.prog 111 #[.bool r, .int .i64 e] w fun x w' => x = .returned (.int .i64 (unlessI r e)) ∧ w' = w := by
  cases r with
  | false =>
    go_enter Tryd.func111, Tryd.ntmps111
    go_wp2_with fail
    go_ret
    exact ⟨rfl, rfl⟩
  | true =>
    go_enter Tryd.func111, Tryd.ntmps111
    go_wp2_with fail
    go_ret
    exact ⟨rfl, rfl⟩

/-- Is the number in the list? -/
def inB (l : List Int) (x : Int) : Bool := l.contains x
theorem inB_cons (y : Int) (l : List Int) (x : Int) : inB (y :: l) x = (x == y || inB l x) := by unfold inB; rw [List.contains_cons]
theorem ofI_in (k : KA) (ts : List Int) : ofI k ts = unlessI (inB ts k.t) 91 := rfl
theorem optI_un (k : KA) : optI k = unlessI k.o 92 := rfl
theorem plainI_un (k : KA) (ts : List Int) : plainI k ts = orI (ofI k ts) (unlessI (!k.o) 92) := by unfold plainI unlessI; cases k.o <;> rfl
set_option maxRecDepth 100000 in
set_option maxHeartbeats 1000000 in
theorem index_v (es : List Int) (x : Int) (v : Value) (w : World) (h : IntsAt w v es) (hl : es.length ≤ 1000) :
    Calls Tryd.prog 114 #[v, .int .i64 x] w fun e w' => (∃ n : Int, e = .returned (.int .i64 n) ∧ decide (0 ≤ n) = inB es x) ∧ w' = w := by
  obtain ⟨ao, cap, rfl⟩ := RowAt.form h
  have HF := hide h
  clear h
  go_enter Tryd.func114, Tryd.ntmps114
  go_wp2_with fail
  go_loopw [8] (fun i wr => ∃ k : Nat, k ≤ es.length ∧ i = .int .i64 k ∧ Hid (inB (es.drop k) x = inB es x) ∧ wr = w) (fun i _ => es.length - (intOf i).toNat)
  case atStart => exact ⟨0, Nat.zero_le _, rfl, by simp [Hid], rfl⟩
  case round =>
    obtain ⟨k, hk, rfl, HS, rfl⟩ := hrel
    cases h : es[k]? with
    | none =>
      have h1 := get_ge h
      obtain rfl : k = es.length := by omega
      clear h h1
      rw [List.drop_length] at HS
      have i1 : ¬ (es.length : Int) < (es.length : Int) := by omega
      go_wp2_with fail
      go_ret
      exact ⟨⟨_, rfl, (by decide : decide ((0 : Int) ≤ -1) = false).trans (unhide HS)⟩, rfl⟩
    | some y =>
      have h1 := get_lt h
      obtain ⟨b, off, c, e, hbl, hc⟩ := (unhide HF).cells (by omega)
      simp at e
      obtain ⟨rfl, rfl⟩ := e
      have c0 := hc k y h
      have HO : Hid (inB (es.drop k) x = (x == y || inB (es.drop (k + 1)) x)) := by
        obtain ⟨hk', hx⟩ := List.getElem?_eq_some_iff.1 h
        show _ = _
        rw [List.drop_eq_getElem_cons hk', hx, inB_cons]
      clear h hc
      have i1 : (k : Int) < (es.length : Int) := by omega
      have i0 : (0 : Int) ≤ (k : Int) := by omega
      by_cases hx : x = y
      · subst hx
        have HT : Hid (inB es x = true) := by show _ = _; rw [← unhide HS, unhide HO]; simp
        go_wp2_with fail
        go_ret
        exact ⟨⟨_, rfl, by rw [unhide HT]; simp⟩, rfl⟩
      · have HN : Hid (inB (es.drop (k + 1)) x = inB es x) := by show _ = _; rw [← unhide HS, unhide HO]; simp [hx]
        have n0 : (x == y) = false := by simpa using hx
        clear hx
        go_wp2_with fail
        go_roundw
        case rel => exact ⟨k + 1, by omega, by go_num, HN, by trivial⟩
        case measure => simp [intOf]; omega

set_option maxRecDepth 100000 in
theorem contains_v (es : List Int) (x : Int) (v : Value) (w : World) (h : IntsAt w v es) (hl : es.length ≤ 1000) :
    Calls Tryd.prog 113 #[v, .int .i64 x] w fun e w' => e = .returned (.bool (inB es x)) ∧ w' = w := by
  have HI := hide (index_v es x v w h hl)
  obtain ⟨ao, cap, rfl⟩ := RowAt.form h
  clear h
  go_enter Tryd.func113, Tryd.ntmps113
  go_wp2_with (go_at_call 114; refine (unhide HI).mono ?_; rintro e w1 ⟨⟨n, rfl, hn⟩, rfl⟩)
  go_ret
  exact ⟨ret_bool (by first | exact hn | rfl), rfl⟩
theorem keeps_set2 (w : World) (b : Nat) (x y : Value) : Keeps (fun q => q = b) w ((w.setCell ⟨b, 0, none⟩ x).setCell ⟨b, 1, none⟩ y) := (keeps_set w b 0 x).trans (keeps_set _ b 1 y)
/-- The cell of a result that is a kind, behind what a callee did. -/
theorem cell2 {w w4 : World} {c0 c1 : Value} {t : TypeId} (hk : Keeps (fun _ => False) (w.alloc (.cells #[c0, c1] t)) w4) :
    w4.heap[w.heap.size]? = some (.cells #[c0, c1] t (0, 0)) ∧ Keeps (fun _ => False) w w4 := by
  refine ⟨?_, ((Keeps.refl _ _).alloc _).trans hk⟩
  rw [hk.block _ (by simp) id]
  exact heap_alloc_new w _
/-- A struct of two cells is written over. -/
theorem set2 {w4 : World} {b : Nat} {c0 c1 : Value} {t : TypeId} (h : w4.heap[b]? = some (.cells #[c0, c1] t (0, 0))) (x y : Value) :
    let w5 := (w4.setCell ⟨b, 0, none⟩ x).setCell ⟨b, 1, none⟩ y
    (w5.cell? ⟨b, 0, none⟩ = some x ∧ w5.cell? ⟨b, 1, none⟩ = some y ∧ w5.heap[b]? = some (.cells #[x, y] t (0, 0))) ∧ Keeps (fun q => q = b) w4 w5 := by
  intro w5
  have hb := heap_setCell_at (o := 1) (heap_setCell_at (o := 0) h x) y
  refine ⟨⟨?_, ?_, hb⟩, keeps_set2 w4 b x y⟩
  · rw [cell_of_blk hb]; rfl
  · rw [cell_of_blk hb]; rfl
set_option maxRecDepth 100000 in
theorem plain_v (t : Int) (w : World) : Calls Tryd.prog 105 #[.int .i64 t] w fun e w' => e = .returned (kindV ⟨t, false⟩) ∧ Keeps (fun _ => False) w w' := by
  go_enter Tryd.func105, Tryd.ntmps105
  go_wp2_with fail
  refine bodyPost_ret (v := kindV ⟨t, false⟩) (by simp [results, go_sem]) rfl ?_
  exact ⟨rfl, (Keeps.refl _ w).alloc _⟩
set_option maxRecDepth 100000 in
theorem isOptional_v (k : KA) (w : World) : Calls Tryd.prog 108 #[kindV k] w fun e w' => e = .returned (.int .i64 (optI k)) ∧ Keeps (fun _ => False) w w' := by
  have HU := fun w' => hide (unless_v k.o 92 w')
  rw [optI_un]
  go_enter Tryd.func108, Tryd.ntmps108
  go_wp2_with (go_at_call 111; refine (unhide (HU _)).mono ?_; rintro e w1 ⟨rfl, rfl⟩)
  go_ret
  exact ⟨rfl, (Keeps.refl _ w).alloc _⟩
set_option maxRecDepth 100000 in
theorem isOf_v (k : KA) (ts : List Int) (v : Value) (w : World) (h : IntsAt w v ts) (hl : ts.length ≤ 1000) : Calls Tryd.prog 110 #[kindV k, v] w fun e w' => e = .returned (.int .i64 (ofI k ts)) ∧ Keeps (fun _ => False) w w' := by
  have HU := fun w' => hide (unless_v (inB ts k.t) 91 w')
  have HC := fun w' (hk : Keeps (fun _ => False) w w') => hide (contains_v ts k.t v w' (h.keepF hk) hl)
  have HK : Hid (Keeps (fun _ => False) w (w.alloc (.cells #[.int .i64 k.t, .bool k.o] 90))) := hide ((Keeps.refl _ w).alloc _)
  obtain ⟨ao, cap, rfl⟩ := RowAt.form h
  rw [ofI_in]
  clear h
  go_enter Tryd.func110, Tryd.ntmps110
  go_wp2_with (first
    | (go_at_call 113; refine (unhide (HC _ (unhide HK))).mono ?_; rintro e w1 ⟨rfl, rfl⟩)
    | (go_at_call 111; refine (unhide (HU _)).mono ?_; rintro e w1 ⟨rfl, rfl⟩))
  go_ret
  exact ⟨rfl, unhide HK⟩
end Go.Proofs.YtnaajeldbgmdjaaDoor
