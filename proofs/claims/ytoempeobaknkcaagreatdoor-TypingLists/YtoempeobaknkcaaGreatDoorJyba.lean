import Derived.Test.YtoempeobaknkcaaGreatDoorJzab

namespace Go.Proofs.YtoempeobaknkcaaGreatDoor
open Go.RowKit Go.Maps

/-- A list of words with a blank ahead of each and behind it. -/
def wordsT (l : List Txt) : Txt := 32 :: l.flatMap (fun x => x ++ [32])
/-- Does a word stand, between blanks, in the text from a place on? -/
def standsB (t w : Txt) (i : Nat) : Bool := (List.range (t.length + 1 - w.length - i)).any fun k => decide ((t.drop (i + k)).take w.length = w)
def listedB (t x : Txt) : Bool := decide (x ≠ []) && (x.all (fun c => decide (c ≠ 32)) && standsB t (32 :: (x ++ [32])) 0)

theorem stands_step {t w : Txt} {i : Nat} (h : i + w.length ≤ t.length) : standsB t w i = (decide ((t.drop i).take w.length = w) || standsB t w (i + 1)) := by
  unfold standsB
  rw [show t.length + 1 - w.length - i = (t.length + 1 - w.length - (i + 1)) + 1 by omega, List.range_succ_eq_map, List.any_cons, List.any_map]
  congr 2
  funext k
  simp [Nat.add_assoc, Nat.add_comm 1 k]
theorem stands_end {t w : Txt} {i : Nat} (h : t.length < i + w.length) : standsB t w i = false := by
  unfold standsB
  rw [show t.length + 1 - w.length - i = 0 by omega]
  rfl
theorem stands_iff {t w : Txt} : standsB t w 0 = true ↔ ∃ i, i + w.length ≤ t.length ∧ (t.drop i).take w.length = w := by
  unfold standsB
  simp only [List.any_eq_true, List.mem_range, decide_eq_true_eq, Nat.zero_add]
  constructor
  · rintro ⟨k, hk, h⟩; exact ⟨k, by omega, h⟩
  · rintro ⟨k, hk, h⟩; exact ⟨k, by omega, h⟩
theorem tw {x r : Txt} (h : x.all (fun c => decide (c ≠ 32)) = true) : (x ++ 32 :: r).takeWhile (fun c => decide (c ≠ 32)) = x := by
  induction x with
  | nil => rfl
  | cons c x ih =>
    simp only [List.all_cons, Bool.and_eq_true] at h
    simp only [List.cons_append, List.takeWhile_cons, h.1, if_true]
    rw [ih h.2]
/-- What stands behind a blank. -/
def afters (t : Txt) : List Txt := (List.range t.length).filterMap fun i => if t[i]? = some 32 then some ((t.drop (i + 1)).takeWhile (fun c => decide (c ≠ 32))) else none
theorem listed_mem {t x : Txt} (h : listedB t x = true) : x ∈ afters t := by
  unfold listedB at h
  simp only [Bool.and_eq_true, decide_eq_true_eq] at h
  obtain ⟨_, ha, hs⟩ := h
  obtain ⟨i, hi, he⟩ := stands_iff.1 hs
  have hd : t.drop i = (32 :: (x ++ [32])) ++ (t.drop i).drop (32 :: (x ++ [32]) : Txt).length := by
    conv => lhs; rw [← List.take_append_drop (32 :: (x ++ [32]) : Txt).length (t.drop i)]
    rw [he]
  have h1 : t[i]? = some 32 := by
    have := congrArg (fun l => l[0]?) hd
    simpa [List.getElem?_drop] using this
  have h2 : t.drop (i + 1) = x ++ 32 :: (t.drop i).drop (32 :: (x ++ [32]) : Txt).length := by
    rw [show t.drop (i + 1) = (t.drop i).drop 1 by rw [List.drop_drop, Nat.add_comm]]
    conv => lhs; rw [hd]
    simp
  unfold afters
  rw [List.mem_filterMap]
  refine ⟨i, ?_, ?_⟩
  · rw [List.mem_range]; simp at hi; omega
  · rw [if_pos h1, h2, tw ha]
/-- Just the words of the list stand in its text. -/
theorem listed_kws (x : Txt) : listedB (wordsT kws) x = decide (x ∈ kws) := by
  apply Bool.eq_iff_iff.2
  constructor
  · intro h
    have h0 : x ≠ [] := by intro e; subst e; simp [listedB] at h
    have hm := listed_mem h
    have ha : (afters (wordsT kws)).all (fun y => decide (y = []) || decide (y ∈ kws)) = true := by decide +kernel
    have := List.all_eq_true.1 ha x hm
    simpa [h0] using this
  · intro h
    have hx : x ∈ kws := of_decide_eq_true h
    have ha : kws.all (fun y => listedB (wordsT kws) y) = true := by decide +kernel
    exact List.all_eq_true.1 ha x hx

def marks : List Txt := [[61, 61], [33, 61], [60, 61], [62, 61], [43, 61], [63, 63], [61], [60], [62], [43], [45], [42], [40], [41], [123], [125], [44], [59]]
theorem listed_marks (x : Txt) : listedB (wordsT marks) x = decide (x ∈ marks) := by
  apply Bool.eq_iff_iff.2
  constructor
  · intro h
    have h0 : x ≠ [] := by intro e; subst e; simp [listedB] at h
    have hm := listed_mem h
    have ha : (afters (wordsT marks)).all (fun y => decide (y = []) || decide (y ∈ marks)) = true := by decide +kernel
    have := List.all_eq_true.1 ha x hm
    simpa [h0] using this
  · intro h
    have hx : x ∈ marks := of_decide_eq_true h
    have ha : marks.all (fun y => listedB (wordsT marks) y) = true := by decide +kernel
    exact List.all_eq_true.1 ha x hx
theorem str_cat (a b c : Txt) (h : a ++ b = c) : Value.string (ByteArray.mk a.toArray ++ ByteArray.mk b.toArray) = str c := by
  rw [ByteArray.mk_append_mk, ← h]

set_option maxRecDepth 100000 in
set_option maxHeartbeats 1000000 in
theorem listed_v (l x : Txt) (hl : l.length ≤ 4096) (hx : x.length ≤ 140737488355328) (w : World) :
    Calls Tryz.prog 109 #[str l, str x] w fun e w' => e = .returned (.bool (listedB l x)) ∧ w' = w := by
  obtain ⟨D, HD⟩ : ∃ D, Hid (listedB l x = D) := ⟨_, rfl⟩
  rw [unhide HD]
  by_cases h0 : x = []
  · subst h0
    have HE : Hid (D = false) := by show _ = _; rw [← unhide HD]; simp [listedB]
    go_enter Tryz.func109, Tryz.ntmps109
    go_wp2_with fail
    go_ret
    exact ⟨ret_bool (unhide HE).symm, rfl⟩
  have hne : (x == []) = false := by simpa using h0
  go_enter Tryz.func109, Tryz.ntmps109
  go_wp2_with fail
  go_loopw [5] (fun i wr => ∃ j : Nat, j ≤ x.length ∧ i = .int .i64 j ∧ Hid ((x.take j).all (fun c => decide (c ≠ 32)) = true) ∧ wr = w) (fun i _ => x.length - (intOf i).toNat)
  case atStart => exact ⟨0, Nat.zero_le _, rfl, by simp [Hid], rfl⟩
  case round =>
    obtain ⟨j, hj, rfl, HA, rfl⟩ := hrel
    cases hy : x[j]? with
    | some y =>
      have h1 := get_lt hy
      have q := str_at hy
      have e1 : (y.toNat : Int) = num y := rfl
      have HY := hide hy
      clear hy
      by_cases h32 : num y = 32
      · have HE : Hid (D = false) := by
          show _ = _
          rw [← unhide HD]
          unfold listedB
          rw [show x.all (fun c => decide (c ≠ 32)) = false by
            rw [List.all_eq_false]
            exact ⟨y, List.mem_of_getElem? (unhide HY), by simp [num_inj (a := y) (b := 32) h32]⟩]
          simp
        have e32 : (num y == 32) = true := by simpa using h32
        go_wp2_with fail
        go_ret
        exact ⟨ret_bool (unhide HE).symm, rfl⟩
      · have e32 : (num y == 32) = false := by simpa using h32
        have HN : Hid (y ≠ 32) := fun e => h32 (by rw [e]; rfl)
        go_wp2_with fail
        go_roundw
        case rel =>
          refine ⟨j + 1, by omega, by go_num, ?_, trivial⟩
          show _ = true
          rw [take_snoc _ _ _ (unhide HY), List.all_append, unhide HA]
          simpa using unhide HN
        case measure => simp [intOf]; omega
    | none =>
      have h1 := get_ge hy
      obtain rfl : j = x.length := by omega
      clear hy
      rw [List.take_length] at HA
      obtain ⟨W, HW⟩ : ∃ W : Txt, Hid ((32 :: (x ++ [32]) : Txt) = W) := ⟨_, hide rfl⟩
      have hWl : W.length ≤ 140737488355330 := by rw [← unhide HW]; simp; omega
      have hcat1 : Value.string (ByteArray.mk #[32] ++ ByteArray.mk x.toArray) = str (32 :: x) := str_cat [32] x _ rfl
      have hcat2 : Value.string (ByteArray.mk (32 :: x).toArray ++ ByteArray.mk #[32]) = str W := str_cat (32 :: x) [32] _ (by rw [← unhide HW]; rfl)
      have HS : Hid (D = standsB l W 0) := by
        show _ = _
        rw [← unhide HD]
        unfold listedB
        rw [unhide HA, unhide HW, decide_eq_true h0]
        rfl
      clear h1
      go_wp2_with fail
      obtain ⟨w0, hw0⟩ : ∃ w0, w0 = wr := ⟨_, rfl⟩
      subst hw0
      go_loopw [7] (fun i wr => ∃ k : Nat, k ≤ l.length + 1 ∧ i = .int .i64 k ∧ Hid (D = standsB l W k) ∧ wr = w0) (fun i _ => l.length + 1 - (intOf i).toNat)
      case atStart => exact ⟨0, Nat.zero_le _, rfl, unhide HS, rfl⟩
      case round =>
        obtain ⟨k, hk, rfl, HK, rfl⟩ := hrel
        by_cases hkl : k + W.length ≤ l.length
        · have HT := hide (stands_step hkl)
          have hsl : (ByteArray.mk l.toArray).extract k (k + W.length) = ⟨((l.drop k).take W.length).toArray⟩ := by rw [ext_str, Nat.add_sub_cancel_left]
          obtain ⟨Y, HY⟩ : ∃ Y : Txt, Hid ((l.drop k).take W.length = Y) := ⟨_, hide rfl⟩
          rw [unhide HY] at hsl HT
          have hk1 : (k : Int) + (W.length : Int) ≤ (l.length : Int) := by omega
          by_cases hyw : Y = W
          · have HE : Hid (D = true) := by show _ = _; rw [unhide HK, unhide HT, decide_eq_true hyw]; rfl
            have e1 : (Y == W) = true := by simpa using hyw
            clear hyw
            go_wp2_with fail
            go_ret
            exact ⟨ret_bool (unhide HE).symm, rfl⟩
          · have HE : Hid (D = standsB l W (k + 1)) := by show _ = _; rw [unhide HK, unhide HT, decide_eq_false hyw]; rfl
            have e1 : (Y == W) = false := by simpa using hyw
            clear hyw
            go_wp2_with fail
            go_roundw
            case rel => exact ⟨k + 1, by omega, by go_num, unhide HE, trivial⟩
            case measure => simp [intOf]; omega
        · have HE : Hid (D = false) := by show _ = _; rw [unhide HK, stands_end (by omega)]
          have hk1 : (l.length : Int) < (k : Int) + (W.length : Int) := by omega
          go_wp2_with fail
          go_ret
          exact ⟨ret_bool (unhide HE).symm, rfl⟩
set_option maxRecDepth 100000 in
theorem refKeyword_v (x : Txt) (hx : x.length ≤ 140737488355328) (w : World) : Calls Tryz.prog 105 #[str x] w fun e w' => e = .returned (.bool (decide (x ∈ kws))) ∧ w' = w := by
  have HQ := hide (listed_v (wordsT kws) x (by decide +kernel) hx w)
  rw [listed_kws] at HQ
  have e : wordsT kws = [32, 97, 110, 100, 32, 99, 97, 116, 32, 99, 108, 101, 97, 114, 32, 100, 101, 108, 101, 116, 101, 32, 101, 108, 115, 101, 32, 102, 97, 108, 115, 101, 32, 104, 97, 115, 32, 104, 101, 114, 101, 32, 105, 102, 32, 108, 101, 110, 32, 109, 97, 120, 32, 109, 105, 110, 32, 110, 101, 119, 32, 110, 111, 116, 32, 111, 114, 32, 112, 105, 99, 107, 32, 116, 114, 117, 101, 32] := by decide +kernel
  rw [e] at HQ
  clear e
  go_enter Tryz.func105, Tryz.ntmps105
  go_wp2_with fail
  refine (unhide HQ).mono ?_
  rintro e w' ⟨rfl, rfl⟩
  go_wp2_with fail
  go_ret
  exact ⟨rfl, rfl⟩


def letterB (c : Int) : Bool := decide (97 ≤ c) && decide (c ≤ 122) || decide (65 ≤ c) && decide (c ≤ 90) || decide (c = 95)
theorem part_split (c : Int) : partB c = (letterB c || digitB c) := by
  unfold partB letterB digitB
  apply Bool.eq_iff_iff.2
  simp
  omega
end Go.Proofs.YtoempeobaknkcaaGreatDoor
namespace Go.Proofs.YtoempeobaknkcaaGreatDoor
open Go.RowKit Go.Maps

/-- A row of the table of forms. -/
structure FormA where
  shape : Int
  text : Txt
  kids : Int
  rank : Int
  left : Int
  right : Int
def FormA.cs (f : FormA) : List Value := [.int .i64 f.shape, str f.text, .int .i64 f.kids, .int .i64 f.rank, .int .i64 f.left, .int .i64 f.right]
def formsL : List FormA := [⟨0, [], 0, 0, 0, 0⟩, ⟨1, [], 0, 9, 0, 0⟩, ⟨1, [], 0, 9, 0, 0⟩, ⟨1, [], 0, 9, 0, 0⟩, ⟨1, [], 0, 9, 0, 0⟩, ⟨1, [], 0, 9, 0, 0⟩, ⟨1, [], 0, 9, 0, 0⟩,
  ⟨2, [110, 111, 116], 1, 3, 0, 3⟩, ⟨2, [45], 1, 8, 0, 8⟩, ⟨3, [43], 2, 6, 6, 7⟩, ⟨3, [45], 2, 6, 6, 7⟩, ⟨3, [42], 2, 7, 7, 8⟩, ⟨3, [60], 2, 4, 5, 5⟩, ⟨3, [60, 61], 2, 4, 5, 5⟩, ⟨3, [62], 2, 4, 5, 5⟩, ⟨3, [62, 61], 2, 4, 5, 5⟩, ⟨3, [61, 61], 2, 4, 5, 5⟩, ⟨3, [33, 61], 2, 4, 5, 5⟩,
  ⟨3, [97, 110, 100], 2, 2, 2, 3⟩, ⟨3, [111, 114], 2, 1, 1, 2⟩, ⟨3, [63, 63], 2, 5, 6, 5⟩, ⟨4, [109, 105, 110], 2, 9, 0, 0⟩, ⟨4, [109, 97, 120], 2, 9, 0, 0⟩, ⟨4, [108, 101, 110], 1, 9, 0, 0⟩, ⟨4, [99, 97, 116], 2, 9, 0, 0⟩, ⟨4, [112, 105, 99, 107], 3, 9, 0, 0⟩]
/-- The table of forms lies as its initialiser lays it. -/
structure Forms (w : World) : Prop where
  lt : 1 < w.heap.size
  cell : ∀ (i : Nat) (f : FormA), formsL[i]? = some f → ∀ (j : Nat) (x : Value), f.cs[j]? = some x → w.cell? ⟨1, i * 6 + j, none⟩ = some x
theorem Forms.keep {F : Nat → Prop} {w w' : World} (h : Forms w) (hk : Keeps F w w') (hF : ¬ F 1) : Forms w' :=
  ⟨Nat.lt_of_lt_of_le h.lt hk.size, fun i f hf j x hx => by rw [hk.cell h.lt hF]; exact h.cell i f hf j x hx⟩
theorem Forms.keepF {w w' : World} (h : Forms w) (hk : Keeps (fun _ => False) w w') : Forms w' := h.keep hk id
theorem formsL_kids : ∀ m : Nat, 1 ≤ m → m ≤ 25 → (formsL[m]?).map (fun f => f.kids) = some (kidsB m) := by
  have h : ∀ m : Fin 26, 1 ≤ m.val → (formsL[m.val]?).map (fun f => f.kids) = some (kidsB m.val) := by decide
  intro m h1 h2
  exact h ⟨m, by omega⟩ h1
theorem Forms.kids {w : World} (h : Forms w) {m : Nat} (h1 : 1 ≤ m) (h2 : m ≤ 25) : w.cell? ⟨1, m * 6 + 2, none⟩ = some (.int .i64 (kidsB m)) := by
  have e := formsL_kids m h1 h2
  cases hf : formsL[m]? with
  | none => rw [hf] at e; cases e
  | some f =>
    rw [hf] at e
    simp at e
    have := h.cell m f hf 2 (.int .i64 f.kids) rfl
    rw [e] at this
    exact this
theorem boxedT (w : World) (cs : Array Value) (t : TypeId) : Hid (Keeps (fun _ => False) w (w.alloc (.cells cs t))) ∧ w.heap.size < (w.alloc (.cells cs t)).heap.size ∧ ∀ (j : Nat) (x : Value), cs[j]? = some x → (w.alloc (.cells cs t)).cell? ⟨w.heap.size, j, none⟩ = some x :=
  ⟨(Keeps.refl _ _).alloc _, by simp, fun j x h => by rw [cell_of_blk (heap_alloc_new w _)]; exact h⟩
/-- An expression as a value. -/
abbrev exV (op n : Int) (s : Txt) (kv : Value) : Value := .agg #[.int .i64 op, .int .i64 n, str s, kv]
/-- A statement as a value. -/
abbrev stV (op : Int) (f : Txt) (xv tv ev : Value) : Value := .agg #[.int .i64 op, str f, xv, tv, ev]

/-- The worlds in which all that a world holds stands still. -/
structure KW (W0 : World) where
  wd : World
  kept : Keeps (fun _ => False) W0 wd
instance (W0 : World) : Nonempty (KW W0) := ⟨⟨W0, Keeps.refl _ W0⟩⟩
/-- A region that draws its order, whose operations only read and whose callees only lay new blocks: walked once, in the order of the text. -/
theorem region_kept {P : Program} {id : Nat} {Q : Exit → Act → World → Prop} {a : Act} {w : World} {l : List Oper} (hm : P.follows .mixedOrders = true) (hB : Region.lexB .any l.toArray = true)
    (h : wpQuiet P l.toArray (fun w' => ∃ n : KW w, w' = n.wd) (fun a' => ∀ w', (∃ n : KW w, w' = n.wd) → Q .normal a' w') l a) : (Code.region id l.toArray true).wp P Q a w :=
  wp_region_quiet (C := fun w' => ∃ n : KW w, w' = n.wd) hm hB ⟨⟨_, (Keeps.refl _ w).drew⟩, rfl⟩ (by simpa using h)
/-- A contract with no effect but new blocks, at any such world. -/
theorem kw_of {P : Program} {f : FuncId} {args : Array Value} {W0 : World} {v : Value} (n : KW W0) (h : Calls P f args n.wd fun e w' => e = .returned v ∧ Keeps (fun _ => False) n.wd w') :
    Calls P f args n.wd fun e w' => e = .returned v ∧ ∃ m : KW W0, w' = m.wd :=
  h.mono fun _ w' ⟨he, hk⟩ => ⟨he, ⟨w', n.kept.trans hk⟩, rfl⟩
set_option maxRecDepth 100000 in
set_option maxHeartbeats 1600000 in
theorem rootFits_v (op n : Int) (s : Txt) (ao : Option Addr) (k cap : Nat) (w : World) (hF : Forms w) :
    Calls Tryz.prog 82 #[exV op n s (.slice ao k cap)] w fun e w' => e = .returned (.bool (rootB op n s k)) ∧ Keeps (fun _ => False) w w' := by
  obtain ⟨HX, hxb, hxc⟩ := boxedT w #[.int .i64 op, .int .i64 n, str s, .slice ao k cap] 57
  have f0 : ∀ m : KW (w.alloc (.cells #[.int .i64 op, .int .i64 n, str s, .slice ao k cap] 57)), m.wd.cell? ⟨w.heap.size, 0, none⟩ = some (.int .i64 op) := fun m => (m.kept.cell (o := 0) hxb id).trans (hxc 0 (.int .i64 op) rfl)
  have f1 : ∀ m : KW (w.alloc (.cells #[.int .i64 op, .int .i64 n, str s, .slice ao k cap] 57)), m.wd.cell? ⟨w.heap.size, 1, none⟩ = some (.int .i64 n) := fun m => (m.kept.cell (o := 1) hxb id).trans (hxc 1 (.int .i64 n) rfl)
  have f2 : ∀ m : KW (w.alloc (.cells #[.int .i64 op, .int .i64 n, str s, .slice ao k cap] 57)), m.wd.cell? ⟨w.heap.size, 2, none⟩ = some (str s) := fun m => (m.kept.cell (o := 2) hxb id).trans (hxc 2 (str s) rfl)
  have f3 : ∀ m : KW (w.alloc (.cells #[.int .i64 op, .int .i64 n, str s, .slice ao k cap] 57)), m.wd.cell? ⟨w.heap.size, 3, none⟩ = some (.slice ao k cap) := fun m => (m.kept.cell (o := 3) hxb id).trans (hxc 3 (.slice ao k cap) rfl)
  have HF := hide (hF.keepF (unhide HX))
  clear hF hxc
  by_cases hop : 1 ≤ op ∧ op ≤ 25
  · obtain ⟨m, rfl⟩ := Int.eq_ofNat_of_zero_le (show 0 ≤ op by omega)
    have fk : ∀ q : KW (w.alloc (.cells #[.int .i64 (m : Int), .int .i64 n, str s, .slice ao k cap] 57)), q.wd.cell? ⟨1, m * 6 + 2, none⟩ = some (.int .i64 (kidsB m)) := fun q => ((unhide HF).keepF q.kept).kids (m := m) (by omega) (by omega)
    have o0 : (0 : Int) ≤ (m : Int) := by omega
    have o1 : (m : Int) < 26 := by omega
    have o2 : decide ((m : Int) < 1) = false := by simp; omega
    have o3 : decide ((25 : Int) < (m : Int)) = false := by simp; omega
    have hkb : decide (0 ≤ kidsB m) = true := by
      have : ∀ q : Fin 26, 1 ≤ q.val → decide (0 ≤ kidsB q.val) = true := by decide
      exact this ⟨m, by omega⟩ (by show 1 ≤ m; omega)
    unfold rootB
    rw [hkb, Bool.true_and]
    generalize kidsB m = K at fk ⊢
    clear hkb HF
    by_cases hkk : (k : Int) = K
    · subst hkk
      rw [decide_eq_true rfl, Bool.true_and]
      unfold leafB
      by_cases h1 : (m : Int) = 1
      · rw [if_pos h1]
        have d1 : ((m : Int) == 1) = true := by simpa using h1
        clear h1
        go_enter Tryz.func82, Tryz.ntmps82
        go_wp2_with fail
        refine region_kept (by kernel_rfl) (by kernel_rfl) ?_
        repeat (go_big_quiet_step (fail))
        refine wpQuiet_nil ?_
        rintro _ ⟨nq, rfl⟩
        go_wp2_with (fail)
        go_ret
        exact ⟨ret_bool (by cases s <;> simp), (unhide HX).trans nq.kept⟩
      rw [if_neg h1]
      have d1 : ((m : Int) == 1) = false := by simpa using h1
      by_cases h2 : (m : Int) = 2
      · rw [if_pos h2]
        have d2 : ((m : Int) == 2) = true := by simpa using h2
        clear h1 h2
        by_cases hn0 : n = 0
        · subst hn0
          go_enter Tryz.func82, Tryz.ntmps82
          go_wp2_with fail
          refine region_kept (by kernel_rfl) (by kernel_rfl) ?_
          repeat (go_big_quiet_step (fail))
          refine wpQuiet_nil ?_
          rintro _ ⟨nq, rfl⟩
          go_wp2_with (fail)
          go_ret
          exact ⟨ret_bool (by cases s <;> simp), (unhide HX).trans nq.kept⟩
        · have n0 : (n == 0) = false := by simpa using hn0
          by_cases hn1 : n = 1
          · subst hn1
            go_enter Tryz.func82, Tryz.ntmps82
            go_wp2_with fail
            refine region_kept (by kernel_rfl) (by kernel_rfl) ?_
            repeat (go_big_quiet_step (fail))
            refine wpQuiet_nil ?_
            rintro _ ⟨nq, rfl⟩
            go_wp2_with (fail)
            go_ret
            exact ⟨ret_bool (by cases s <;> simp), (unhide HX).trans nq.kept⟩
          · have n1 : (n == 1) = false := by simpa using hn1
            rw [decide_eq_false hn0, decide_eq_false hn1]
            clear hn0 hn1
            go_enter Tryz.func82, Tryz.ntmps82
            go_wp2_with fail
            refine region_kept (by kernel_rfl) (by kernel_rfl) ?_
            repeat (go_big_quiet_step (fail))
            refine wpQuiet_nil ?_
            rintro _ ⟨nq, rfl⟩
            go_wp2_with (fail)
            go_ret
            exact ⟨ret_bool (by simp), (unhide HX).trans nq.kept⟩
      rw [if_neg h2]
      have d2 : ((m : Int) == 2) = false := by simpa using h2
      by_cases h3 : (m : Int) = 3
      · rw [if_pos h3]
        have d3 : ((m : Int) == 3) = true := by simpa using h3
        clear h1 h2 h3
        by_cases hn0 : n = 0
        · subst hn0
          go_enter Tryz.func82, Tryz.ntmps82
          go_wp2_with fail
          refine region_kept (by kernel_rfl) (by kernel_rfl) ?_
          repeat (go_big_quiet_step (fail))
          refine wpQuiet_nil ?_
          rintro _ ⟨nq, rfl⟩
          go_wp2_with (fail)
          go_ret
          exact ⟨ret_bool (by simp <;> omega), (unhide HX).trans nq.kept⟩
        · have n0 : (n == 0) = false := by simpa using hn0
          rw [decide_eq_false hn0]
          clear hn0
          go_enter Tryz.func82, Tryz.ntmps82
          go_wp2_with fail
          refine region_kept (by kernel_rfl) (by kernel_rfl) ?_
          repeat (go_big_quiet_step (fail))
          refine wpQuiet_nil ?_
          rintro _ ⟨nq, rfl⟩
          go_wp2_with (fail)
          go_ret
          exact ⟨ret_bool (by simp), (unhide HX).trans nq.kept⟩
      rw [if_neg h3]
      have d3 : ((m : Int) == 3) = false := by simpa using h3
      by_cases h4 : (m : Int) = 4 ∨ (m : Int) = 5
      · rw [if_pos h4]
        have HN := hide (name_v s)
        have d45 : ((m : Int) == 4) = true ∨ ((m : Int) == 4) = false ∧ ((m : Int) == 5) = true := by
          rcases h4 with h4 | h4
          · exact Or.inl (by simpa using h4)
          · exact Or.inr ⟨by simp; omega, by simpa using h4⟩
        clear h1 h2 h3 h4
        by_cases hn0 : n = 0
        · subst hn0
          rcases d45 with d4 | ⟨d4, d5⟩
          ·
            go_enter Tryz.func82, Tryz.ntmps82
            go_wp2_with fail
            refine region_kept (by kernel_rfl) (by kernel_rfl) ?_
            repeat (go_big_quiet_step (fail))
            refine wpQuiet_nil ?_
            rintro _ ⟨nq, rfl⟩
            go_wp2_with (go_at_call 46; refine (unhide HN _).mono ?_; rintro e w1 ⟨rfl, rfl⟩)
            go_ret
            exact ⟨ret_bool (by simp), (unhide HX).trans nq.kept⟩
          ·
            go_enter Tryz.func82, Tryz.ntmps82
            go_wp2_with fail
            refine region_kept (by kernel_rfl) (by kernel_rfl) ?_
            repeat (go_big_quiet_step (fail))
            refine wpQuiet_nil ?_
            rintro _ ⟨nq, rfl⟩
            go_wp2_with (go_at_call 46; refine (unhide HN _).mono ?_; rintro e w1 ⟨rfl, rfl⟩)
            go_ret
            exact ⟨ret_bool (by simp), (unhide HX).trans nq.kept⟩
        · have n0 : (n == 0) = false := by simpa using hn0
          rw [decide_eq_false hn0]
          clear hn0
          rcases d45 with d4 | ⟨d4, d5⟩
          ·
            go_enter Tryz.func82, Tryz.ntmps82
            go_wp2_with fail
            refine region_kept (by kernel_rfl) (by kernel_rfl) ?_
            repeat (go_big_quiet_step (fail))
            refine wpQuiet_nil ?_
            rintro _ ⟨nq, rfl⟩
            go_wp2_with (fail)
            go_ret
            exact ⟨ret_bool (by simp), (unhide HX).trans nq.kept⟩
          ·
            go_enter Tryz.func82, Tryz.ntmps82
            go_wp2_with fail
            refine region_kept (by kernel_rfl) (by kernel_rfl) ?_
            repeat (go_big_quiet_step (fail))
            refine wpQuiet_nil ?_
            rintro _ ⟨nq, rfl⟩
            go_wp2_with (fail)
            go_ret
            exact ⟨ret_bool (by simp), (unhide HX).trans nq.kept⟩
      rw [if_neg h4]
      have d4 : ((m : Int) == 4) = false := by simp at h4 ⊢; omega
      have d5 : ((m : Int) == 5) = false := by simp at h4 ⊢; omega
      clear h1 h2 h3 h4
      by_cases hn0 : n = 0
      · subst hn0
        go_enter Tryz.func82, Tryz.ntmps82
        go_wp2_with fail
        refine region_kept (by kernel_rfl) (by kernel_rfl) ?_
        repeat (go_big_quiet_step (fail))
        refine wpQuiet_nil ?_
        rintro _ ⟨nq, rfl⟩
        go_wp2_with (fail)
        go_ret
        exact ⟨ret_bool (by cases s <;> simp), (unhide HX).trans nq.kept⟩
      · have n0 : (n == 0) = false := by simpa using hn0
        rw [decide_eq_false hn0]
        clear hn0
        go_enter Tryz.func82, Tryz.ntmps82
        go_wp2_with fail
        refine region_kept (by kernel_rfl) (by kernel_rfl) ?_
        repeat (go_big_quiet_step (fail))
        refine wpQuiet_nil ?_
        rintro _ ⟨nq, rfl⟩
        go_wp2_with (fail)
        go_ret
        exact ⟨ret_bool (by simp), (unhide HX).trans nq.kept⟩
    · have hkd : ((k : Int) != K) = true := by simpa using hkk
      rw [decide_eq_false hkk, Bool.false_and]
      clear hkk
      go_enter Tryz.func82, Tryz.ntmps82
      go_wp2_with fail
      refine region_kept (by kernel_rfl) (by kernel_rfl) ?_
      repeat (go_big_quiet_step (fail))
      refine wpQuiet_nil ?_
      rintro _ ⟨nq, rfl⟩
      go_wp2_with (fail)
      go_ret
      exact ⟨rfl, (unhide HX).trans nq.kept⟩
  · have hkb : rootB op n s k = false := by
      have : kidsB op = -1 := by
        unfold kidsB
        rw [if_neg (by omega), if_neg (by omega), if_neg (by omega), if_neg (by omega)]
      unfold rootB
      rw [this]
      rfl
    rw [hkb]
    clear hkb HF
    by_cases hlo : op < 1
    · have l1 : decide (op < 1) = true := by simpa using hlo
      go_enter Tryz.func82, Tryz.ntmps82
      go_wp2_with fail
      refine region_kept (by kernel_rfl) (by kernel_rfl) ?_
      repeat (go_big_quiet_step (fail))
      refine wpQuiet_nil ?_
      rintro _ ⟨nq, rfl⟩
      go_wp2_with (fail)
      go_ret
      exact ⟨rfl, (unhide HX).trans nq.kept⟩
    · have l1 : decide (op < 1) = false := by simpa using hlo
      have hh : decide (25 < op) = true := by simp; omega
      go_enter Tryz.func82, Tryz.ntmps82
      go_wp2_with fail
      refine region_kept (by kernel_rfl) (by kernel_rfl) ?_
      repeat (go_big_quiet_step (fail))
      refine wpQuiet_nil ?_
      rintro _ ⟨nq, rfl⟩
      go_wp2_with (fail)
      go_ret
      exact ⟨rfl, (unhide HX).trans nq.kept⟩
end Go.Proofs.YtoempeobaknkcaaGreatDoor
namespace Go.Proofs.YtoempeobaknkcaaGreatDoor
open Go.RowKit Go.Maps

set_option maxRecDepth 100000 in
set_option maxHeartbeats 800000 in
theorem exprsWellMade_v (Z : Zone) (N : Nat) : ∀ (l : EL), l.size < N → l.size ≤ 4294967294 → ∀ (w : World) (up : Nat) (v : Value), Forms w → SlE Z w up v l →
    Calls Tryz.prog 55 #[v] w fun e w' => e = .returned (.bool (wellE l)) ∧ Keeps (fun _ => False) w w' := by
  induction N with
  | zero => intro l h; omega
  | succ N ih =>
    intro l hsz hlen' w up v hF hS
    have hlen : l.len ≤ 4294967294 := by have := EL.len_le l; omega
    obtain ⟨ao, cap, b, off, rfl, hcap, ha, hx⟩ := hS.open
    have IH := hide ih
    have HX := hide hx
    have HA := hide ha
    have HF := hide hF
    clear hS ih hx ha hF
    go_enter Tryz.func55, Tryz.ntmps55
    go_wp2_with fail
    go_loopw [7] (fun i wr => ∃ (rest : EL) (k : Nat), i = .int .i64 k ∧ k + rest.len = l.len ∧ rest.size ≤ l.size ∧ wellE rest = wellE l ∧ Keeps (fun _ => False) w wr ∧ ExIn Z wr rest b (off + k * 4)) (fun i _ => l.len - (intOf i).toNat)
    case atStart => exact ⟨l, 0, rfl, by omega, Nat.le_refl _, rfl, Keeps.refl _ _, by simpa using unhide HX⟩
    case round =>
      obtain ⟨rest, k, rfl, hkl, hrs, hwe, hkeep, hr⟩ := hrel
      cases rest with
      | nil =>
        simp only [EL.len, EL.size, wellE] at hkl hrs hwe
        have HK := hide hkeep
        clear hkeep hr
        have i1 : ¬ (k : Int) < (l.len : Int) := by omega
        have HWE := hide hwe
        clear hwe
        go_wp2_with fail
        go_ret
        exact ⟨ret_bool (by first | exact unhide HWE | exact (unhide HWE).symm), unhide HK⟩
      | cons op n s kids rest =>
        obtain ⟨h1, h2, h3, h4, h5, ⟨kao, kcap, h6, h7, h8⟩, h9⟩ := hr
        simp only [EL.len, EL.size, wellE] at hkl hrs hwe
        obtain ⟨rfl, hp⟩ := (unhide HA) (by omega)
        have HKID : Hid (SlE Z wr b (.slice kao kids.len kcap) kids) := ⟨kao, kcap, rfl, h7, h8⟩
        have HR := hide h9
        have HK := hide hkeep
        have HWE := hide hwe
        have i1 : (k : Int) < (l.len : Int) := by omega
        have i0 : (0 : Int) ≤ (k : Int) := by omega
        obtain ⟨HB, hxb, hxc⟩ := boxedT wr #[.int .i64 op, .int .i64 n, str s, .slice kao kids.len kcap] 57
        have q3 := hxc 3 (.slice kao kids.len kcap) rfl
        have HRT := hide (rootFits_v op n s kao kids.len kcap _ (((unhide HF).keepF (unhide HK)).keepF (unhide HB)))
        have HKD := fun (w' : World) (hk : Keeps (fun _ => False) wr w') => hide (unhide IH kids (by omega) (by omega) w' b (.slice kao kids.len kcap) (((unhide HF).keepF (unhide HK)).keepF hk) ((unhide HKID).keepF hk))
        clear hkeep h2 h8 h9 hwe hxc
        cases hrt : rootB op n s kids.len with
        | false =>
          rw [hrt] at HRT HWE
          rw [Bool.false_and] at HWE
          go_wp2_with (go_at_call 82; refine (unhide HRT).mono ?_; rintro e w1 ⟨rfl, hk1⟩)
          go_ret
          exact ⟨ret_bool (unhide HWE), ((unhide HK).trans (unhide HB)).trans hk1⟩
        | true =>
          rw [hrt] at HRT HWE
          rw [Bool.true_and] at HWE
          cases hkd : wellE kids with
          | false =>
            simp only [hkd] at HKD
            rw [hkd] at HWE
            rw [Bool.false_and] at HWE
            go_wp2_with (first
              | (go_at_call 82; refine (unhide HRT).mono ?_; rintro e w1 ⟨rfl, hk1⟩; have HK1 := hide ((unhide HB).trans hk1); have q4 := (hk1.cell (o := 3) hxb id).trans q3; clear hk1)
              | (go_at_call 55; refine (unhide (HKD _ (unhide HK1))).mono ?_; rintro e w2 ⟨rfl, hk2⟩; have HK2 := hide ((unhide HK1).trans hk2); clear hk2))
            go_ret
            exact ⟨ret_bool (unhide HWE), (unhide HK).trans (unhide HK2)⟩
          | true =>
            simp only [hkd] at HKD
            rw [hkd] at HWE
            rw [Bool.true_and] at HWE
            go_wp2_with (first
              | (go_at_call 82; refine (unhide HRT).mono ?_; rintro e w1 ⟨rfl, hk1⟩; have HK1 := hide ((unhide HB).trans hk1); have q4 := (hk1.cell (o := 3) hxb id).trans q3; clear hk1)
              | (go_at_call 55; refine (unhide (HKD _ (unhide HK1))).mono ?_; rintro e w2 ⟨rfl, hk2⟩; have HK2 := hide ((unhide HK1).trans hk2); clear hk2))
            go_roundw
            case rel =>
              refine ⟨rest, k + 1, by go_num, by omega, by omega, unhide HWE, (unhide HK).trans (unhide HK2), ?_⟩
              rw [show off + (k + 1) * 4 = off + k * 4 + 4 by omega]
              exact (unhide HR).keepF (unhide HK2)
            case measure => simp [intOf]; omega
end Go.Proofs.YtoempeobaknkcaaGreatDoor
namespace Go.Proofs.YtoempeobaknkcaaGreatDoor
open Go.RowKit Go.Maps

set_option maxRecDepth 100000 in
set_option maxHeartbeats 800000 in
theorem exprsDepth_v (Z : Zone) (N : Nat) : ∀ (l : EL), l.size < N → l.size ≤ 4294967294 → ∀ (w : World) (up : Nat) (v : Value), SlE Z w up v l →
    Calls Tryz.prog 56 #[v] w fun e w' => e = .returned (.int .i64 (depthE l)) ∧ Keeps (fun _ => False) w w' := by
  induction N with
  | zero => intro l h; omega
  | succ N ih =>
    intro l hsz hlen' w up v hS
    have hlen : l.len ≤ 4294967294 := by have := EL.len_le l; omega
    obtain ⟨ao, cap, b, off, rfl, hcap, ha, hx⟩ := hS.open
    have IH := hide ih
    have HX := hide hx
    have HA := hide ha
    have HDL := hide (depthE_le l)
    clear hS ih hx ha
    go_enter Tryz.func56, Tryz.ntmps56
    go_wp2_with fail
    go_loopw [3, 8] (fun d i wr => ∃ (rest : EL) (k m : Nat), d = .int .i64 m ∧ i = .int .i64 k ∧ k + rest.len = l.len ∧ rest.size ≤ l.size ∧ max m (depthE rest) = depthE l ∧ Keeps (fun _ => False) w wr ∧ ExIn Z wr rest b (off + k * 4)) (fun _ i _ => l.len - (intOf i).toNat)
    case atStart => exact ⟨l, 0, 0, rfl, rfl, by omega, Nat.le_refl _, by omega, Keeps.refl _ _, by simpa using unhide HX⟩
    case round =>
      obtain ⟨rest, k, m, rfl, rfl, hkl, hrs, hwe, hkeep, hr⟩ := hrel
      cases rest with
      | nil =>
        simp only [EL.len, EL.size, depthE] at hkl hrs hwe
        have HK := hide hkeep
        have HWE := hide hwe
        clear hkeep hr hwe
        have i1 : ¬ (k : Int) < (l.len : Int) := by omega
        go_wp2_with fail
        go_ret
        exact ⟨ret_int (by have := unhide HWE; omega), unhide HK⟩
      | cons op n s kids rest =>
        obtain ⟨h1, h2, h3, h4, h5, ⟨kao, kcap, h6, h7, h8⟩, h9⟩ := hr
        simp only [EL.len, EL.size, depthE] at hkl hrs hwe
        obtain ⟨rfl, hp⟩ := (unhide HA) (by omega)
        have HKID : Hid (SlE Z wr b (.slice kao kids.len kcap) kids) := ⟨kao, kcap, rfl, h7, h8⟩
        have HR := hide h9
        have HK := hide hkeep
        have HWE := hide hwe
        have i1 : (k : Int) < (l.len : Int) := by omega
        have i0 : (0 : Int) ≤ (k : Int) := by omega
        obtain ⟨HB, hxb, hxc⟩ := boxedT wr #[.int .i64 op, .int .i64 n, str s, .slice kao kids.len kcap] 57
        have q3 := hxc 3 (.slice kao kids.len kcap) rfl
        have HKD := fun (w' : World) (hk : Keeps (fun _ => False) wr w') => hide (unhide IH kids (by omega) (by omega) w' b (.slice kao kids.len kcap) ((unhide HKID).keepF hk))
        have hdk := depthE_le kids
        obtain ⟨D, hD⟩ : ∃ D, D = depthE kids := ⟨_, rfl⟩
        simp only [← hD] at HKD
        rw [← hD] at HWE hdk
        clear hkeep h2 h8 h9 hwe hxc
        go_wp2_with (go_at_call 56; refine (unhide (HKD _ (unhide HB))).mono ?_; rintro e w1 ⟨rfl, hk1⟩; have HK1 := hide ((unhide HB).trans hk1); clear hk1)
        go_roundw
        case rel =>
          refine ⟨rest, k + 1, max m (1 + depthE kids), congrArg (Value.int .i64) (by split <;> omega), by go_num, by omega, by omega, by have := unhide HWE; omega, (unhide HK).trans (unhide HK1), ?_⟩
          rw [show off + (k + 1) * 4 = off + k * 4 + 4 by omega]
          exact (unhide HR).keepF (unhide HK1)
        case measure => simp [intOf]; omega
end Go.Proofs.YtoempeobaknkcaaGreatDoor
