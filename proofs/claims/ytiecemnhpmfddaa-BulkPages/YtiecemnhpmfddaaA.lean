import Derived.Test.YtiecemnhpmfddaaProg
import Derived.WalkKit
import Derived.WalkSpells
import Derived.WalkLawsBesides
import Derived.Laws.CopyOwn
import Derived.Maps.OwnSet
import Derived.Deep.AppendLies
import Derived.BigQuiet
import Derived.Deep.QuietTactic
import Derived.Deep.RegionHeld3
import Derived.Laws.IdiomStrings
import Derived.ArgAppend
import Derived.Deep.DeepAppendRoom
namespace Go.Proofs.Ytiecemnhpmfddaa
open Go.RowKit Go.Maps

theorem ret_int {k : IntKind} {a b : Int} (h : a = b) : Ending.returned (.int k a) = .returned (.int k b) := by rw [h]
theorem ret_bool {a b : Bool} (h : a = b) : Ending.returned (.bool a) = .returned (.bool b) := by rw [h]
theorem hide {p : Prop} (h : p) : Hid p := h
theorem unhide {p : Prop} (h : Hid p) : p := h

/-- All blocks that are there and are not named by F hold what they held. -/
structure Keeps (F : Nat → Prop) (w w' : World) : Prop where
  os : w'.os = w.os
  tape : w'.tape = w.tape
  output : w'.output = w.output
  size : w.heap.size ≤ w'.heap.size
  block : ∀ k, k < w.heap.size → ¬ F k → w'.heap[k]? = w.heap[k]?

theorem Keeps.refl (F : Nat → Prop) (w : World) : Keeps F w w := ⟨rfl, rfl, rfl, Nat.le_refl _, fun _ _ _ => rfl⟩
theorem Keeps.trans {F : Nat → Prop} {a b c : World} (h : Keeps F a b) (k : Keeps F b c) : Keeps F a c :=
  ⟨k.os.trans h.os, k.tape.trans h.tape, k.output.trans h.output, Nat.le_trans h.size k.size, fun i hi hF => (k.block i (Nat.lt_of_lt_of_le hi h.size) hF).trans (h.block i hi hF)⟩
theorem Keeps.mono {F G : Nat → Prop} {a b : World} (h : Keeps F a b) (hFG : ∀ k, k < a.heap.size → F k → G k) : Keeps G a b :=
  ⟨h.os, h.tape, h.output, h.size, fun k hk hG => h.block k hk (fun hf => hG (hFG k hk hf))⟩
theorem Keeps.any {G : Nat → Prop} {a b : World} (h : Keeps (fun _ => False) a b) : Keeps G a b := h.mono (fun _ _ f => f.elim)
theorem Keeps.drew {F : Nat → Prop} {a b : World} (h : Keeps F a b) : Keeps F a b.drew := ⟨h.os, h.tape, h.output, h.size, h.block⟩
theorem drewN_os (w : World) : ∀ n, (w.drewN n).os = w.os ∧ (w.drewN n).tape = w.tape ∧ (w.drewN n).output = w.output ∧ (w.drewN n).heap = w.heap
  | 0 => ⟨rfl, rfl, rfl, rfl⟩
  | n + 1 => by
    have := drewN_os w.drew n
    exact this
theorem Keeps.drewN {F : Nat → Prop} {a b : World} (h : Keeps F a b) (n : Nat) : Keeps F a (b.drewN n) := by
  obtain ⟨h1, h2, h3, h4⟩ := drewN_os b n
  exact ⟨h1.trans h.os, h2.trans h.tape, h3.trans h.output, by rw [h4]; exact h.size, by rw [h4]; exact h.block⟩
theorem Keeps.alloc {F : Nat → Prop} {a b : World} (h : Keeps F a b) (o : Obj) : Keeps F a (b.alloc o) :=
  h.trans ⟨rfl, rfl, rfl, by simp, fun k hk _ => Below.heap_alloc _ _ _ hk⟩
theorem Keeps.setCell {F : Nat → Prop} {a b : World} (h : Keeps F a b) {p : Addr} (hp : p.block < a.heap.size → F p.block) (u : Value) : Keeps F a (b.setCell p u) :=
  ⟨h.os, h.tape, h.output, by simpa using h.size, fun k hk hF => by
    have hne : k ≠ p.block := fun e => hF (by rw [e]; exact hp (by rw [← e]; exact hk))
    rw [Below.heap_setCell _ _ _ _ hne]; exact h.block k hk hF⟩
theorem Keeps.grown {F : Nat → Prop} {a b c : World} {row : Option Nat} (h : Keeps F a b) (hg : b.grownBy c row) (hr : ∀ k, row = some k → k < a.heap.size → F k) : Keeps F a c :=
  ⟨hg.os.trans h.os, hg.tape.trans h.tape, hg.output.trans h.output, Nat.le_trans h.size hg.size, fun k hk hF => by
    rw [hg.block k (Nat.lt_of_lt_of_le hk h.size) (fun e => hF (hr k e.symm hk))]; exact h.block k hk hF⟩
theorem Keeps.below {F : Nat → Prop} {a b : World} (h : Keeps F a b) {B : Nat} (hB : B ≤ a.heap.size) (hF : ∀ k, F k → B ≤ k) : Below B a b :=
  ⟨h.os, h.tape, h.output, h.size, fun k hk => h.block k (by omega) (fun f => by have := hF k f; omega)⟩
theorem Keeps.cell {F : Nat → Prop} {a b : World} (h : Keeps F a b) {k o : Nat} (hk : k < a.heap.size) (hF : ¬ F k) : b.cell? ⟨k, o, none⟩ = a.cell? ⟨k, o, none⟩ :=
  World.cell?_of_block (w := a) (h.block k hk hF)

theorem heap_setCell_at {w : World} {b o : Nat} {c : Array Value} {t : TypeId} {fr : Nat × Nat} (h : w.heap[b]? = some (.cells c t fr)) (v : Value) :
    (w.setCell ⟨b, o, none⟩ v).heap[b]? = some (.cells (c.setIfInBounds o v) t fr) := by
  simp [World.setCell, Array.getElem?_modify, h]
theorem lt_of_block {w : World} {b : Nat} {o : Obj} (h : w.heap[b]? = some o) : b < w.heap.size := (Array.getElem?_eq_some_iff.1 h).1
theorem cell_of_blk {w : World} {b : Nat} {c : Array Value} {t : TypeId} {fr : Nat × Nat} (h : w.heap[b]? = some (.cells c t fr)) (o : Nat) : w.cell? ⟨b, o, none⟩ = c[o]? := by
  simp [World.cell?, h]
theorem frozen_of_blk {w : World} {b : Nat} {c : Array Value} {t : TypeId} (h : w.heap[b]? = some (.cells c t (0, 0))) (o : Nat) : w.frozen? ⟨b, o, none⟩ = false := by
  simp [World.frozen?, h]


theorem Keeps.then {F G : Nat → Prop} {a b c : World} (h : Keeps G a b) (k : Keeps F b c) (hF : ∀ i, i < a.heap.size → F i → G i) : Keeps G a c :=
  ⟨k.os.trans h.os, k.tape.trans h.tape, k.output.trans h.output, Nat.le_trans h.size k.size, fun i hi hG => (k.block i (Nat.lt_of_lt_of_le hi h.size) (fun f => hG (hF i hi f))).trans (h.block i hi hG)⟩
theorem keeps_drewN (w : World) (n : Nat) : Keeps (fun _ => False) w (w.drewN n) := (Keeps.refl _ w).drewN n

theorem kAlloc (w : World) (o : Obj) : Keeps (fun _ => False) w (w.alloc o) := (Keeps.refl _ _).alloc _
theorem blk_keep {w w' : World} (h : Keeps (fun _ => False) w w') {b : Nat} {o : Obj} (e : w.heap[b]? = some o) : w'.heap[b]? = some o := by
  have hb : b < w.heap.size := by
    rcases Nat.lt_or_ge b w.heap.size with hb | hb
    · exact hb
    · rw [Array.getElem?_eq_none hb] at e; cases e
  rw [h.block b hb (fun f => f)]
  exact e

def okM (f l b : Int) : Bool := decide (4 ≤ f) && decide (f ≤ 64) && decide (2 ≤ l) && decide (l ≤ 64) && decide (115 ≤ b)
def few (u m : Int) : Int := (if u - 1 > 0 then u - 1 else 0) / m + 1

set_option maxRecDepth 100000 in
theorem nmeas_v (w : World) (f l b : Int) :
    Calls Try.prog 11 #[.agg #[.int .i64 f, .int .i64 l, .int .i64 b]] w fun e w' => e = .returned (.bool (okM f l b)) ∧ Keeps (fun _ => False) w w' := by
  go_enter Try.func11, Try.ntmps11
  go_wp2_with fail
  all_goals (go_ret; refine ⟨ret_bool ?_, kAlloc _ _⟩; unfold okM; simp_all; try omega)
set_option maxRecDepth 100000 in
theorem rmeas_v (w : World) (f l b : Int) :
    Calls Try.prog 8 #[.agg #[.int .i64 f, .int .i64 l, .int .i64 b]] w fun e w' => e = .returned (.bool (okM f l b)) ∧ Keeps (fun _ => False) w w' := by
  go_enter Try.func8, Try.ntmps8
  go_wp2_with fail
  all_goals (go_ret; refine ⟨ret_bool ?_, kAlloc _ _⟩; unfold okM; simp_all; try omega)
theorem few_small {u m : Int} (h : u ≤ m) : few u m = 1 := by
  unfold few
  split
  · rw [Int.ediv_eq_zero_of_lt (by omega) (by omega)]; rfl
  · simp
theorem few_lt {u m : Int} (hm : 2 ≤ m) (h : 2 ≤ u) : 1 ≤ few u m ∧ few u m < u := by
  unfold few
  rw [if_pos (by omega)]
  have h1 := Int.ediv_mul_le (u - 1) (show m ≠ 0 by omega)
  have h2 : 0 ≤ (u - 1) / m := Int.ediv_nonneg (by omega) (by omega)
  have h3 := Int.mul_le_mul_of_nonneg_left hm h2
  generalize (u - 1) / m = q at *
  generalize q * m = z at *
  omega
theorem few_big {u m : Int} (hm : 2 ≤ m) (h : m < u) : few u m = if 0 < u % m then u / m + 1 else u / m := by
  unfold few
  rw [if_pos (by omega)]
  have e := Int.mul_ediv_add_emod u m
  have r0 := Int.emod_nonneg u (show m ≠ 0 by omega)
  have r1 := Int.emod_lt_of_pos u (show 0 < m by omega)
  split
  · rename_i hr
    rw [((Int.ediv_emod_unique (a := u - 1) (b := m) (q := u / m) (r := u % m - 1) (by omega)).2 ⟨by omega, by omega, by omega⟩).1]
  · rename_i hr
    rw [((Int.ediv_emod_unique (a := u - 1) (b := m) (q := u / m - 1) (r := m - 1) (by omega)).2 ⟨by rw [Int.mul_sub]; omega, by omega, by omega⟩).1]
    omega
theorem few_range {u m : Int} (hm : 2 ≤ m) (h0 : 0 ≤ u) (hu : u ≤ 9223372036854775807) : 1 ≤ few u m ∧ few u m ≤ 9223372036854775807 := by
  rcases Int.lt_or_le u 2 with h | h
  · rw [few_small (by omega)]; omega
  · have := few_lt hm h; omega

set_option maxRecDepth 100000 in
theorem few_v (w : World) (u m : Int) (hm : 2 ≤ m) (h0 : 0 ≤ u) (hu : u ≤ 9223372036854775807) (hm2 : m ≤ 64) :
    Calls Try.prog 7 #[.int .i64 u, .int .i64 m] w fun e w' => e = .returned (.int .i64 (few u m)) ∧ Keeps (fun _ => False) w w' := by
  have hr := few_range hm h0 hu
  go_enter Try.func7, Try.ntmps7
  go_wp2_with fail
  · go_ret
    refine ⟨ret_int ?_, Keeps.refl _ _⟩
    rw [few_small (by omega)]
    unfold wrap64; omega
  · go_ret
    refine ⟨ret_int ?_, Keeps.refl _ _⟩
    have e : few u m = (u - 1) / m + 1 := by
      unfold few
      split
      · rfl
      · rw [show u - 1 = 0 by omega]
    rw [← e]
    unfold wrap64; omega
set_option maxRecDepth 100000 in
theorem parts_v (w : World) (u m : Int) (hm : 2 ≤ m) (h0 : 0 ≤ u) (hu : u ≤ 9223372036854775807) (hm2 : m ≤ 64) :
    Calls Try.prog 9 #[.int .i64 u, .int .i64 m] w fun e w' => e = .returned (.int .i64 (few u m)) ∧ Keeps (fun _ => False) w w' := by
  have hr := few_range hm h0 hu
  go_enter Try.func9, Try.ntmps9
  go_wp2_with fail
  · rename_i h
    go_ret
    refine ⟨ret_int ?_, Keeps.refl _ _⟩
    rw [few_small h]
  · rename_i h1 h2
    go_ret
    refine ⟨ret_int ?_, Keeps.refl _ _⟩
    rw [few_big hm h1, if_pos h2] at hr ⊢
    unfold wrap64; omega
  · rename_i h1 h2
    go_ret
    refine ⟨ret_int ?_, Keeps.refl _ _⟩
    rw [few_big hm h1, if_neg (by omega)] at hr ⊢
set_option maxRecDepth 100000 in
theorem fits_v (w : World) (f l b : Int) (hb : b ≤ 115) :
    Calls Try.prog 10 #[.agg #[.int .i64 f, .int .i64 l, .int .i64 b], .int .i64 9223372036854775807] w fun e w' => e = .returned (.int .i64 (if okM f l b then 0 else 170)) ∧ Keeps (fun _ => False) w w' := by
  have Q0 := nmeas_v (w.alloc (.cells #[.int .i64 f, .int .i64 l, .int .i64 b] 23)) f l b
  obtain ⟨ok, hok⟩ : ∃ x, x = okM f l b := ⟨_, rfl⟩
  rw [← hok] at Q0 ⊢
  have Q := hide Q0
  clear Q0
  go_enter Try.func10, Try.ntmps10
  go_wp2_with fail
  refine (unhide Q).mono ?_
  rintro e w1 ⟨rfl, hk1⟩
  have hX := blk_keep hk1 (heap_alloc_new w _)
  have c0 := cell_of_blk hX 0
  have c1 := cell_of_blk hX 1
  have c2 := cell_of_blk hX 2
  simp at c0 c1 c2
  have hk := (kAlloc w (.cells #[.int .i64 f, .int .i64 l, .int .i64 b] 23)).trans hk1
  clear hk1 hX Q
  cases ok
  · clear hok
    go_wp2_with fail
    go_ret
    exact ⟨ret_int (by simp), hk⟩
  · have h' := hok.symm
    simp only [okM, Bool.and_eq_true, decide_eq_true_eq] at h'
    obtain ⟨⟨⟨⟨g1, g2⟩, g3⟩, g4⟩, g5⟩ := h'
    clear hok
    go_wp2_with fail
    go_ret
    exact ⟨ret_int (by simp), hk⟩
theorem ok_min (f l b : Int) (h : 115 ≤ b) : okM f l 115 = okM f l b := by
  unfold okM
  simp [h]
set_option maxRecDepth 100000 in
theorem bmeas_v (w : World) (f l b : Int) :
    Calls Try.prog 6 #[.agg #[.int .i64 f, .int .i64 l, .int .i64 b]] w fun e w' => e = .returned (.bool (okM f l b)) ∧ Keeps (fun _ => False) w w' := by
  have Q1 := hide (fun (h : 115 ≤ b) => ok_min f l b h ▸ fits_v (w.alloc (.cells #[.int .i64 f, .int .i64 l, .int .i64 115] 23)) f l 115 (by omega))
  have Q2 := hide (fun (h : b ≤ 115) => fits_v (w.alloc (.cells #[.int .i64 f, .int .i64 l, .int .i64 b] 23)) f l b h)
  obtain ⟨ok, hok⟩ : ∃ x, x = okM f l b := ⟨_, rfl⟩
  rw [← hok] at Q1 Q2 ⊢
  clear hok
  go_enter Try.func6, Try.ntmps6
  go_wp2_with fail
  · rename_i h
    refine (unhide Q1 (by omega)).mono ?_
    rintro e w1 ⟨rfl, hk1⟩
    have hk := (kAlloc w (.cells #[.int .i64 f, .int .i64 l, .int .i64 115] 23)).trans hk1
    clear Q1 Q2 hk1
    cases ok
    all_goals (go_wp2_with fail; go_ret; exact ⟨ret_bool (by simp), hk⟩)
  · rename_i h
    refine (unhide Q2 (by omega)).mono ?_
    rintro e w1 ⟨rfl, hk1⟩
    have hk := (kAlloc w (.cells #[.int .i64 f, .int .i64 l, .int .i64 b] 23)).trans hk1
    clear Q1 Q2 hk1
    cases ok
    all_goals (go_wp2_with fail; go_ret; exact ⟨ret_bool (by simp), hk⟩)
end Go.Proofs.Ytiecemnhpmfddaa
