import Derived.Test.YtdkihkgmldnpmabA
import Derived.Laws.CopyOwn
import Derived.Maps.OwnSet
import Derived.Deep.AppendLies
import Derived.BigQuiet
import Derived.Deep.QuietTactic
import Derived.Deep.RegionHeld3
namespace Go.Proofs.Ytdkihkgmldnpmab
open Go.RowKit Go.Maps

/-- Bytes as cells. -/
def bs (l : List Int) : List Value := l.map (Value.int .u8)
theorem bs_length (l : List Int) : (bs l).length = l.length := by simp [bs]
theorem bs_get (l : List Int) (j : Nat) : (bs l)[j]? = (l[j]?).map (Value.int .u8) := by simp [bs]
theorem bs_one (l : List Int) : ∀ v ∈ bs l, v.oneCell' = true := by
  intro v hv
  simp only [bs, List.mem_map] at hv
  obtain ⟨x, _, rfl⟩ := hv
  rfl

theorem Try.info5 : (Try.prog.info? 5).map (fun i => (i.zero, i.size, i.bytes)) = some (some (.int .u8 0), 1, 1) := by kernel_rfl
theorem Try.size5 : (Try.prog.info? 5).map (·.size) = some 1 := by kernel_rfl

theorem setRow_alloc (w : World) (X Y : Array Value) (t : TypeId) : (w.alloc (.cells X t)).setRow w.heap.size Y = w.alloc (.cells Y t) := by
  unfold World.setRow World.alloc
  congr 1
  apply Array.ext_getElem?
  intro i
  rw [Array.getElem?_modify]
  by_cases h : w.heap.size = i
  · subst h; simp
  · rw [if_neg h]; simp only [Array.getElem?_push]; rw [if_neg (by omega), if_neg (by omega)]

theorem run_mk (n : Nat) (hn : n ≤ 16777216) (w : World) : (Instr.makeSlice 37 (.int .i64 (n : Int)) (.int .i64 (n : Int))).run Try.prog w = .ok (.slice (some ⟨w.heap.size, 0, none⟩) n n) (w.alloc (.cells (madeCells (Value.int .u8 0).cells n) 5)) := by
  obtain ⟨i0, hi, hz0, hz1, hz2⟩ := info_parts Try.info5
  have h := run_make (P := Try.prog) w 37 5 i0 (.int .u8 0) Try.underlying37 hi hz0 .i64 .i64 (n : Int) (n : Int) (by omega) (by omega) (by rw [hz2]; omega) (by omega)
  rw [hz1] at h
  simpa using h

theorem made_zero (n : Nat) : (madeCells (Value.int .u8 0).cells n) = (bs (List.replicate n 0)).toArray := by
  unfold madeCells bs
  apply Array.ext
  · simp
  · intro i h1 h2
    simp [Value.cells, Nat.mod_one]

/-- All blocks that are there and are not named by F hold what they held. -/
structure Keeps (F : Nat → Prop) (w w' : World) : Prop where
  os : w'.os = w.os
  tape : w'.tape = w.tape
  output : w'.output = w.output
  size : w.heap.size ≤ w'.heap.size
  block : ∀ k, k < w.heap.size → ¬ F k → w'.heap[k]? = w.heap[k]?

theorem Keeps.refl (F : Nat → Prop) (w : World) : Keeps F w w := ⟨rfl, rfl, rfl, Nat.le_refl _, fun _ _ _ => rfl⟩
theorem Keeps.trans {F : Nat → Prop} {a b c : World} (h : Keeps F a b) (k : Keeps F b c) : Keeps F a c :=
  ⟨k.os.trans h.os, k.tape.trans h.tape, k.output.trans h.output, Nat.le_trans h.size k.size, fun i hi hF => (k.block i (Nat.lt_of_lt_of_le hi h.size) hF).trans (h.block i hi hF)⟩
theorem Keeps.mono {F G : Nat → Prop} {a b : World} (h : Keeps F a b) (hFG : ∀ k, k < a.heap.size → F k → G k) : Keeps G a b :=
  ⟨h.os, h.tape, h.output, h.size, fun k hk hG => h.block k hk (fun hf => hG (hFG k hk hf))⟩
theorem Keeps.any {G : Nat → Prop} {a b : World} (h : Keeps (fun _ => False) a b) : Keeps G a b := h.mono (fun _ _ f => f.elim)
theorem Keeps.drew {F : Nat → Prop} {a b : World} (h : Keeps F a b) : Keeps F a b.drew := ⟨h.os, h.tape, h.output, h.size, h.block⟩
theorem drewN_os (w : World) : ∀ n, (w.drewN n).os = w.os ∧ (w.drewN n).tape = w.tape ∧ (w.drewN n).output = w.output ∧ (w.drewN n).heap = w.heap
  | 0 => ⟨rfl, rfl, rfl, rfl⟩
  | n + 1 => by
    have := drewN_os w.drew n
    exact this
theorem Keeps.drewN {F : Nat → Prop} {a b : World} (h : Keeps F a b) (n : Nat) : Keeps F a (b.drewN n) := by
  obtain ⟨h1, h2, h3, h4⟩ := drewN_os b n
  exact ⟨h1.trans h.os, h2.trans h.tape, h3.trans h.output, by rw [h4]; exact h.size, by rw [h4]; exact h.block⟩
theorem Keeps.alloc {F : Nat → Prop} {a b : World} (h : Keeps F a b) (o : Obj) : Keeps F a (b.alloc o) :=
  h.trans ⟨rfl, rfl, rfl, by simp, fun k hk _ => Below.heap_alloc _ _ _ hk⟩
theorem Keeps.setCell {F : Nat → Prop} {a b : World} (h : Keeps F a b) {p : Addr} (hp : p.block < a.heap.size → F p.block) (u : Value) : Keeps F a (b.setCell p u) :=
  ⟨h.os, h.tape, h.output, by simpa using h.size, fun k hk hF => by
    have hne : k ≠ p.block := fun e => hF (by rw [e]; exact hp (by rw [← e]; exact hk))
    rw [Below.heap_setCell _ _ _ _ hne]; exact h.block k hk hF⟩
theorem Keeps.grown {F : Nat → Prop} {a b c : World} {row : Option Nat} (h : Keeps F a b) (hg : b.grownBy c row) (hr : ∀ k, row = some k → k < a.heap.size → F k) : Keeps F a c :=
  ⟨hg.os.trans h.os, hg.tape.trans h.tape, hg.output.trans h.output, Nat.le_trans h.size hg.size, fun k hk hF => by
    rw [hg.block k (Nat.lt_of_lt_of_le hk h.size) (fun e => hF (hr k e.symm hk))]; exact h.block k hk hF⟩
theorem Keeps.below {F : Nat → Prop} {a b : World} (h : Keeps F a b) {B : Nat} (hB : B ≤ a.heap.size) (hF : ∀ k, F k → B ≤ k) : Below B a b :=
  ⟨h.os, h.tape, h.output, h.size, fun k hk => h.block k (by omega) (fun f => by have := hF k f; omega)⟩
theorem Keeps.cell {F : Nat → Prop} {a b : World} (h : Keeps F a b) {k o : Nat} (hk : k < a.heap.size) (hF : ¬ F k) : b.cell? ⟨k, o, none⟩ = a.cell? ⟨k, o, none⟩ :=
  World.cell?_of_block (w := a) (h.block k hk hF)

theorem heap_setCell_at {w : World} {b o : Nat} {c : Array Value} {t : TypeId} {fr : Nat × Nat} (h : w.heap[b]? = some (.cells c t fr)) (v : Value) :
    (w.setCell ⟨b, o, none⟩ v).heap[b]? = some (.cells (c.setIfInBounds o v) t fr) := by
  simp [World.setCell, Array.getElem?_modify, h]
theorem lt_of_block {w : World} {b : Nat} {o : Obj} (h : w.heap[b]? = some o) : b < w.heap.size := (Array.getElem?_eq_some_iff.1 h).1
theorem cell_of_blk {w : World} {b : Nat} {c : Array Value} {t : TypeId} {fr : Nat × Nat} (h : w.heap[b]? = some (.cells c t fr)) (o : Nat) : w.cell? ⟨b, o, none⟩ = c[o]? := by
  simp [World.cell?, h]
theorem frozen_of_blk {w : World} {b : Nat} {c : Array Value} {t : TypeId} (h : w.heap[b]? = some (.cells c t (0, 0))) (o : Nat) : w.frozen? ⟨b, o, none⟩ = false := by
  simp [World.frozen?, h]

/-- How many bytes a bitmap has. -/
def nb (n : Nat) : Nat := (n + 7) / 8

/-- A set lies at a, its bits at b. -/
structure SetAt (w : World) (a b n : Nat) (f : List Bool) : Prop where
  blk : w.heap[a]? = some (.cells #[.int .i64 n, .slice (some ⟨b, 0, none⟩) (nb n) (nb n)] 63 (0, 0))
  bits : w.heap[b]? = some (.cells (bs (pack f)).toArray 5 (0, 0))
  len : f.length = n
  n2 : n ≤ 2048

theorem SetAt.ne {w : World} {a b n : Nat} {f : List Bool} (h : SetAt w a b n f) : a ≠ b := by
  intro e
  have h1 := h.blk
  have h2 := h.bits
  rw [e, h2] at h1
  simp at h1
theorem SetAt.kept {w w' : World} {a b n : Nat} {f : List Bool} (h : SetAt w a b n f) {F : Nat → Prop} (hk : Keeps F w w') (ha : ¬ F a) (hb : ¬ F b) : SetAt w' a b n f :=
  ⟨by rw [hk.block _ (lt_of_block h.blk) ha]; exact h.blk, by rw [hk.block _ (lt_of_block h.bits) hb]; exact h.bits, h.len, h.n2⟩
theorem SetAt.c0 {w : World} {a b n : Nat} {f : List Bool} (h : SetAt w a b n f) : w.cell? ⟨a, 0, none⟩ = some (.int .i64 n) := by rw [cell_of_blk h.blk]; rfl
theorem SetAt.c1 {w : World} {a b n : Nat} {f : List Bool} (h : SetAt w a b n f) : w.cell? ⟨a, 1, none⟩ = some (.slice (some ⟨b, 0, none⟩) (nb n) (nb n)) := by rw [cell_of_blk h.blk]; rfl
theorem SetAt.byte {w : World} {a b n : Nat} {f : List Bool} (h : SetAt w a b n f) {k : Nat} (hk : k < nb n) : w.cell? ⟨b, k, none⟩ = some (.int .u8 (byteAt f k)) := by
  rw [cell_of_blk h.bits]
  simp only [List.getElem?_toArray, bs_get]
  rw [pack_get _ _ (by rw [h.len]; exact hk)]
  rfl

theorem quo8 (i : Nat) (h : i ≤ 16777216) : wrap64 ((i : Int) / 8) = ((i / 8 : Nat) : Int) := by
  rw [show (8 : Int) = ((8 : Nat) : Int) from rfl, ← Int.natCast_ediv]
  exact IntWalk.wrap64_in _ (by omega)

theorem quo8' (i : Nat) (h : i ≤ 16777216) : IntKind.i64.wrap ((i : Int) / 8) = ((i / 8 : Nat) : Int) := by
  rw [IntWalk.i64_left]; exact quo8 i h

set_option maxRecDepth 100000 in
set_option maxHeartbeats 400000 in
theorem has_in (w : World) (a b n : Nat) (f : List Bool) (h : SetAt w a b n f) (i : Nat) (hi : i < n) :
    Calls Try.prog 48 #[.pointer (some ⟨a, 0, none⟩), .int .i64 i] w fun e w' => e = .returned (.bool (on f i)) ∧ ∃ k, w' = w.drewN k := by
  have c0 := h.c0
  have c1 := h.c1
  have hm : i / 8 < nb n := by unfold nb; omega
  have hx := h.byte hm
  have hand := byteAt_and f (i / 8) (i % 8) (Nat.mod_lt _ (by decide))
  rw [show 8 * (i / 8) + i % 8 = i by omega] at hand
  have hq := quo8 i (by have := h.n2; omega)
  have h1 : (0 : Int) ≤ (i : Int) := by omega
  have h2 : (i : Int) < (n : Int) := by omega
  have hp : pw (i % 8) ≠ 0 := Int.ne_of_gt (Int.pow_pos (by decide))
  generalize nb n = m at *
  generalize i / 8 = q at *
  have hqm : (q : Int) < (m : Int) := by omega
  have HX := hide hand
  have HP := hide hp
  have HB := hide (bit_any i)
  generalize pw (i % 8) = p at *
  clear hand h hm hp
  go_enter Try.func48, Try.ntmps48
  go_wp2_with fail
  go_quiet ((go_at_call 25; exact Calls.quiet_of_same (unhide HB _)))
  go_wp2
  go_ret
  exact ⟨ret_bool (by have h := unhide HX; have hp := unhide HP; rw [h]; cases on f i <;> simp [hp]), nq, rfl⟩

set_option maxRecDepth 100000 in
set_option maxHeartbeats 400000 in
theorem has_out (w : World) (a b n : Nat) (f : List Bool) (h : SetAt w a b n f) (i : Int) (hi : i < 0 ∨ (n : Int) ≤ i) :
    Calls Try.prog 48 #[.pointer (some ⟨a, 0, none⟩), .int .i64 i] w fun e w' => e = .returned (.bool false) ∧ ∃ k, w' = w.drewN k := by
  have c0 := h.c0
  clear h
  by_cases h0 : i < 0
  · have hd : decide ((0 : Int) ≤ i) = false := by simp; omega
    clear hi h0
    go_enter Try.func48, Try.ntmps48
    go_wp2_with fail
    go_quiet (fail)
    go_wp2
    go_ret
    exact ⟨rfl, _, rfl⟩
  · have h1 : (0 : Int) ≤ i := by omega
    have hd : decide (i < (n : Int)) = false := by simp; omega
    clear hi h0
    go_enter Try.func48, Try.ntmps48
    go_wp2_with fail
    go_quiet (fail)
    go_wp2
    go_ret
    exact ⟨rfl, _, rfl⟩

theorem SetAt.drewN {w : World} {a b n : Nat} {f : List Bool} (h : SetAt w a b n f) (k : Nat) : SetAt (w.drewN k) a b n f :=
  h.kept ((Keeps.refl (fun _ => False) w).drewN k) id id

theorem SetAt.store {w : World} {a b n : Nat} {f : List Bool} (h : SetAt w a b n f) (i : Nat) (v : Bool) :
    SetAt (w.setCell ⟨b, i / 8, none⟩ (.int .u8 (byteAt (f.set i v) (i / 8)))) a b n (f.set i v) ∧ Keeps (fun k => k = b) w (w.setCell ⟨b, i / 8, none⟩ (.int .u8 (byteAt (f.set i v) (i / 8)))) := by
  refine ⟨⟨?_, ?_, by simpa using h.len, h.n2⟩, Keeps.setCell (F := fun k => k = b) (Keeps.refl _ w) (p := ⟨b, i / 8, none⟩) (fun _ => rfl) _⟩
  · rw [Below.heap_setCell _ _ _ _ h.ne]; exact h.blk
  · rw [heap_setCell_at h.bits, pack_set]
    simp [bs, List.map_set]

set_option maxRecDepth 100000 in
set_option maxHeartbeats 400000 in
theorem join_any (w : World) (a b n : Nat) (f : List Bool) (h : SetAt w a b n f) (i : Nat) (hi : i < n) :
    Calls Try.prog 26 #[.pointer (some ⟨a, 0, none⟩), .int .i64 i] w fun e w' => e = .returned (.tuple #[]) ∧ SetAt w' a b n (f.set i true) ∧ Keeps (fun k => k = b) w w' := by
  have c1 := h.c1
  have hm : i / 8 < nb n := by unfold nb; omega
  have hx := h.byte hm
  have hfr := frozen_of_blk h.bits (i / 8)
  have hor := byteAt_or f (i / 8) (i % 8) (Nat.mod_lt _ (by decide)) (by have := h.len; omega)
  rw [show 8 * (i / 8) + i % 8 = i by omega] at hor
  have hq := quo8 i (by have := h.n2; omega)
  have hq' := quo8' i (by have := h.n2; omega)
  have h1 : (0 : Int) ≤ (i : Int) := by omega
  have hst := h.store i true
  generalize nb n = m at *
  have HOR := hide hor
  have HST := hide hst
  generalize i / 8 = q at *
  have hqm : (q : Int) < (m : Int) := by omega
  have hq0 : (0 : Int) ≤ (q : Int) := by omega
  have HB := hide (bit_any i)
  generalize pw (i % 8) = p at *
  clear hor hst h hm
  go_enter Try.func26, Try.ntmps26
  go_wp2_with fail
  go_region_law (first
      | (go_simp; go_at_call 25; refine (unhide HB _).mono ?_; rintro e wa ⟨rfl, rfl⟩))
  all_goals
    go_wp2
    go_end0
    rw [unhide HOR]
    exact ⟨rfl, (unhide HST).1.kept (Keeps.refl (fun _ => False) _).drew id id, (unhide HST).2.drew⟩

set_option maxRecDepth 100000 in
set_option maxHeartbeats 400000 in
theorem leave_any (w : World) (a b n : Nat) (f : List Bool) (h : SetAt w a b n f) (i : Nat) (hi : i < n) :
    Calls Try.prog 51 #[.pointer (some ⟨a, 0, none⟩), .int .i64 i] w fun e w' => e = .returned (.tuple #[]) ∧ SetAt w' a b n (f.set i false) ∧ Keeps (fun k => k = b) w w' := by
  have c1 := h.c1
  have hm : i / 8 < nb n := by unfold nb; omega
  have hx := h.byte hm
  have hfr := frozen_of_blk h.bits (i / 8)
  have hor := byteAt_not f (i / 8) (i % 8) (Nat.mod_lt _ (by decide)) (by have := h.len; omega)
  rw [show 8 * (i / 8) + i % 8 = i by omega] at hor
  have hq := quo8 i (by have := h.n2; omega)
  have hq' := quo8' i (by have := h.n2; omega)
  have h1 : (0 : Int) ≤ (i : Int) := by omega
  have hst := h.store i false
  generalize nb n = m at *
  have HOR := hide hor
  have HST := hide hst
  generalize i / 8 = q at *
  have hqm : (q : Int) < (m : Int) := by omega
  have hq0 : (0 : Int) ≤ (q : Int) := by omega
  have HB := hide (bit_any i)
  generalize pw (i % 8) = p at *
  clear hor hst h hm
  go_enter Try.func51, Try.ntmps51
  go_wp2_with fail
  go_region_law (first
      | (go_simp; go_at_call 25; refine (unhide HB _).mono ?_; rintro e wa ⟨rfl, rfl⟩))
  all_goals
    go_wp2
    go_end0
    rw [unhide HOR]
    exact ⟨rfl, (unhide HST).1.kept (Keeps.refl (fun _ => False) _).drew id id, (unhide HST).2.drew⟩

theorem keeps_setRow (w : World) (g : Nat) (cs : Array Value) : Keeps (fun k => k = g) w (w.setRow g cs) :=
  ⟨rfl, rfl, rfl, by simp [World.setRow], fun k _ hk => setRow_other w g k cs hk⟩

theorem copy_bits (w : World) (b c m : Nat) (l l' : List Int) (hb : w.heap[b]? = some (.cells (bs l).toArray 5 (0, 0))) (hc : w.heap[c]? = some (.cells (bs l').toArray 5 (0, 0))) (hl : l.length = m) (hl' : l'.length = m) (ty : TypeId) :
    (Builtin.copy_ #[37, 37] ty #[.slice (some ⟨b, 0, none⟩) m m, .slice (some ⟨c, 0, none⟩) m m]).run Try.prog w = .ok (.int .i64 m) (w.setRow b (bs l').toArray) := by
  have h := run_copy_row (P := Try.prog) w 37 37 ty 5 b 0 m m ⟨c, 0, none⟩ m m (bs l).toArray 5 (bs l') Try.underlying37 Try.size5 hb (by simp [bs_length, hl'])
    (by
      intro j v hv
      rw [Addr.add_lit, cell_of_blk hc]
      simpa using hv)
    (by simp [bs_length, hl, hl']) (bs_one l')
  rw [h]
  have e : (bs l).toArray.toList.take 0 ++ bs l' ++ (bs l).toArray.toList.drop (0 + (bs l').length) = bs l' := by
    rw [List.drop_of_length_le (by simp [bs_length, hl, hl'])]; simp
  rw [e, bs_length, hl']
  rfl

theorem SetAt.become {w : World} {a b n : Nat} {f : List Bool} (h : SetAt w a b n f) (g : List Bool) (hg : g.length = n) :
    SetAt (w.setRow b (bs (pack g)).toArray) a b n g ∧ Keeps (fun k => k = b) w (w.setRow b (bs (pack g)).toArray) := by
  refine ⟨⟨?_, ?_, hg, h.n2⟩, keeps_setRow _ _ _⟩
  · rw [setRow_other _ _ _ _ h.ne]; exact h.blk
  · exact setRow_heap _ b _ _ 5 (0, 0) h.bits

set_option maxRecDepth 100000 in
set_option maxHeartbeats 400000 in
theorem become_any (w : World) (a b c d n : Nat) (f g : List Bool) (h : SetAt w a b n f) (h' : SetAt w c d n g) :
    Calls Try.prog 47 #[.pointer (some ⟨a, 0, none⟩), .pointer (some ⟨c, 0, none⟩)] w fun e w' => e = .returned (.tuple #[]) ∧ SetAt w' a b n g ∧ Keeps (fun k => k = b) w w' := by
  have c1 := h.c1
  have d1 := h'.c1
  have hx := h.kept (Keeps.refl (fun _ => False) w).drew id id
  have hx' := h'.kept (Keeps.refl (fun _ => False) w).drew id id
  obtain ⟨w2, hcp, hw2⟩ : ∃ w2, (Builtin.copy_ #[37, 37] 3 #[.slice (some ⟨b, 0, none⟩) (nb n) (nb n), .slice (some ⟨d, 0, none⟩) (nb n) (nb n)]).run Try.prog w.drew = .ok (.int .i64 (nb n)) w2 ∧ w2 = w.drew.setRow b (bs (pack g)).toArray := by
    refine ⟨_, copy_bits w.drew b d (nb n) (pack f) (pack g) hx.bits hx'.bits (by rw [pack_length, h.len]; rfl) (by rw [pack_length, h'.len]; rfl) 3, rfl⟩
  have hb := hx.become g h'.len
  rw [← hw2] at hb
  have k1 : w2.cell? ⟨a, 1, none⟩ = some (.slice (some ⟨b, 0, none⟩) (nb n) (nb n)) := hb.1.c1
  have k2 : w2.cell? ⟨c, 1, none⟩ = some (.slice (some ⟨d, 0, none⟩) (nb n) (nb n)) := by
    rw [hb.2.cell (lt_of_block hx'.blk) (fun e => by
      have h1 := hx'.blk
      have h2 := hx.bits
      rw [e, h2] at h1
      simp at h1)]
    exact hx'.c1
  have HB := hide hb.1
  have HK := hide (Keeps.trans (Keeps.refl (fun k => k = b) w).drew hb.2)
  generalize nb n = m at *
  clear hb hw2 hx hx' h h'
  go_enter Try.func47, Try.ntmps47
  go_wp2_with fail
  go_region_held3 (fun w' => w'.cell? ⟨a, 1, none⟩ = some (.slice (some ⟨b, 0, none⟩) m m) ∧ w'.cell? ⟨c, 1, none⟩ = some (.slice (some ⟨d, 0, none⟩) m m))
    (go_keep)
    (fail)
  go_wp2
  go_end0
  exact ⟨rfl, unhide HB, unhide HK⟩

set_option maxRecDepth 100000 in
set_option maxHeartbeats 400000 in
theorem empty_any (n : Nat) (w : World) (h2 : n ≤ 2048) :
    Calls Try.prog 46 #[.int .i64 n] w fun e w' => e = .returned (.pointer (some ⟨w.heap.size + 1, 0, none⟩)) ∧ SetAt w' (w.heap.size + 1) w.heap.size n (List.replicate n false) ∧ w'.heap.size = w.heap.size + 2 ∧ Keeps (fun _ => False) w w' := by
  have hm : nb n ≤ 16777216 := by unfold nb; omega
  have hmk := run_mk (nb n) hm w
  rw [made_zero, show List.replicate (nb n) (0 : Int) = pack (List.replicate n false) from (pack_falses n).symm] at hmk
  have hq : ((nb n : Nat) : Int) = ((n : Int) + 7) / 8 := by unfold nb; omega
  rw [hq] at hmk
  clear hq
  have hres : ∀ X, X = (bs (pack (List.replicate n false))).toArray → SetAt ((w.alloc (.cells X 5)).alloc (.cells #[.int .i64 n, .slice (some ⟨w.heap.size, 0, none⟩) (nb n) (nb n)] 63)) (w.heap.size + 1) w.heap.size n (List.replicate n false) := by
    intro X hX
    refine ⟨?_, ?_, by simp, h2⟩
    · have := heap_alloc_new (w.alloc (.cells X 5)) (.cells #[.int .i64 n, .slice (some ⟨w.heap.size, 0, none⟩) (nb n) (nb n)] 63)
      simpa using this
    · rw [Below.heap_alloc _ _ _ (by simp)]
      rw [← hX]
      exact heap_alloc_new w _
  generalize (bs (pack (List.replicate n false))).toArray = X at hmk hres
  generalize nb n = m at *
  have HR := hide (hres X rfl)
  clear hres hm
  go_enter Try.func46, Try.ntmps46
  go_wp2
  go_ret
  exact ⟨rfl, unhide HR, by simp, ((Keeps.refl _ _).alloc _).alloc _⟩

end Go.Proofs.Ytdkihkgmldnpmab
