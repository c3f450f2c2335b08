import Derived.Test.YtjmbcelkhiopeaaB
import Derived.Maps.OwnSet
import Derived.Deep.AppendLies
namespace Go.Proofs.Ytjmbcelkhiopeaa
open Go.RowKit Go.Maps

/-- All blocks that are there and are not named by F hold what they held. -/
structure Keeps (F : Nat → Prop) (w w' : World) : Prop where
  os : w'.os = w.os
  tape : w'.tape = w.tape
  output : w'.output = w.output
  size : w.heap.size ≤ w'.heap.size
  block : ∀ k, k < w.heap.size → ¬ F k → w'.heap[k]? = w.heap[k]?

theorem Keeps.refl (F : Nat → Prop) (w : World) : Keeps F w w := ⟨rfl, rfl, rfl, Nat.le_refl _, fun _ _ _ => rfl⟩
theorem Keeps.trans {F : Nat → Prop} {a b c : World} (h : Keeps F a b) (k : Keeps F b c) : Keeps F a c :=
  ⟨k.os.trans h.os, k.tape.trans h.tape, k.output.trans h.output, Nat.le_trans h.size k.size, fun i hi hF => (k.block i (Nat.lt_of_lt_of_le hi h.size) hF).trans (h.block i hi hF)⟩
theorem Keeps.mono {F G : Nat → Prop} {a b : World} (h : Keeps F a b) (hFG : ∀ k, k < a.heap.size → F k → G k) : Keeps G a b :=
  ⟨h.os, h.tape, h.output, h.size, fun k hk hG => h.block k hk (fun hf => hG (hFG k hk hf))⟩
theorem Keeps.drew {F : Nat → Prop} {a b : World} (h : Keeps F a b) : Keeps F a b.drew := ⟨h.os, h.tape, h.output, h.size, h.block⟩
theorem Keeps.alloc {F : Nat → Prop} {a b : World} (h : Keeps F a b) (o : Obj) : Keeps F a (b.alloc o) :=
  h.trans ⟨rfl, rfl, rfl, by simp, fun k hk _ => Below.heap_alloc _ _ _ hk⟩
theorem Keeps.setCell {F : Nat → Prop} {a b : World} (h : Keeps F a b) {p : Addr} (hp : p.block < a.heap.size → F p.block) (u : Value) : Keeps F a (b.setCell p u) :=
  ⟨h.os, h.tape, h.output, by simpa using h.size, fun k hk hF => by
    have hne : k ≠ p.block := fun e => hF (by rw [e]; exact hp (by rw [← e]; exact hk))
    rw [Below.heap_setCell _ _ _ _ hne]; exact h.block k hk hF⟩
theorem Keeps.grown {F : Nat → Prop} {a b c : World} {row : Option Nat} (h : Keeps F a b) (hg : b.grownBy c row) (hr : ∀ k, row = some k → k < a.heap.size → F k) : Keeps F a c :=
  ⟨hg.os.trans h.os, hg.tape.trans h.tape, hg.output.trans h.output, Nat.le_trans h.size hg.size, fun k hk hF => by
    rw [hg.block k (Nat.lt_of_lt_of_le hk h.size) (fun e => hF (hr k e.symm hk))]; exact h.block k hk hF⟩
theorem Keeps.below {F : Nat → Prop} {a b : World} (h : Keeps F a b) {B : Nat} (hB : B ≤ a.heap.size) (hF : ∀ k, F k → B ≤ k) : Below B a b :=
  ⟨h.os, h.tape, h.output, h.size, fun k hk => h.block k (by omega) (fun f => by have := hF k f; omega)⟩
theorem Keeps.cell {F : Nat → Prop} {a b : World} (h : Keeps F a b) {k o : Nat} (hk : k < a.heap.size) (hF : ¬ F k) : b.cell? ⟨k, o, none⟩ = a.cell? ⟨k, o, none⟩ :=
  World.cell?_of_block (w := a) (h.block k hk hF)

theorem heap_setCell_at {w : World} {b o : Nat} {c : Array Value} {t : TypeId} {fr : Nat × Nat} (h : w.heap[b]? = some (.cells c t fr)) (v : Value) :
    (w.setCell ⟨b, o, none⟩ v).heap[b]? = some (.cells (c.setIfInBounds o v) t fr) := by
  simp [World.setCell, Array.getElem?_modify, h]

theorem lt_of_block {w : World} {b : Nat} {o : Obj} (h : w.heap[b]? = some o) : b < w.heap.size := (Array.getElem?_eq_some_iff.1 h).1

/-- One write that waits. -/
structure Wr where
  sec : Nat
  blk : Nat
  bytes : List Int

def lastAt (a : Nat) : List Wr → Option Nat
  | [] => none
  | x :: xs => match lastAt a xs with
    | some j => some (j + 1)
    | none => if x.sec = a then some 0 else none

theorem lastAt_snoc (a : Nat) (x : Wr) : ∀ ws : List Wr, lastAt a (ws ++ [x]) = if x.sec = a then some ws.length else lastAt a ws
  | [] => by simp [lastAt]
  | y :: ys => by
    simp only [List.cons_append, lastAt, lastAt_snoc a x ys]
    by_cases h : x.sec = a
    · simp [h]
    · simp [h]

theorem lastAt_some (a : Nat) : ∀ (ws : List Wr) (j : Nat), lastAt a ws = some j → ∃ x, ws[j]? = some x ∧ x.sec = a
  | [], j, h => by simp [lastAt] at h
  | y :: ys, j, h => by
    simp only [lastAt] at h
    cases hl : lastAt a ys with
    | some i =>
      rw [hl] at h
      simp at h
      subst h
      obtain ⟨x, hx, hs⟩ := lastAt_some a ys i hl
      exact ⟨x, by simpa using hx, hs⟩
    | none =>
      rw [hl] at h
      by_cases hy : y.sec = a
      · simp [hy] at h
        subst h
        exact ⟨y, rfl, hy⟩
      · simp [hy] at h

theorem lastAt_isSome (a : Nat) : ∀ ws : List Wr, (lastAt a ws).isSome = ws.any (fun x => decide (x.sec = a))
  | [] => rfl
  | y :: ys => by
    have ih := lastAt_isSome a ys
    simp only [lastAt, List.any_cons, ← ih]
    cases lastAt a ys with
    | some i => simp
    | none => by_cases h : y.sec = a <;> simp [h]

abbrev i64 {H : Type} (n : Int) : DataW H := .lit (.int .i64 n)

def Says (M : DataW Unit) (ws : List Wr) : Prop := ∀ a : Nat, Maps.has M (.int .i64 a) = (lastAt a ws).isSome ∧ ∀ j, lastAt a ws = some j → M.atKey (.int .i64 a) (i64 0) = i64 j

theorem isKey (a : Int) : WideAt.IsKeyLit (.int .i64 a) := trivial

theorem Says.put {M : DataW Unit} {ws : List Wr} (h : Says M ws) (hM : IsMap M) (x : Wr) : Says (M.put (.int .i64 x.sec) (i64 ws.length)) (ws ++ [x]) := by
  intro a
  rw [lastAt_snoc]
  by_cases e : x.sec = a
  · subst e
    simp only [if_true]
    refine ⟨by rw [has_put_same hM (isKey _)]; rfl, ?_⟩
    intro j hj
    rw [atKey_put_same hM (isKey _)]
    simp at hj
    rw [hj]
  · have hne : (Lit.int .i64 (a : Int)) ≠ .int .i64 (x.sec : Int) := by simp; omega
    rw [if_neg e, has_put_other hne]
    refine ⟨(h a).1, ?_⟩
    intro j hj
    rw [atKey_put_other hne]
    exact (h a).2 j hj

structure DS where
  D : Nat
  db : Nat
  mb : Nat
  mn : Nat
  secs : Nat
  size : Nat
  dur : List Int
  wv : Value
  ws : List Wr
  M : DataW Unit
  left : Int
  dead : Bool
  r : Int
  wr : Int
  f : Int

def wcells (size : Nat) (ws : List Wr) : List Value := ws.flatMap fun x => [.int .i64 x.sec, .slice (some ⟨x.blk, 0, none⟩) size size]

def DS.cells (S : DS) : Array Value := dcells S.secs S.size (.slice (some ⟨S.db, 0, none⟩) (S.secs * S.size) (S.secs * S.size)) S.wv S.mb S.left S.dead S.r S.wr S.f

structure DiskAt (w : World) (B : Nat) (S : DS) : Prop where
  blk : w.heap[S.D]? = some (.cells S.cells 89 (0, 0))
  dblk : w.heap[S.db]? = some (.cells (bs S.dur).toArray 5 (0, 0))
  dlen : S.dur.length = S.secs * S.size
  row : w.ownsRow B 60 2 S.wv S.ws.length (wcells S.size S.ws)
  each : ∀ x ∈ S.ws, x.bytes.length = S.size ∧ x.sec < S.secs ∧ w.heap[x.blk]? = some (.cells (bs x.bytes).toArray 5 (0, 0)) ∧ x.blk ≠ S.db
  map : w.ownsMap Try.prog 3 (plainElem Try.prog 3) S.mb S.mn S.M
  says : Says S.M S.ws
  lo : B ≤ S.D ∧ B ≤ S.db ∧ B ≤ S.mb
  secs1 : 1 ≤ S.secs
  secs2 : S.secs ≤ 16384
  size1 : 32 ≤ S.size
  size2 : S.size ≤ 1024

/-- The blocks that a disk may write. -/
def DS.own (S : DS) (k : Nat) : Prop := k = S.D ∨ k = S.db ∨ k = S.mb ∨ S.wv.ownBlock = some k

theorem DiskAt.own_lo {w : World} {B : Nat} {S : DS} (h : DiskAt w B S) : ∀ k, S.own k → B ≤ k := by
  intro k hk
  rcases hk with rfl | rfl | rfl | hk
  · exact h.lo.1
  · exact h.lo.2.1
  · exact h.lo.2.2
  · exact (h.row.lt k hk).1

theorem DiskAt.form {w : World} {B : Nat} {S : DS} (h : DiskAt w B S) : ∃ ao cap, S.wv = .slice ao S.ws.length cap := by
  rcases h.row.2 with ⟨hv, hn⟩ | ⟨g, cap, cur, hv, _⟩
  · exact ⟨none, 0, by rw [hn]; exact hv⟩
  · exact ⟨_, cap, hv⟩

/-- Another block's turning leaves the disk as it is. -/
theorem DiskAt.kept {w w' : World} {B : Nat} {S : DS} (h : DiskAt w B S) {F : Nat → Prop} (hk : Keeps F w w') (h1 : ∀ k, S.own k → ¬ F k) (h2 : ∀ x ∈ S.ws, ¬ F x.blk) : DiskAt w' B S where
  blk := by rw [hk.block _ (lt_of_block h.blk) (h1 _ (Or.inl rfl))]; exact h.blk
  dblk := by rw [hk.block _ (lt_of_block h.dblk) (h1 _ (Or.inr (Or.inl rfl)))]; exact h.dblk
  dlen := h.dlen
  row := by
    refine ⟨h.row.1, ?_⟩
    rcases h.row.2 with hn | ⟨g, cap, cur, hv, hb, hg, rest⟩
    · exact Or.inl hn
    · exact Or.inr ⟨g, cap, cur, hv, hb, by rw [hk.block _ (lt_of_block hg) (h1 _ (Or.inr (Or.inr (Or.inr (by rw [hv]; rfl)))))]; exact hg, rest⟩
  each := fun x hx => by
    obtain ⟨a, b, c, d⟩ := h.each x hx
    exact ⟨a, b, by rw [hk.block _ (lt_of_block c) (h2 x hx)]; exact c, d⟩
  map := by
    obtain ⟨es, clock, hb, r⟩ := h.map
    exact ⟨es, clock, by rw [hk.block _ (lt_of_block hb) (h1 _ (Or.inr (Or.inr (Or.inl rfl))))]; exact hb, r⟩
  says := h.says
  lo := h.lo
  secs1 := h.secs1
  secs2 := h.secs2
  size1 := h.size1
  size2 := h.size2

theorem cell_of_blk {w : World} {b : Nat} {c : Array Value} {t : TypeId} {fr : Nat × Nat} (h : w.heap[b]? = some (.cells c t fr)) (o : Nat) : w.cell? ⟨b, o, none⟩ = c[o]? := by
  simp [World.cell?, h]
theorem frozen_of_blk {w : World} {b : Nat} {c : Array Value} {t : TypeId} (h : w.heap[b]? = some (.cells c t (0, 0))) (o : Nat) : w.frozen? ⟨b, o, none⟩ = false := by
  simp [World.frozen?, h]

set_option maxRecDepth 100000 in
set_option maxHeartbeats 400000 in
theorem has_yes (D secs a : Nat) (w : World) (c0 : w.cell? ⟨D, 0, none⟩ = some (.int .i64 secs)) (h : a < secs) :
    Calls Try.prog 40 #[.pointer (some ⟨D, 0, none⟩), .int .i64 a] w fun e w' => e = .returned (.bool true) ∧ w' = w := by
  have h1 : (a : Int) < (secs : Int) := by omega
  go_enter Try.func40, Try.ntmps40
  go_wp2
  go_ret
  exact ⟨rfl, rfl⟩

set_option maxRecDepth 100000 in
set_option maxHeartbeats 400000 in
theorem has_no (D secs : Nat) (a : Int) (w : World) (c0 : w.cell? ⟨D, 0, none⟩ = some (.int .i64 secs)) (h : a < 0 ∨ (secs : Int) ≤ a) :
    Calls Try.prog 40 #[.pointer (some ⟨D, 0, none⟩), .int .i64 a] w fun e w' => e = .returned (.bool false) ∧ w' = w := by
  rcases h with h | h
  · go_enter Try.func40, Try.ntmps40
    go_wp2
    go_ret
    exact ⟨rfl, rfl⟩
  · by_cases h0 : a < 0
    · exact absurd h0 (by omega)
    · have hd : decide (a < (secs : Int)) = false := by simp; omega
      go_enter Try.func40, Try.ntmps40
      go_wp2
      go_ret
      exact ⟨rfl, rfl⟩

set_option maxRecDepth 100000 in
set_option maxHeartbeats 400000 in
theorem ready_ok (D : Nat) (w : World) (c6 : w.cell? ⟨D, 6, none⟩ = some (.bool false)) :
    Calls Try.prog 38 #[.pointer (some ⟨D, 0, none⟩)] w fun e w' => e = .returned (.int .i64 0) ∧ w' = w := by
  go_enter Try.func38, Try.ntmps38
  go_wp2
  go_ret
  exact ⟨rfl, rfl⟩

set_option maxRecDepth 100000 in
set_option maxHeartbeats 400000 in
theorem ready_dead (D : Nat) (w : World) (c6 : w.cell? ⟨D, 6, none⟩ = some (.bool true)) :
    Calls Try.prog 38 #[.pointer (some ⟨D, 0, none⟩)] w fun e w' => e = .returned (.int .i64 10) ∧ w' = w := by
  go_enter Try.func38, Try.ntmps38
  go_wp2
  go_ret
  exact ⟨rfl, rfl⟩

end Go.Proofs.Ytjmbcelkhiopeaa
