import Derived.Test.YtjmbcelkhiopeaaF
namespace Go.Proofs.Ytjmbcelkhiopeaa
open Go.RowKit Go.Maps
attribute [local go_sem ↓] Go.wp_at_zero Go.wp_at_succ

/-- What a sector holds. -/
def DS.holdsAt (S : DS) (a : Nat) : List Int := match lastAt a S.ws with
  | some j => (S.ws[j]?.map Wr.bytes).getD []
  | none => (S.dur.drop (a * S.size)).take S.size

def DS.red (S : DS) : DS := { S with r := S.r + 1 }

/-- A store into the disk's own block. -/
theorem DiskAt.set {w w' : World} {B : Nat} {S S' : DS} (h : DiskAt w B S) (hk : Keeps (fun k => k = S.D) w w') (hD : w'.heap[S.D]? = some (.cells S'.cells 89 (0, 0)))
    (e1 : S'.D = S.D) (e2 : S'.db = S.db) (e3 : S'.mb = S.mb) (e4 : S'.mn = S.mn) (e5 : S'.secs = S.secs) (e6 : S'.size = S.size) (e7 : S'.dur = S.dur) (e8 : S'.wv = S.wv) (e9 : S'.ws = S.ws) (e10 : S'.M = S.M) : DiskAt w' B S' := by
  have hne : ∀ (b : Nat) (c : Array Value) (t : TypeId) (fr : Nat × Nat), w.heap[b]? = some (Obj.cells c t fr) → t ≠ 89 → w'.heap[b]? = some (.cells c t fr) := by
    intro b c t fr hb ht
    rw [hk.block b (lt_of_block hb) (fun e => by rw [e, h.blk] at hb; simp at hb; exact ht hb.2.1.symm)]; exact hb
  refine ⟨by rw [e1]; exact hD, by rw [e2, e7]; exact hne _ _ _ _ h.dblk (by decide), by rw [e7, e5, e6]; exact h.dlen, ?_, ?_, ?_, by rw [e10, e9]; exact h.says, by rw [e1, e2, e3]; exact h.lo, by rw [e5]; exact h.secs1, by rw [e5]; exact h.secs2, by rw [e6]; exact h.size1, by rw [e6]; exact h.size2⟩
  · rw [e8, e9, e6]
    refine ⟨h.row.1, ?_⟩
    rcases h.row.2 with hn | ⟨g, cap, cur, hv, hb, hg, rest⟩
    · exact Or.inl hn
    · exact Or.inr ⟨g, cap, cur, hv, hb, hne _ _ _ _ hg (by decide), rest⟩
  · intro x hx
    rw [e9] at hx
    obtain ⟨a, b, c, d⟩ := h.each x hx
    exact ⟨by rw [e6]; exact a, by rw [e5]; exact b, hne _ _ _ _ c (by decide), by rw [e2]; exact d⟩
  · rw [e3, e4, e10]
    obtain ⟨es, clock, hb, r⟩ := h.map
    refine ⟨es, clock, ?_, r⟩
    rw [hk.block _ (lt_of_block hb) (fun e => by rw [e, h.blk] at hb; cases hb)]; exact hb

theorem DiskAt.alloc {w : World} {B : Nat} {S : DS} (h : DiskAt w B S) (o : Obj) : DiskAt (w.alloc o) B S :=
  h.kept (F := fun _ => False) ((Keeps.refl _ _).alloc o) (fun _ _ => id) (fun _ _ => id)
theorem DiskAt.drew {w : World} {B : Nat} {S : DS} (h : DiskAt w B S) : DiskAt w.drew B S :=
  h.kept (F := fun _ => False) ((Keeps.refl _ _).drew) (fun _ _ => id) (fun _ _ => id)

theorem red_at {w : World} {B : Nat} {S : DS} (h : DiskAt w B S) : DiskAt (w.setCell ⟨S.D, 7, none⟩ (.int .i64 (S.r + 1))) B S.red :=
  h.set (kD _ _ _ _) (by rw [heap_setCell_at h.blk]; rfl) rfl rfl rfl rfl rfl rfl rfl rfl rfl rfl

theorem zero3 (w : World) : (zeroValue 3).run Try.prog w = .ok (.int .i64 0) w := by kernel_rfl

theorem look_at {w : World} {B : Nat} {S : DS} (h : DiskAt w B S) (a : Nat) (ha : a < S.secs) :
    ∃ c : Int, (Instr.lookup 87 (.map (some S.mb)) (.int .i64 a) true).run Try.prog w = .ok (.tuple #[.int .i64 c, .bool (lastAt a S.ws).isSome]) w ∧ ∀ j, lastAt a S.ws = some j → c = j := by
  have hkey := keyOf_int_mk Try.underlying3 (wf64 a (by have := h.secs2; omega))
  obtain ⟨v, ps, hrun, hv⟩ := h.map.look_ok law3 Try.underlying87 (zero3 w) (plainElem_int Try.underlying3 (a := 0) (by decide)) hkey
  obtain ⟨c, rfl, hc, _⟩ := plainElem_int_inv Try.underlying3 hv
  refine ⟨c, by rw [hrun, (h.says a).1], ?_⟩
  intro j hj
  have e := (h.says a).2 j hj
  simp only [Prod.mk.injEq] at hc
  rw [e] at hc
  simpa [i64] using hc.1.symm

set_option maxRecDepth 100000 in
set_option maxHeartbeats 1000000 in
theorem read_wait (w : World) (B : Nat) (S : DS) (h : DiskAt w B S) (a j : Nat) (ha : a < S.secs) (hdead : S.dead = false) (hr1 : 0 ≤ S.r) (hr2 : S.r ≤ 2147483647) (hj : lastAt a S.ws = some j) :
    Calls Try.prog 14 #[.pointer (some ⟨S.D, 0, none⟩), .int .i64 a] w fun e w' => e = .returned (.tuple #[.slice (some ⟨w.heap.size, 0, none⟩) S.size S.size, .int .i64 0]) ∧
      w' = (w.setCell ⟨S.D, 7, none⟩ (.int .i64 (S.r + 1))).alloc (.cells (bs (S.holdsAt a)).toArray 5) := by
  obtain ⟨x, hx, hxs⟩ := lastAt_some _ _ _ hj
  have hh : S.holdsAt a = x.bytes := by simp [DS.holdsAt, hj, hx]
  have h1 := red_at h
  obtain ⟨c, hrun, hcj⟩ := look_at h1 a ha
  have hcj' := hcj j hj
  subst hcj'
  have hsome : (lastAt a S.red.ws).isSome = true := by show (lastAt a S.ws).isSome = true; rw [hj]; rfl
  rw [hsome] at hrun
  have hrun' : (Instr.lookup 87 (.map (some S.mb)) (.int .i64 a) true).run Try.prog (w.setCell ⟨S.D, 7, none⟩ (.int .i64 (S.r + 1))) = .ok (.tuple #[.int .i64 j, .bool true]) (w.setCell ⟨S.D, 7, none⟩ (.int .i64 (S.r + 1))) := hrun
  obtain ⟨g, cap, hv, hg0, hg1, hg2, hg3, q1, q2⟩ := h.wcell hx
  have hjl : j < S.ws.length := (List.getElem?_eq_some_iff.1 hx).1
  obtain ⟨x1, x2, x3, x4⟩ := h.each x (List.mem_of_getElem? hx)
  have hxD : x.blk ≠ S.D := by intro e; rw [e, h.blk] at x3; simp at x3
  have c0 : w.cell? ⟨S.D, 0, none⟩ = some (.int .i64 S.secs) := by rw [cell_of_blk h.blk]; rfl
  have c3 : w.cell? ⟨S.D, 3, none⟩ = some (.slice (some ⟨g, 0, none⟩) S.ws.length cap) := by rw [cell_of_blk h.blk, ← hv]; rfl
  have c4 : w.cell? ⟨S.D, 4, none⟩ = some (.map (some S.mb)) := by rw [cell_of_blk h.blk]; rfl
  have c6 : w.cell? ⟨S.D, 6, none⟩ = some (.bool false) := by rw [cell_of_blk h.blk, ← hdead]; rfl
  have c7 : w.cell? ⟨S.D, 7, none⟩ = some (.int .i64 S.r) := by rw [cell_of_blk h.blk]; rfl
  have f7 := frozen_of_blk h.blk 7
  have hcp := copied_any x.blk 0 S.size S.size x.bytes (w.setCell ⟨S.D, 7, none⟩ (.int .i64 (S.r + 1))) x1 (by simpa using lt_of_block x3) (by have := h.size2; omega)
    (fun j y hy => by
      rw [(kD w S.D 7 (.int .i64 (S.r + 1))).cell (lt_of_block x3) hxD, cell_of_blk x3]
      simp [bs, hy])
  rw [World.size_setCell] at hcp
  have HCP := hide hcp
  have HH := hide hh
  clear hrun hcj hx hxs hj hsome h1 hcp x1 x2 x3 hh
  go_enter Try.func14, Try.ntmps14
  go_wp2_with fail
  refine (ready_ok _ _ c6).mono ?_; rintro e w' ⟨rfl, rfl⟩
  go_wp2_with fail
  refine (has_yes _ _ _ _ c0 ha).mono ?_; rintro e w'' ⟨rfl, rfl⟩
  go_wp2_with fail
  refine (unhide HCP).mono ?_; rintro e w3 ⟨rfl, rfl⟩
  go_wp2
  go_ret2
  exact ⟨rfl, by rw [unhide HH]⟩


set_option maxRecDepth 100000 in
set_option maxHeartbeats 1000000 in
theorem read_dur (w : World) (B : Nat) (S : DS) (h : DiskAt w B S) (a : Nat) (ha : a < S.secs) (hdead : S.dead = false) (hr1 : 0 ≤ S.r) (hr2 : S.r ≤ 2147483647) (hj : lastAt a S.ws = none) :
    Calls Try.prog 14 #[.pointer (some ⟨S.D, 0, none⟩), .int .i64 a] w fun e w' => e = .returned (.tuple #[.slice (some ⟨w.heap.size, 0, none⟩) S.size S.size, .int .i64 0]) ∧
      w' = ((w.setCell ⟨S.D, 7, none⟩ (.int .i64 (S.r + 1))).alloc (.cells (bs (S.holdsAt a)).toArray 5)).drew := by
  obtain ⟨o, ho⟩ : ∃ o, a * S.size = o := ⟨_, rfl⟩
  obtain ⟨n, hn⟩ : ∃ n, S.secs * S.size = n := ⟨_, rfl⟩
  have hfit : o + S.size ≤ n := by rw [← ho, ← hn]; exact sec_fits ha
  have hnn : n ≤ 16777216 := by rw [← hn]; exact Nat.le_trans (Nat.mul_le_mul h.secs2 h.size2) (by decide)
  have hh : S.holdsAt a = (S.dur.drop o).take S.size := by simp [DS.holdsAt, hj, ho]
  have h1 := red_at h
  obtain ⟨c, hrun, hcj⟩ := look_at h1 a ha
  have hsome : (lastAt a S.red.ws).isSome = false := by show (lastAt a S.ws).isSome = false; rw [hj]; rfl
  rw [hsome] at hrun
  have hrun' : (Instr.lookup 87 (.map (some S.mb)) (.int .i64 a) true).run Try.prog (w.setCell ⟨S.D, 7, none⟩ (.int .i64 (S.r + 1))) = .ok (.tuple #[.int .i64 c, .bool false]) (w.setCell ⟨S.D, 7, none⟩ (.int .i64 (S.r + 1))) := hrun
  have c0 : w.cell? ⟨S.D, 0, none⟩ = some (.int .i64 S.secs) := by rw [cell_of_blk h.blk]; rfl
  have c1 : w.cell? ⟨S.D, 1, none⟩ = some (.int .i64 S.size) := by rw [cell_of_blk h.blk]; rfl
  have c2 : w.cell? ⟨S.D, 2, none⟩ = some (.slice (some ⟨S.db, 0, none⟩) n n) := by rw [cell_of_blk h.blk, ← hn]; rfl
  have c4 : w.cell? ⟨S.D, 4, none⟩ = some (.map (some S.mb)) := by rw [cell_of_blk h.blk]; rfl
  have c6 : w.cell? ⟨S.D, 6, none⟩ = some (.bool false) := by rw [cell_of_blk h.blk, ← hdead]; rfl
  have c7 : w.cell? ⟨S.D, 7, none⟩ = some (.int .i64 S.r) := by rw [cell_of_blk h.blk]; rfl
  have f7 := frozen_of_blk h.blk 7
  have hdD : S.db ≠ S.D := by intro e; have := h.blk; rw [← e, h.dblk] at this; simp at this
  have hdl : S.dur.length = n := by rw [h.dlen, hn]
  have hcp := copied_any S.db o S.size (n - o) ((S.dur.drop o).take S.size) (w.setCell ⟨S.D, 7, none⟩ (.int .i64 (S.r + 1))).drew (by simp; omega) (by simpa using lt_of_block h.dblk) (by have := h.size2; omega)
    (fun j y hy => by
      show (w.setCell ⟨S.D, 7, none⟩ (.int .i64 (S.r + 1))).cell? _ = _
      rw [(kD w S.D 7 (.int .i64 (S.r + 1))).cell (lt_of_block h.dblk) hdD, cell_of_blk h.dblk]
      simp only [List.getElem?_take, List.getElem?_drop] at hy
      split at hy
      · simp [bs, hy]
      · cases hy)
  have k1 : (w.setCell ⟨S.D, 7, none⟩ (.int .i64 (S.r + 1))).cell? ⟨S.D, 1, none⟩ = some (.int .i64 S.size) := by rw [cell_of_blk (heap_setCell_at h.blk _)]; rfl
  have k2 : (w.setCell ⟨S.D, 7, none⟩ (.int .i64 (S.r + 1))).cell? ⟨S.D, 2, none⟩ = some (.slice (some ⟨S.db, 0, none⟩) n n) := by rw [cell_of_blk (heap_setCell_at h.blk _), ← hn]; rfl
  have hDl := lt_of_block h.blk
  have HCP := hide hcp
  have HH := hide hh
  have hsz := h.size1
  have hsz2 := h.size2
  have hsec := h.secs2
  have hm1 : (a : Int) * (S.size : Int) = (o : Int) := by rw [← Int.natCast_mul, ho]
  have hm2 : ((a : Int) + 1) * (S.size : Int) = (o : Int) + (S.size : Int) := by rw [Int.add_mul, hm1]; omega
  have wa : IntKind.i64.wrap ((a : Int) + 1) = (a : Int) + 1 := by rw [IntWalk.i64_left]; exact IntWalk.wrap64_in _ (by omega)
  have wo : IntKind.i64.wrap (o : Int) = (o : Int) := by rw [IntWalk.i64_left]; exact IntWalk.wrap64_in _ (by omega)
  have wp : IntKind.i64.wrap ((o : Int) + (S.size : Int)) = (o : Int) + (S.size : Int) := by rw [IntWalk.i64_left]; exact IntWalk.wrap64_in _ (by omega)
  have l1 : (0 : Int) ≤ (o : Int) := by omega
  have l2 : (o : Int) ≤ (o : Int) + (S.size : Int) := by omega
  have l3 : (o : Int) + (S.size : Int) ≤ (n : Int) := by omega
  have l4 : ¬ n = o := by omega
  have HQ := hide (show ((o : Int) + (S.size : Int)).toNat - o = S.size by omega)
  clear hcj hrun hsome h1 hcp hh h ho hn hj hdl
  go_enter Try.func14, Try.ntmps14
  go_wp2_with fail
  refine (ready_ok _ _ c6).mono ?_; rintro e w' ⟨rfl, rfl⟩
  go_wp2_with fail
  refine (has_yes _ _ _ _ c0 ha).mono ?_; rintro e w'' ⟨rfl, rfl⟩
  go_wp2_with fail
  go_region_held3 (fun w' => w'.cell? ⟨S.D, 1, none⟩ = some (.int .i64 S.size) ∧ w'.cell? ⟨S.D, 2, none⟩ = some (.slice (some ⟨S.db, 0, none⟩) n n))
    (go_keep)
    (first
      | (go_at_call 41; rw [unhide HQ]; refine (unhide HCP).mono ?_; rintro e w3 ⟨rfl, rfl⟩))
  go_wp2
  go_ret2
  exact ⟨rfl, by rw [unhide HH]⟩


theorem read_ok (w : World) (B : Nat) (S : DS) (h : DiskAt w B S) (a : Nat) (ha : a < S.secs) (hdead : S.dead = false) (hr1 : 0 ≤ S.r) (hr2 : S.r ≤ 2147483647) :
    Calls Try.prog 14 #[.pointer (some ⟨S.D, 0, none⟩), .int .i64 a] w fun e w' => e = .returned (.tuple #[.slice (some ⟨w.heap.size, 0, none⟩) S.size S.size, .int .i64 0]) ∧
      DiskAt w' B S.red ∧ Keeps (fun k => k = S.D) w w' ∧ w'.heap[w.heap.size]? = some (.cells (bs (S.holdsAt a)).toArray 5 (0, 0)) := by
  have hnew : ((w.setCell ⟨S.D, 7, none⟩ (.int .i64 (S.r + 1))).alloc (.cells (bs (S.holdsAt a)).toArray 5)).heap[w.heap.size]? = some (.cells (bs (S.holdsAt a)).toArray 5 (0, 0)) := by
    have := heap_alloc_new (w.setCell ⟨S.D, 7, none⟩ (.int .i64 (S.r + 1))) (.cells (bs (S.holdsAt a)).toArray 5)
    rwa [World.size_setCell] at this
  cases hj : lastAt a S.ws with
  | some j =>
    refine (read_wait w B S h a j ha hdead hr1 hr2 hj).mono ?_
    rintro e w' ⟨rfl, rfl⟩
    exact ⟨rfl, (red_at h).alloc _, (kD _ _ _ _).alloc _, hnew⟩
  | none =>
    refine (read_dur w B S h a ha hdead hr1 hr2 hj).mono ?_
    rintro e w' ⟨rfl, rfl⟩
    exact ⟨rfl, ((red_at h).alloc _).drew, ((kD _ _ _ _).alloc _).drew, hnew⟩

set_option maxRecDepth 100000 in
set_option maxHeartbeats 400000 in
theorem read_sector (D secs : Nat) (a : Int) (w : World) (c0 : w.cell? ⟨D, 0, none⟩ = some (.int .i64 secs)) (c6 : w.cell? ⟨D, 6, none⟩ = some (.bool false)) (h : a < 0 ∨ (secs : Int) ≤ a) :
    Calls Try.prog 14 #[.pointer (some ⟨D, 0, none⟩), .int .i64 a] w fun e w' => e = .returned (.tuple #[.slice none 0 0, .int .i64 11]) ∧ w' = w := by
  have H := hide h
  clear h
  go_enter Try.func14, Try.ntmps14
  go_wp2_with fail
  refine (ready_ok _ _ c6).mono ?_; rintro e w' ⟨rfl, rfl⟩
  go_wp2_with fail
  refine (has_no _ _ _ _ c0 (unhide H)).mono ?_; rintro e w'' ⟨rfl, rfl⟩
  go_wp2
  go_ret2
  exact ⟨rfl, rfl⟩

set_option maxRecDepth 100000 in
set_option maxHeartbeats 400000 in
theorem read_dead (D : Nat) (a : Int) (w : World) (c6 : w.cell? ⟨D, 6, none⟩ = some (.bool true)) :
    Calls Try.prog 14 #[.pointer (some ⟨D, 0, none⟩), .int .i64 a] w fun e w' => e = .returned (.tuple #[.slice none 0 0, .int .i64 10]) ∧ w' = w := by
  go_enter Try.func14, Try.ntmps14
  go_wp2_with (go_at_call 38; refine (ready_dead _ _ c6).mono ?_; rintro e w' ⟨rfl, rfl⟩)
  go_ret2
  exact ⟨rfl, rfl⟩

end Go.Proofs.Ytjmbcelkhiopeaa
