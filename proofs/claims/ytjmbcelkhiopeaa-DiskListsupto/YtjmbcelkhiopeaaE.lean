import Derived.Test.YtjmbcelkhiopeaaD
namespace Go.Proofs.Ytjmbcelkhiopeaa
open Go.RowKit Go.Maps
attribute [local go_sem ↓] Go.wp_at_zero Go.wp_at_succ

/-- l laid over L from place o on. -/
def put (L : List Int) (o : Nat) (l : List Int) : List Int := L.take o ++ l ++ L.drop (o + l.length)
theorem put_length (L : List Int) (o : Nat) (l : List Int) (h : o + l.length ≤ L.length) : (put L o l).length = L.length := by simp [put]; omega

theorem keeps_setRow (w : World) (g : Nat) (cs : Array Value) : Keeps (fun k => k = g) w (w.setRow g cs) :=
  ⟨rfl, rfl, rfl, by simp [World.setRow], fun k _ hk => setRow_other w g k cs hk⟩

set_option maxRecDepth 100000 in
set_option maxHeartbeats 1000000 in
theorem settle_any (w : World) (D db n o sec size g : Nat) (dur l : List Int) (hn : n ≤ 16777216) (hs1 : 32 ≤ size) (hs2 : size ≤ 1024) (ho : sec * size = o) (hon : o + size ≤ n)
    (c1 : w.cell? ⟨D, 1, none⟩ = some (.int .i64 size)) (c2 : w.cell? ⟨D, 2, none⟩ = some (.slice (some ⟨db, 0, none⟩) n n)) (hdb : w.heap[db]? = some (.cells (bs dur).toArray 5 (0, 0))) (hdl : dur.length = n)
    (hl : l.length = size) (hg : w.heap[g]? = some (.cells (bs l).toArray 5 (0, 0))) (hDdb : D ≠ db) :
    Calls Try.prog 39 #[.pointer (some ⟨D, 0, none⟩), .agg #[.int .i64 sec, .slice (some ⟨g, 0, none⟩) size size]] w fun e w' => e = .returned (.tuple #[]) ∧
      Keeps (fun k => k = db) w w' ∧ w'.heap[db]? = some (.cells (bs (put dur o l)).toArray 5 (0, 0)) := by
  have hmul : (sec : Int) * (size : Int) = (o : Int) := by rw [← Int.natCast_mul, ho]
  have hDlt : D < w.heap.size := World.block_lt_of_cell? w _ c1
  have hdblt := lt_of_block hdb
  have hglt := lt_of_block hg
  have hbne : g ≠ w.heap.size := by omega
  obtain ⟨w2, hcp, hw2⟩ : ∃ w2, (Builtin.copy_ #[32, 32] 3 #[.slice (some ⟨db, o, none⟩) (n - o) (n - o), .slice (some ⟨g, 0, none⟩) size size]).run Try.prog (w.alloc (.cells #[.int .i64 sec, .slice (some ⟨g, 0, none⟩) size size] 60)).drew = .ok (.int .i64 size) w2 ∧
      w2 = (w.alloc (.cells #[.int .i64 sec, .slice (some ⟨g, 0, none⟩) size size] 60)).drew.setRow db (bs (put dur o l)).toArray := by
    refine ⟨_, ?_, rfl⟩
    have hx := run_copy_row (P := Try.prog) (w.alloc (.cells #[.int .i64 sec, .slice (some ⟨g, 0, none⟩) size size] 60)).drew 32 32 3 5 db o (n - o) (n - o) ⟨g, 0, none⟩ size size (bs dur).toArray 5 (bs l) Try.underlying32 Try.size5
      (by show (w.alloc _).heap[db]? = _; rw [Below.heap_alloc _ _ _ hdblt]; exact hdb) (by rw [bs_length, hl]; exact (Nat.min_eq_left (by omega)).symm)
      (by
        intro j v hv
        rw [Addr.add_lit]
        show (w.alloc _).cell? ⟨g, 0 + j, none⟩ = _
        rw [World.cell?_alloc_past _ _ _ hglt, cell_of_blk hg]
        simpa using hv)
      (by simp [bs_length, hl, hdl]; omega) (bs_one l)
    rw [hx, bs_length, hl]
    have e : (bs dur).toArray.toList.take o ++ bs l ++ (bs dur).toArray.toList.drop (o + size) = bs (put dur o l) := by
      simp [bs, put, hl]
    rw [e]
    rfl
  have hk2 : Keeps (fun k => k = db) w w2 := by rw [hw2]; exact (((Keeps.refl _ _).alloc _).drew).trans (keeps_setRow _ _ _)
  have hd2 : w2.heap[db]? = some (.cells (bs (put dur o l)).toArray 5 (0, 0)) := by
    rw [hw2]
    exact setRow_heap _ db (bs dur).toArray _ 5 (0, 0) (by show (w.alloc _).heap[db]? = _; rw [Below.heap_alloc _ _ _ hdblt]; exact hdb)
  have k1 : w2.cell? ⟨D, 1, none⟩ = some (.int .i64 size) := by rw [hk2.cell hDlt hDdb]; exact c1
  have k2 : w2.cell? ⟨D, 2, none⟩ = some (.slice (some ⟨db, 0, none⟩) n n) := by rw [hk2.cell hDlt hDdb]; exact c2
  have hbox : w2.heap[w.heap.size]? = some (.cells #[.int .i64 sec, .slice (some ⟨g, 0, none⟩) size size] 60 (0, 0)) := by
    rw [hw2, setRow_other _ _ _ _ (by omega)]
    exact heap_alloc_new w _
  have k3 : w2.cell? ⟨w.heap.size, 0, none⟩ = some (.int .i64 sec) := by rw [cell_of_blk hbox]; rfl
  have k4 : w2.cell? ⟨w.heap.size, 1, none⟩ = some (.slice (some ⟨g, 0, none⟩) size size) := by rw [cell_of_blk hbox]; rfl
  have HK := hide hk2
  have HD := hide hd2
  have hne1 : (o : Int) < (n : Int) := by omega
  have hne0 : (0 : Int) ≤ (o : Int) := by omega
  have hwo : IntKind.i64.wrap (o : Int) = o := by rw [IntWalk.i64_left]; exact IntWalk.wrap64_in _ (by omega)
  have hle : (o : Int) ≤ (n : Int) := by omega
  have hno : ¬ n = o := by omega
  clear ho hdb hg hl hdl hw2 hk2 hd2 hbox
  go_enter Try.func39, Try.ntmps39
  go_wp2_with fail
  go_region_held3 (fun w' => w'.cell? ⟨D, 1, none⟩ = some (.int .i64 size) ∧ w'.cell? ⟨D, 2, none⟩ = some (.slice (some ⟨db, 0, none⟩) n n) ∧ w'.cell? ⟨w.heap.size, 0, none⟩ = some (.int .i64 sec) ∧ w'.cell? ⟨w.heap.size, 1, none⟩ = some (.slice (some ⟨g, 0, none⟩) size size))
    (go_keep)
    (fail)
  go_wp2
  go_end0
  exact ⟨rfl, unhide HK, unhide HD⟩


set_option maxRecDepth 100000 in
set_option maxHeartbeats 400000 in
theorem write_dead (D : Nat) (a : Int) (bv : Value) (w : World) (c6 : w.cell? ⟨D, 6, none⟩ = some (.bool true)) :
    Calls Try.prog 12 #[.pointer (some ⟨D, 0, none⟩), .int .i64 a, bv] w fun e w' => e = .returned (.int .i64 10) ∧ w' = w := by
  go_enter Try.func12, Try.ntmps12
  go_wp2_with (go_at_call 38; refine (ready_dead _ _ c6).mono ?_; rintro e w' ⟨rfl, rfl⟩)
  go_ret
  exact ⟨rfl, rfl⟩

set_option maxRecDepth 100000 in
set_option maxHeartbeats 400000 in
theorem write_sector (D secs : Nat) (a : Int) (bv : Value) (w : World) (c0 : w.cell? ⟨D, 0, none⟩ = some (.int .i64 secs)) (c6 : w.cell? ⟨D, 6, none⟩ = some (.bool false)) (h : a < 0 ∨ (secs : Int) ≤ a) :
    Calls Try.prog 12 #[.pointer (some ⟨D, 0, none⟩), .int .i64 a, bv] w fun e w' => e = .returned (.int .i64 11) ∧ w' = w := by
  have H := hide h
  clear h
  go_enter Try.func12, Try.ntmps12
  go_wp2_with fail
  refine (ready_ok _ _ c6).mono ?_; rintro e w' ⟨rfl, rfl⟩
  go_wp2_with fail
  refine (has_no _ _ _ _ c0 (unhide H)).mono ?_; rintro e w'' ⟨rfl, rfl⟩
  go_wp2
  go_ret
  exact ⟨rfl, rfl⟩

set_option maxRecDepth 100000 in
set_option maxHeartbeats 400000 in
theorem write_size (D secs size a n cap : Nat) (ao : Option Addr) (w : World) (c0 : w.cell? ⟨D, 0, none⟩ = some (.int .i64 secs)) (c1 : w.cell? ⟨D, 1, none⟩ = some (.int .i64 size)) (c6 : w.cell? ⟨D, 6, none⟩ = some (.bool false)) (h : a < secs) (hn : n ≠ size) :
    Calls Try.prog 12 #[.pointer (some ⟨D, 0, none⟩), .int .i64 a, .slice ao n cap] w fun e w' => e = .returned (.int .i64 12) ∧ w' = w := by
  have hne : ((n : Int) != (size : Int)) = true := by rw [bne_iff_ne]; omega
  go_enter Try.func12, Try.ntmps12
  go_wp2_with fail
  refine (ready_ok _ _ c6).mono ?_; rintro e w' ⟨rfl, rfl⟩
  go_wp2_with fail
  refine (has_yes _ _ _ _ c0 h).mono ?_; rintro e w'' ⟨rfl, rfl⟩
  go_wp2
  go_ret
  exact ⟨rfl, rfl⟩

end Go.Proofs.Ytjmbcelkhiopeaa
