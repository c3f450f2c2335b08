import Derived.Test.YtjmbcelkhiopeaaI
namespace Go.Proofs.Ytjmbcelkhiopeaa
open Go.RowKit Go.Maps

theorem reads_of_blk {w : World} {b : Nat} {l : List Int} {t : TypeId} {fr : Nat × Nat} (h : w.heap[b]? = some (.cells (bs l).toArray t fr)) {n : Nat} (hn : l.length = n) (cap : Nat) : Reads w (.slice (some ⟨b, 0, none⟩) n cap) l := by
  subst hn
  refine ⟨⟨_, _, rfl⟩, fun _ => ⟨b, 0, cap, rfl, fun j x hx => ?_⟩⟩
  rw [cell_of_blk h]
  simp [bs, hx]

theorem reads_of_row {w : World} {base n : Nat} {v : Value} {l : List Int} (h : w.ownsRow base 5 1 v n (bs l)) : Reads w v l := by
  have hl : l.length = n := by have := h.1; rw [bs_length] at this; omega
  subst hl
  rcases h.2 with ⟨rfl, hn⟩ | ⟨g, cap, cur, rfl, hb, hg, _, _, _, ht⟩
  · exact ⟨⟨_, _, by rw [hn]⟩, fun h0 => by omega⟩
  · refine ⟨⟨_, _, rfl⟩, fun _ => ⟨g, 0, cap, rfl, fun j x hx => ?_⟩⟩
    have := h.cells (g := g) rfl j (.int .u8 x) (by rw [bs_get, hx]; rfl)
    rwa [Addr.add_lit] at this

theorem Reads.kept {w w' : World} {v : Value} {l : List Int} (h : Reads w v l) (hk : ∀ b o x, w.cell? ⟨b, o, none⟩ = some x → (∃ n cap off, v = .slice (some ⟨b, off, none⟩) n cap) → w'.cell? ⟨b, o, none⟩ = some x) : Reads w' v l := by
  refine ⟨h.form, fun h0 => ?_⟩
  obtain ⟨b, off, cap, e, hc⟩ := h.cells h0
  exact ⟨b, off, cap, e, fun j x hx => hk _ _ _ (hc j x hx) ⟨_, _, _, e⟩⟩

theorem holdsAt_length {w : World} {B : Nat} {S : DS} (h : DiskAt w B S) (a : Nat) (ha : a < S.secs) : (S.holdsAt a).length = S.size := by
  rw [holdsAt_eq]
  cases hl : lastAt a S.ws with
  | none =>
    have := sec_fits (size := S.size) ha
    have := h.dlen
    simp [secOf]; omega
  | some j =>
    obtain ⟨y, hy, _⟩ := lastAt_some a S.ws j hl
    simp [hy]
    exact (h.each y (List.mem_of_getElem? hy)).1

set_option maxRecDepth 100000 in
set_option maxHeartbeats 1000000 in
theorem holds_text (w : World) (B : Nat) (S : DS) (h : DiskAt w B S) (a : Nat) (ha : a < S.secs) (hdead : S.dead = false) (hr1 : 0 ≤ S.r) (hr2 : S.r ≤ 2147483647)
    (v : Value) (acts : List Pt) (hA : Acts w v acts) (i : Nat) (p : Pt) (hp : acts[i]? = some p) (hDA : ∀ b off n cap, v = .slice (some ⟨b, off, none⟩) n cap → b ≠ S.D) :
    Calls Try.prog 15 #[.pointer (some ⟨S.D, 0, none⟩), .int .i64 a, v, .int .i64 i, .int .i64 S.size] w fun e w' => e = .returned (.bool (decide (S.holdsAt a = textL p.b S.size))) ∧ DiskAt w' B S.red ∧ Keeps (fun k => k = S.D) w w' := by
  have hil : i < acts.length := (List.getElem?_eq_some_iff.1 hp).1
  obtain ⟨b, off, cap, rfl, hblt, hc⟩ := hA.cells (by omega)
  have hbD := hDA b off _ cap rfl
  obtain ⟨_, _, c2⟩ := hc i p hp
  have i0 : (0 : Int) ≤ (i : Int) := by omega
  have i1 : (i : Int) < (acts.length : Int) := by omega
  have HR := hide (read_ok w B S h a ha hdead hr1 hr2)
  have hlen := holdsAt_length h a ha
  have hsz := h.size2
  have hsz1 := h.size1
  clear hc hA hp h hDA
  go_enter Try.func15, Try.ntmps15
  go_wp2_with fail
  refine (unhide HR).mono ?_
  rintro e w1 ⟨rfl, h1, hk1, hb1⟩
  have d2 := (hk1.cell (o := off + i * 3 + 2) hblt hbD).trans c2
  have HH1 := hide h1
  have HK1 := hide hk1
  have HB1 := hide hb1
  clear h1 hk1 hb1
  go_wp2_with fail
  refine (text_any p.b S.size w1 hsz).mono ?_
  rintro e w2 ⟨tv, rfl, ht, hk2⟩
  have hk2' : Keeps (fun k => k = S.D) w w2 := (unhide HK1).trans (hk2.mono (fun _ _ f => f.elim))
  have hd2 : DiskAt w2 B S.red := (unhide HH1).kept hk2 (fun _ _ => id) (fun _ _ => id)
  have HD2 := hide hd2
  have HK2 := hide hk2'
  have hra : Reads w2 (.slice (some ⟨w.heap.size, 0, none⟩) S.size S.size) (S.holdsAt a) := reads_of_blk (by rw [hk2.block _ (lt_of_block (unhide HB1)) id]; exact unhide HB1) hlen _
  have hrb := reads_of_row ht
  have HE := hide (eqBytes_any w2 _ _ _ _ hra hrb (by rw [hlen]; unfold maxLen; omega))
  clear hra hrb hd2 hk2' ht hk2
  go_wp2_with fail
  refine (unhide HE).mono ?_
  rintro e w3 ⟨rfl, n, rfl⟩
  go_wp2
  go_ret
  exact ⟨rfl, (unhide HD2).kept (F := fun _ => False) ⟨rfl, rfl, rfl, Nat.le_refl _, fun _ _ _ => rfl⟩ (fun _ _ => id) (fun _ _ => id), (unhide HK2).trans ⟨rfl, rfl, rfl, Nat.le_refl _, fun _ _ _ => rfl⟩⟩


set_option maxRecDepth 100000 in
set_option maxHeartbeats 1000000 in
theorem holds_zero (w : World) (B : Nat) (S : DS) (h : DiskAt w B S) (a : Nat) (ha : a < S.secs) (hdead : S.dead = false) (hr1 : 0 ≤ S.r) (hr2 : S.r ≤ 2147483647) (v : Value) :
    Calls Try.prog 15 #[.pointer (some ⟨S.D, 0, none⟩), .int .i64 a, v, .int .i64 (-1), .int .i64 S.size] w fun e w' => e = .returned (.bool (decide (S.holdsAt a = List.replicate S.size 0))) ∧ DiskAt w' B S.red ∧ Keeps (fun k => k = S.D) w w' := by
  obtain ⟨i0, hi, hz0, hz1, hz2⟩ := info_parts Try.info5
  have HR := hide (read_ok w B S h a ha hdead hr1 hr2)
  have hlen := holdsAt_length h a ha
  have hsz := h.size2
  clear h
  go_enter Try.func15, Try.ntmps15
  go_wp2_with fail
  refine (unhide HR).mono ?_
  rintro e w1 ⟨rfl, h1, hk1, hb1⟩
  have HH1 := hide h1
  have HK1 := hide hk1
  have HB1 := hide hb1
  clear h1 hk1 hb1
  go_wp2_with fail
  go_loopw [13, 14] (fun l i wr => ∃ k : Nat, k ≤ S.size ∧ i = .int .i64 k ∧ wr.ownsRow w1.heap.size 5 1 l k (bs (List.replicate k 0)) ∧ Keeps (fun _ => False) w1 wr) (fun _ i _ => S.size - (intOf i).toNat)
  case atStart => exact ⟨0, Nat.zero_le _, rfl, by simpa [bs] using World.ownsRow_nil w1 w1.heap.size 5 1, Keeps.refl _ _⟩
  case round =>
    obtain ⟨k, hk, rfl, hown, hkeep⟩ := hrel
    have HO := hide hown
    have HK := hide hkeep
    clear hown hkeep
    by_cases hlt : k < S.size
    · go_wp2_with (at_builtin; refine wpList_append_lies _ rfl _ _ _ rfl w1.heap.size 5 i0 _ 1 1 Try.underlying32 hi hz0 hz1 hz2 rfl (by omega) u13 k (bs (List.replicate k 0)) rfl ((unhide HO).alloc _) ⟨wr.heap.size, 0, none⟩ 1 1 [.int .u8 0] rfl rfl (World.news_of_block (cs := #[.int .u8 0]) (t := 5) (fr := (0, 0)) (heap_alloc_new wr _)) (by simp [Value.oneCell']) (by omega) (by unfold maxLen; omega) (by omega) (by have := (unhide HK).size; simp; omega) (wr.heap.size + 1) (by simp) ?_; intro g cap w2 hown1 hgrow hat hlt1)
      go_roundw
      case rel =>
        refine ⟨k + 1, by omega, by go_num, ?_, ((unhide HK).alloc _).grown hgrow (fun q e hq => by have := ((unhide HO).lt q e).1; omega)⟩
        rw [List.replicate_succ']
        simpa [bs] using hown1
      case measure => simp [intOf]; omega
    · obtain rfl : k = S.size := by omega
      have hk2 := unhide HK
      have hk2' : Keeps (fun k => k = S.D) w wr := (unhide HK1).trans (hk2.mono (fun _ _ f => f.elim))
      have hd2 : DiskAt wr B S.red := (unhide HH1).kept hk2 (fun _ _ => id) (fun _ _ => id)
      have HD2 := hide hd2
      have HK2 := hide hk2'
      have hra : Reads wr (.slice (some ⟨w.heap.size, 0, none⟩) S.size S.size) (S.holdsAt a) := reads_of_blk (by rw [hk2.block _ (lt_of_block (unhide HB1)) id]; exact unhide HB1) hlen _
      have hrb := reads_of_row (unhide HO)
      have HE := hide (eqBytes_any wr _ _ _ _ hra hrb (by rw [hlen]; unfold maxLen; omega))
      clear hra hrb hd2 hk2' hk2
      go_wp2_with fail
      refine (unhide HE).mono ?_
      rintro e w3 ⟨rfl, n, rfl⟩
      go_wp2
      go_ret
      exact ⟨rfl, (unhide HD2).kept (F := fun _ => False) ⟨rfl, rfl, rfl, Nat.le_refl _, fun _ _ _ => rfl⟩ (fun _ _ => id) (fun _ _ => id), (unhide HK2).trans ⟨rfl, rfl, rfl, Nat.le_refl _, fun _ _ _ => rfl⟩⟩

/-- A new disk. -/
def newDS (N n s : Nat) : DS := ⟨N + 2, N, N + 1, 0, n, s, List.replicate (n * s) 0, .slice none 0 0, [], .map [], -1, false, 0, 0, 0⟩

theorem new_at (w : World) (n s : Nat) (h1 : 1 ≤ n) (h2 : n ≤ 16384) (h3 : 32 ≤ s) (h4 : s ≤ 1024) :
    DiskAt (((w.alloc (.cells (bs (List.replicate (n * s) 0)).toArray 5)).alloc (.map #[] 0)).alloc (.cells (dcells n s (.slice (some ⟨w.heap.size, 0, none⟩) (n * s) (n * s)) (.slice none 0 0) (w.heap.size + 1) (-1) false 0 0 0) 89)) w.heap.size (newDS w.heap.size n s) := by
  refine ⟨?_, ?_, by simp [newDS], World.ownsRow_nil _ _ _ _, fun x hx => (by cases hx), ?_, ?_, by simp [newDS], h1, h2, h3, h4⟩
  · have := heap_alloc_new ((w.alloc (.cells (bs (List.replicate (n * s) 0)).toArray 5)).alloc (.map #[] 0)) (.cells (dcells n s (.slice (some ⟨w.heap.size, 0, none⟩) (n * s) (n * s)) (.slice none 0 0) (w.heap.size + 1) (-1) false 0 0 0) 89)
    rw [World.size_alloc, World.size_alloc] at this
    exact this
  · show ((World.alloc _ _)).heap[w.heap.size]? = _
    rw [Below.heap_alloc _ _ _ (by simp; omega), Below.heap_alloc _ _ _ (by simp)]
    exact heap_alloc_new w _
  · have h := World.ownsMap_made (H := Unit) (w.alloc (.cells (bs (List.replicate (n * s) 0)).toArray 5)) Try.prog 3 (plainElem Try.prog 3)
    obtain ⟨es, clock, hb, r⟩ := h
    refine ⟨es, clock, ?_, r⟩
    rw [World.size_alloc] at hb
    show ((World.alloc _ _)).heap[w.heap.size + 1]? = _
    rw [Below.heap_alloc _ _ _ (by simp), hb]
  · intro a
    exact ⟨rfl, fun j hj => (by cases hj)⟩

set_option maxRecDepth 100000 in
set_option maxHeartbeats 1000000 in
theorem made_yes (n s : Nat) (w : World) (h1 : 1 ≤ n) (h2 : n ≤ 16384) (h3 : 32 ≤ s) (h4 : s ≤ 1024) :
    Calls Try.prog 9 #[.int .i64 n, .int .i64 s] w fun e w' => e = .returned (.tuple #[.pointer (some ⟨w.heap.size + 2, 0, none⟩), .bool true]) ∧ DiskAt w' w.heap.size (newDS w.heap.size n s) ∧ Keeps (fun _ => False) w w' := by
  have HN := hide (new_yes n s w h1 h2 h3 h4)
  have HD := hide (new_at w n s h1 h2 h3 h4)
  generalize (bs (List.replicate (n * s) 0)).toArray = Z at HN HD
  generalize dcells n s _ _ _ _ _ _ _ _ = C at HN HD
  go_enter Try.func9, Try.ntmps9
  go_wp2_with fail
  refine (unhide HN).mono ?_
  rintro e w1 ⟨rfl, rfl⟩
  go_wp2_with fail
  refine (valid_yes _ _ _ (by omega) (by omega) (by omega) (by omega)).mono ?_
  rintro e w1 ⟨rfl, rfl⟩
  go_wp2
  go_ret2
  exact ⟨rfl, unhide HD, (((Keeps.refl _ _).alloc _).alloc _).alloc _⟩

set_option maxRecDepth 100000 in
set_option maxHeartbeats 1000000 in
theorem made_no (n s : Int) (w : World) (h : ¬ (1 ≤ n ∧ n ≤ 16384 ∧ 32 ≤ s ∧ s ≤ 1024)) :
    Calls Try.prog 9 #[.int .i64 n, .int .i64 s] w fun e w' => e = .returned (.tuple #[.pointer none, .bool true]) ∧ w' = w := by
  have HN := hide h
  clear h
  go_enter Try.func9, Try.ntmps9
  go_wp2_with fail
  refine (new_no _ _ _ (unhide HN)).mono ?_
  rintro e w1 ⟨rfl, rfl⟩
  go_wp2_with fail
  refine (valid_no _ _ _ (unhide HN)).mono ?_
  rintro e w1 ⟨rfl, rfl⟩
  go_wp2
  go_ret2
  exact ⟨rfl, rfl⟩

end Go.Proofs.Ytjmbcelkhiopeaa
