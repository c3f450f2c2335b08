import Derived.Test.YtjmbcelkhiopeaaU
import Derived.Test.YtjmbcelkhiopeaaR
namespace Go.Proofs.Ytjmbcelkhiopeaa
open Go.RowKit Go.Maps

theorem runA_unarmed (n s : Nat) (acts : List Pt) : ∀ (A : AS), A.left = -1 → A.dead = false → (runA n s A acts).left = -1 ∧ (runA n s A acts).dead = false := by
  induction acts with
  | nil => intro A h1 h2; exact ⟨h1, h2⟩
  | cons p ps ih =>
    intro A h1 h2
    refine ih _ ?_ ?_
    · unfold stepA
      split
      · exact h1
      · split
        · simp [h1]
        · exact h1
    · unfold stepA
      split
      · exact h2
      · split
        · simp [h1]
        · exact h2

theorem armed_new (N n s : Nat) : (newDS N n s).armed (-1) = newDS N n s := by simp [DS.armed, newDS]

/-- Unarmed acts go to their end. -/
theorem played_free (w w1 : World) (n s : Nat) (v : Value) (acts : List Pt) (hA : Acts w v acts) (hlen : acts.length ≤ 2147483647) (hd : DiskAt w1 w.heap.size (newDS w.heap.size n s)) (hb : Below w.heap.size w w1) (h4 : s ≤ 1024) (h3 : 32 ≤ s) :
    Calls Try.prog 17 #[.pointer (some ⟨w.heap.size + 2, 0, none⟩), v, .int .i64 (-1), .int .i64 n, .int .i64 s] w1 fun e w' => e = .returned (.tuple #[.int .i64 acts.length, .bool true]) ∧ ∃ S : DS, PInv w (w.heap.size + 2) 0 (newDS w.heap.size n s).view acts n s acts.length S w' ∧ S.dead = false ∧ S.left = -1 := by
  have h := played_start acts (x := -1) (by omega) (by rw [armed_new]; exact hd) hb
  rw [armed_new] at h
  refine (played_any w w1 (w.heap.size + 2) n s 0 _ v acts (-1) _ hA hlen h rfl rfl h4 h3).mono ?_
  rintro e w' ⟨m, S, hm, rfl, hI, hend⟩
  obtain ⟨h1, h2⟩ := runA_unarmed n s (acts.take m) (newDS w.heap.size n s).view rfl rfl
  rw [← hI.view] at h1 h2
  have hme := hend h2
  subst hme
  exact ⟨rfl, S, hI, h2, h1⟩

theorem DiskAt.keepF {w w' : World} {B : Nat} {S : DS} (h : DiskAt w B S) (hk : Keeps (fun _ => False) w w') : DiskAt w' B S := h.kept hk (fun _ _ => id) (fun _ _ => id)
theorem keeps_drewN (w : World) (n : Nat) : Keeps (fun _ => False) w (w.drewN n) := ⟨rfl, rfl, rfl, Nat.le_refl _, fun _ _ _ => rfl⟩
theorem WritesAt.keepF {w w' : World} {v : Value} {s : Nat} {ws : List Wr} (h : WritesAt w v s ws) (hk : Keeps (fun _ => False) w w') : WritesAt w' v s ws := h.kept hk (fun _ _ => id) (fun _ _ => id)
theorem bools_nil (w : World) : Bools w (.slice none 0 0) [] := ⟨⟨_, _, rfl⟩, fun h => by simp at h⟩

theorem DiskAt.c6 {w : World} {B : Nat} {S : DS} (h : DiskAt w B S) {b : Bool} (hd : S.dead = b) : w.cell? ⟨S.D, 6, none⟩ = some (.bool b) := by rw [cell_of_blk h.blk, ← hd]; rfl

/-- Write of a text, behind whatever. -/
theorem write_text (w : World) (B : Nat) (S : DS) (h : DiskAt w B S) (c : Nat) (hc : c < S.secs) (bb : Int) {base g tc : Nat} (ht : w.ownsRow base 5 1 (.slice (some ⟨g, 0, none⟩) S.size tc) S.size (bs (textL bb S.size))) (hdead : S.dead = false) (hleft : -1 ≤ S.left) (hleft2 : S.left ≤ 9223372036854775807) (hmn : S.mn ≤ 2147483647) (hws : S.ws.length ≤ 2147483647) (hwr1 : 0 ≤ S.wr) (hwr2 : S.wr ≤ 2147483647) :
    Calls Try.prog 12 #[.pointer (some ⟨S.D, 0, none⟩), .int .i64 c, .slice (some ⟨g, 0, none⟩) S.size tc] w fun e w' => e = .returned (.int .i64 (if S.left = 0 then 10 else 0)) ∧ ∃ wv', DiskAt w' B (S.wrote c w.heap.size (textL bb S.size) wv' (if S.left ≤ 0 then S.left else S.left - 1) (decide (S.left = 0)) (if S.left = 0 then S.wr else S.wr + 1)) ∧ Keeps S.own w w' :=
  (write_ok w B S h c g 0 tc (textL bb S.size) hc (textL_length _ _) (by
    intro j x hx
    have := ht.cells (g := g) rfl j (.int .u8 x) (by rw [bs_get, hx]; rfl)
    rwa [Addr.add_lit] at this) hdead hleft hleft2 hmn hws hwr1 hwr2).mono (by rintro e w' ⟨rfl, wv', h1, h2, _⟩; exact ⟨rfl, wv', h1, h2⟩)

set_option maxRecDepth 100000 in
set_option maxHeartbeats 2000000 in
theorem diskDead_any (w : World) (n s : Nat) (v : Value) (acts : List Pt) (a : Int) (bv : Value) (hA : Acts w v acts) (hlen : acts.length ≤ 2147483647) (h1 : 1 ≤ n) (h2 : n ≤ 16384) (h3 : 32 ≤ s) (h4 : s ≤ 1024) :
    Calls Try.prog 6 #[.int .i64 n, .int .i64 s, v, .int .i64 a, bv] w fun e w' => e = .returned (.bool true) ∧ Below w.heap.size w w' := by
  obtain ⟨ao, cap, rfl⟩ := hA.form
  have HA := hide hA
  have hN : decide ((2147483647 : Int) < (acts.length : Int)) = false := by simp; omega
  clear hA
  go_enter Try.func6, Try.ntmps6
  go_wp2_with fail
  refine (made_yes n s w h1 h2 h3 h4).mono ?_
  rintro e w1 ⟨rfl, hd1, hk1⟩
  have HP := hide (played_free w w1 n s _ acts (unhide HA) hlen hd1 (hk1.below (Nat.le_refl _) (fun _ f => f.elim)) h4 h3)
  clear hd1 hk1
  go_wp2_with fail
  refine (long_any _ _).mono ?_
  rintro e w2 ⟨rfl, rfl⟩
  go_wp2_with fail
  refine (unhide HP).mono ?_
  rintro e w3 ⟨rfl, S, hI, hdead, hleft⟩
  have harm := arm_ok w3 _ S hI.disk hdead 0
  rw [hI.D] at harm
  have HARM := hide harm
  have HI := hide hI
  have HD := hide hdead
  clear HP harm hI hdead hleft
  go_wp2_with fail
  refine (unhide HARM).mono ?_
  rintro e w4 ⟨rfl, hd4, hk4⟩
  have hb4 : Below w.heap.size w w4 := (unhide HI).below.trans (hk4.below (unhide HI).below.size (fun k e => by rw [e]; omega))
  have HD4 := hide hd4
  have HB4 := hide hb4
  clear hd4 hk4 hb4 HARM
  go_wp2_with fail
  refine (text_any 1 s w4 h4).mono ?_
  rintro e w5 ⟨tv, rfl, ht, hk5⟩
  obtain ⟨g, tc, rfl, hg1, hg2⟩ := ht.form (by omega)
  have hI := unhide HI
  have hd5 := (unhide HD4).keepF hk5
  have hwr := write_text w5 _ (S.armed 0) hd5 0 (by show 0 < S.secs; rw [hI.secs]; omega) 1 (base := w4.heap.size) (g := g) (tc := tc) (by show w5.ownsRow _ _ _ (.slice _ S.size _) S.size (bs (textL 1 S.size)); rw [hI.size]; exact ht) (unhide HD) (by show -1 ≤ max 0 (-1); omega) (by show max 0 (-1) ≤ _; omega) (by have := hI.mn; show S.mn ≤ _; omega) (by have := hI.ws; show S.ws.length ≤ _; omega) hI.wr0 (by have := hI.wr1; show S.wr ≤ _; omega)
  have hwr' : Calls Try.prog 12 #[.pointer (some ⟨w.heap.size + 2, 0, none⟩), .int .i64 (0 : Nat), .slice (some ⟨g, 0, none⟩) s tc] w5 fun e w' => e = .returned (.int .i64 10) ∧ ∃ S1 : DS, DiskAt w' w.heap.size S1 ∧ S1.D = w.heap.size + 2 ∧ S1.secs = n ∧ S1.size = s ∧ S1.dead = true ∧ S1.ws.length ≤ acts.length + 1 ∧ (∃ ws0 x, S1.ws = ws0 ++ [x] ∧ x.sec = 0) ∧ Below w.heap.size w w' := by
    have e1 : (S.armed 0).D = w.heap.size + 2 := hI.D
    have e2 : (S.armed 0).size = s := hI.size
    rw [e1, e2] at hwr
    refine hwr.mono ?_
    rintro e w' ⟨rfl, wv', hd, hk⟩
    refine ⟨rfl, _, hd, hI.D, hI.secs, hI.size, rfl, ?_, ⟨S.ws, _, rfl, rfl⟩, ?_⟩
    · have := hI.ws; show (S.ws ++ [_]).length ≤ _; simp; omega
    · have hb5 : Below w.heap.size w4 w5 := hk5.below (unhide HB4).size (fun _ f => f.elim)
      exact ((unhide HB4).trans hb5).trans (hk.below (Nat.le_trans (unhide HB4).size hk5.size) hd5.own_lo)
  have HW := hide hwr'
  clear hwr hwr' hI hd5 ht hk5 HD4 HB4 HI HD
  go_wp2_with fail
  refine (unhide HW).mono ?_
  rintro e w6 ⟨rfl, S1, hd6, hD1, hs1, hz1, hdead1, hl1, hlast, hb6⟩
  have c6 := hd6.c6 hdead1
  rw [hD1] at c6
  obtain ⟨m, hm⟩ : ∃ m, S1.ws.length = m + 1 := by obtain ⟨ws0, x, e, _⟩ := hlast; exact ⟨ws0.length, by rw [e]; simp⟩
  have hpend : Calls Try.prog 18 #[.pointer (some ⟨w.heap.size + 2, 0, none⟩)] w6 fun e w' => ∃ ws : List Wr, e = .returned (.slice (some ⟨w6.heap.size, 0, none⟩) (m + 1) (m + 1)) ∧ PendInv w6 S1 S1.ws.length ws w' := by
    have h := pending_any w6 _ S1 hd6 (by omega)
    rw [hD1] at h
    refine h.mono ?_
    rintro e w' ⟨ws, rfl, hp⟩
    exact ⟨ws, by rw [hm], hp⟩
  have HPE := hide hpend
  have HM := hide hm
  have hmb : m ≤ 2147483647 := by omega
  have H1 := hide hd6
  have HB6 := hide hb6
  have HLAST := hide hlast
  have HD1 := hide hD1
  have HS1 := hide hs1
  have HZ1 := hide hz1
  have HDEAD1 := hide hdead1
  clear HW hd6 hpend hb6 hlast hD1 hs1 hz1 hdead1 hm
  go_wp2_with fail
  refine (dead_any _ _ _ c6).mono ?_
  rintro e w7 ⟨rfl, rfl⟩
  go_wp2_with fail
  refine (unhide HPE).mono ?_
  rintro e w8 ⟨wsp, rfl, hP8⟩
  have hd8 := (unhide H1).keepF hP8.keeps
  have hW8 := writes_of_pend hP8
  rw [unhide HM] at hW8
  have HW8 := hide hW8
  have him := image_any w8 _ S1 hd8
  rw [unhide HD1] at him
  have HIM := hide him
  have HP8 := hide hP8
  have H8 := hide hd8
  clear hP8 hd8 him HPE hW8
  go_wp2_with fail
  refine (unhide HIM).mono ?_
  rintro e w9 ⟨rfl, hw9⟩
  have hk9 : Keeps (fun _ => False) w8 w9 := by rw [hw9]; exact (Keeps.refl _ _).alloc _
  have hm9 : w9.heap[w8.heap.size]? = some (.cells (bs S1.dur).toArray 5 (0, 0)) := by rw [hw9]; exact heap_alloc_new w8 _
  have hd9 := (unhide H8).keepF hk9
  have hst := stats_any w9 _ S1 hd9
  rw [unhide HD1] at hst
  have HST := hide hst
  have HK9 := hide hk9
  have HM9 := hide hm9
  have H9 := hide hd9
  clear hw9 hk9 hm9 hd9 hst HIM
  go_wp2_with fail
  refine (unhide HST).mono ?_
  rintro e w10 ⟨rfl, hw10⟩
  have hk10 : Keeps (fun _ => False) w9 w10 := by rw [hw10]; exact (Keeps.refl _ _).alloc _
  have hd10 := (unhide H9).keepF hk10
  obtain ⟨w11, hw11⟩ : ∃ w11, w11 = w10.alloc (.cells #[.int .i64 S1.r, .int .i64 S1.wr, .int .i64 S1.f] 48) := ⟨_, rfl⟩
  have hk11 : Keeps (fun _ => False) w10 w11 := by rw [hw11]; exact (Keeps.refl _ _).alloc _
  have hbx11 : w11.heap[w10.heap.size]? = some (.cells #[.int .i64 S1.r, .int .i64 S1.wr, .int .i64 S1.f] 48 (0, 0)) := by rw [hw11]; exact heap_alloc_new w10 _
  have hd11 := hd10.keepF hk11
  have c6b := hd11.c6 (unhide HDEAD1)
  rw [unhide HD1] at c6b
  have HK10 := hide hk10
  have HK11 := hide hk11
  have H11 := hide hd11
  have HBX11 := hide hbx11
  have HW11 := hide hw11
  clear hw10 hk10 hd10 hk11 hbx11 hd11 HST hw11 c6
  go_wp2_with fail
  rw [← unhide HW11]
  refine (read_dead _ _ _ c6b).mono ?_
  rintro e w12 ⟨rfl, rfl⟩
  go_wp2_with fail
  refine (write_dead _ _ _ _ c6b).mono ?_
  rintro e w13 ⟨rfl, rfl⟩
  go_wp2_with fail
  refine (flush_dead _ _ c6b).mono ?_
  rintro e w14 ⟨rfl, rfl⟩
  go_wp2_with fail
  refine (arm_dead _ _ _ c6b).mono ?_
  rintro e w15 ⟨rfl, rfl⟩
  have hpend2 : Calls Try.prog 18 #[.pointer (some ⟨w.heap.size + 2, 0, none⟩)] w15 fun e w' => ∃ ws : List Wr, e = .returned (.slice (some ⟨w15.heap.size, 0, none⟩) (m + 1) (m + 1)) ∧ PendInv w15 S1 S1.ws.length ws w' := by
    have h := pending_any w15 _ S1 (unhide H11) (by have := unhide HM; omega)
    rw [unhide HD1] at h
    refine h.mono ?_
    rintro e w' ⟨ws, rfl, hp⟩
    exact ⟨ws, by rw [unhide HM], hp⟩
  have HPE2 := hide hpend2
  clear hpend2 c6b
  go_wp2_with fail
  refine (unhide HPE2).mono ?_
  rintro e w16 ⟨wsq, rfl, hP16⟩
  have hd16 := (unhide H11).keepF hP16.keeps
  have hW16 := writes_of_pend hP16
  rw [unhide HM] at hW16
  have HW16 := hide hW16
  have him := image_any w16 _ S1 hd16
  rw [unhide HD1] at him
  have HIM := hide him
  have HP16 := hide hP16
  have H16 := hide hd16
  clear hP16 hd16 him HPE2 hW16
  go_wp2_with fail
  refine (unhide HIM).mono ?_
  rintro e w17 ⟨rfl, hw17⟩
  have hk17 : Keeps (fun _ => False) w16 w17 := by rw [hw17]; exact (Keeps.refl _ _).alloc _
  have hm17 : w17.heap[w16.heap.size]? = some (.cells (bs S1.dur).toArray 5 (0, 0)) := by rw [hw17]; exact heap_alloc_new w16 _
  have hd17 := (unhide H16).keepF hk17
  have hst := stats_any w17 _ S1 hd17
  rw [unhide HD1] at hst
  have HST := hide hst
  have HK17 := hide hk17
  have HM17 := hide hm17
  have H17 := hide hd17
  clear hw17 hk17 hm17 hd17 hst HIM
  go_wp2_with fail
  refine (unhide HST).mono ?_
  rintro e w18 ⟨rfl, hw18⟩
  have hk18 : Keeps (fun _ => False) w17 w18 := by rw [hw18]; exact (Keeps.refl _ _).alloc _
  have hd18 := (unhide H17).keepF hk18
  obtain ⟨w19, hw19⟩ : ∃ w19, w19 = w18.alloc (.cells #[.int .i64 S1.r, .int .i64 S1.wr, .int .i64 S1.f] 48) := ⟨_, rfl⟩
  have hk19 : Keeps (fun _ => False) w18 w19 := by rw [hw19]; exact (Keeps.refl _ _).alloc _
  have hbx19 : w19.heap[w18.heap.size]? = some (.cells #[.int .i64 S1.r, .int .i64 S1.wr, .int .i64 S1.f] 48 (0, 0)) := by rw [hw19]; exact heap_alloc_new w18 _
  have hd19 := hd18.keepF hk19
  have hsv := survive_any w19 _ S1 hd19 (.slice none 0 0) [] (bools_nil _) (by have := unhide HM; omega) (by simp)
  rw [unhide HD1] at hsv
  have HSV := hide hsv
  have HK18 := hide hk18
  have HK19 := hide hk19
  have H19 := hide hd19
  have HBX19 := hide hbx19
  have HW19 := hide hw19
  clear hw18 hk18 hd18 hk19 hbx19 hd19 HST hw19 hsv
  go_wp2_with fail
  rw [← unhide HW19]
  refine (unhide HSV).mono ?_
  rintro e w20 ⟨rfl, hk20, hd20⟩
  have k19 : Keeps (fun _ => False) w19 w20 := hk20
  have k17 : Keeps (fun _ => False) w17 w20 := ((unhide HK18).trans (unhide HK19)).trans k19
  have k16 : Keeps (fun _ => False) w16 w20 := (unhide HK17).trans k17
  have k15 : Keeps (fun _ => False) w15 w20 := (unhide HP16).keeps.trans k16
  have k9 : Keeps (fun _ => False) w9 w20 := ((unhide HK10).trans (unhide HK11)).trans k15
  have k8 : Keeps (fun _ => False) w8 w20 := (unhide HK9).trans k9
  have hWp := (unhide HW8).keepF k8
  have hWq := (unhide HW16).keepF k16
  have hpair : wsp.map Wr.pair = wsq.map Wr.pair := by
    rw [(unhide HP8).pair, (unhide HP16).pair]
  have hEW := eqWrites_any w20 _ _ S1.size wsp wsq hWp hWq (by rw [(unhide HP8).len]; have := unhide HM; omega) (by rw [unhide HZ1]; omega)
  rw [decide_eq_true hpair] at hEW
  have HEW := hide hEW
  have hlm : S1.dur.length = S1.secs * S1.size := (unhide H19).dlen
  have hEB := fun q => eqBytes_any (w20.drewN q) _ _ S1.dur S1.dur (reads_of_blk (w := w20.drewN q) (by rw [World.heap_drewN, k9.block _ (lt_of_block (unhide HM9)) id]; exact unhide HM9) hlm (S1.secs * S1.size)) (reads_of_blk (w := w20.drewN q) (by rw [World.heap_drewN, k17.block _ (lt_of_block (unhide HM17)) id]; exact unhide HM17) hlm (S1.secs * S1.size)) (by rw [hlm, unhide HS1, unhide HZ1]; unfold maxLen; have := Nat.mul_le_mul h2 h4; omega)
  simp only [decide_true] at hEB
  have HEB := hide hEB
  have z0 : w20.cell? ⟨w7.heap.size, m * 2, none⟩ = some (.int .i64 0) := by
    obtain ⟨ws0, x, e, hx0⟩ := unhide HLAST
    have hml := unhide HM
    rw [e] at hml
    simp at hml
    have h5 : (wsp.map Wr.pair)[m]? = some x.pair := by
      rw [(unhide HP8).pair, List.take_length, e, ← hml]; simp
    rw [List.getElem?_map] at h5
    obtain ⟨y, hy, hyp⟩ := Option.map_eq_some_iff.1 h5
    have hy0 : y.sec = 0 := by
      have := congrArg Prod.fst hyp
      simpa [Wr.pair, hx0] using this
    obtain ⟨pb, pc, epb, hpb, hpcc⟩ := hWp.cells (by have := (List.getElem?_eq_some_iff.1 hy).1; omega)
    simp at epb
    rw [epb.1, (hpcc m y hy).1, hy0]; rfl
  have bx1 : w20.heap[w10.heap.size]? = some (.cells #[.int .i64 S1.r, .int .i64 S1.wr, .int .i64 S1.f] 48 (0, 0)) := by rw [k15.block _ (lt_of_block (unhide HBX11)) id]; exact unhide HBX11
  have bx2 : w20.heap[w18.heap.size]? = some (.cells #[.int .i64 S1.r, .int .i64 S1.wr, .int .i64 S1.f] 48 (0, 0)) := by rw [k19.block _ (lt_of_block (unhide HBX19)) id]; exact unhide HBX19
  have b10 : w20.cell? ⟨w10.heap.size, 0, none⟩ = some (.int .i64 S1.r) := cell_of_blk bx1 0
  have b11 : w20.cell? ⟨w10.heap.size, 1, none⟩ = some (.int .i64 S1.wr) := cell_of_blk bx1 1
  have b12 : w20.cell? ⟨w10.heap.size, 2, none⟩ = some (.int .i64 S1.f) := cell_of_blk bx1 2
  have b20 : w20.cell? ⟨w18.heap.size, 0, none⟩ = some (.int .i64 S1.r) := cell_of_blk bx2 0
  have b21 : w20.cell? ⟨w18.heap.size, 1, none⟩ = some (.int .i64 S1.wr) := cell_of_blk bx2 1
  have b22 : w20.cell? ⟨w18.heap.size, 2, none⟩ = some (.int .i64 S1.f) := cell_of_blk bx2 2
  have hd20' := (unhide H19).keepF k19
  have c6z := hd20'.c6 (unhide HDEAD1)
  rw [unhide HD1] at c6z
  have hb20 : Below w.heap.size w w20 := ((unhide HB6).trans ((unhide HP8).keeps.below (unhide HB6).size (fun _ f => f.elim))).trans (k8.below (Nat.le_trans (unhide HB6).size (unhide HP8).keeps.size) (fun _ f => f.elim))
  have HB20 := hide hb20
  have HD20 := hide hd20
  have hs19 : w.heap.size ≤ w19.heap.size := by
    have a1 := (unhide HB6).size
    have a2 := (unhide HP8).keeps.size
    have a3 := (unhide HK9).size
    have a4 := (unhide HK10).size
    have a5 := (unhide HK11).size
    have a6 := (unhide HP16).keeps.size
    have a7 := (unhide HK17).size
    have a8 := (unhide HK18).size
    have a9 := (unhide HK19).size
    omega
  clear hEW hEB hWp hWq hpair hlm bx1 bx2 hd20' hb20 k19 k17 k16 k15 k9 k8 hk20 hd20 HW8 HW16 HP8 HP16 HK9 HK10 HK11 HK17 HK18 HK19 HBX11 HBX19 HM9 HM17 H1 H8 H9 H11 H16 H17 HW11 HW19 HSV
  go_wp2_with fail
  refine (unhide HEW).mono ?_
  rintro e w21 ⟨rfl, q1, rfl⟩
  go_wp2_with fail
  refine (unhide HEB _).mono ?_
  rintro e w22 ⟨rfl, q2, rfl⟩
  go_wp2_with fail
  refine (dead_any _ true _ (by exact c6z)).mono ?_
  rintro e w23 ⟨rfl, rfl⟩
  clear z0 b10 b11 b12 b20 b21 b22 c6z HEB HEW
  have hd23 := (unhide HD20).keepF (keeps_drewN w20 (q1 + q2))
  have hb23 : Below w.heap.size w (w20.drewN (q1 + q2)) := (unhide HB20).trans ((keeps_drewN w20 (q1 + q2)).below (unhide HB20).size (fun _ f => f.elim))
  have HD23 := hide hd23
  have HB23 := hide hb23
  clear hd23 hb23 HD20 HB20
  go_wp2_with fail
  generalize w20.drewN (q1 + q2) = w24 at *
  refine (text_any 2 s w24 h4).mono ?_
  rintro e w25 ⟨tv, rfl, ht, hk25⟩
  obtain ⟨g2, tc2, rfl, hg3, hg4⟩ := ht.form (by omega)
  have hd25 := (unhide HD23).keepF hk25
  have ez : (freshDS (w19.heap.size + 2) w19.heap.size (w19.heap.size + 1) S1.secs S1.size (settleAll S1.size S1.dur (keptTo [] S1.ws S1.ws.length))).size = s := unhide HZ1
  have hwr := write_text w25 _ _ hd25 0 (by show 0 < S1.secs; rw [unhide HS1]; omega) 2 (base := w24.heap.size) (g := g2) (tc := tc2) (by rw [ez]; exact ht) rfl (Int.le_refl _) (by show (-1 : Int) ≤ _; omega) (Nat.zero_le _) (Nat.zero_le _) (Int.le_refl _) (by show (0 : Int) ≤ _; omega)
  rw [ez] at hwr
  have hwr' : Calls Try.prog 12 #[.pointer (some ⟨w19.heap.size + 2, 0, none⟩), .int .i64 (0 : Nat), .slice (some ⟨g2, 0, none⟩) s tc2] w25 fun e w' => e = .returned (.int .i64 0) ∧ w'.cell? ⟨w19.heap.size + 2, 6, none⟩ = some (.bool false) ∧ Below w.heap.size w w' := by
    refine hwr.mono ?_
    rintro e w' ⟨rfl, wv', hd, hk⟩
    refine ⟨rfl, cell_of_blk hd.blk 6, ?_⟩
    have hb5 : Below w.heap.size w24 w25 := hk25.below (unhide HB23).size (fun _ f => f.elim)
    exact ((unhide HB23).trans hb5).trans (hk.below (Nat.le_trans (unhide HB23).size hk25.size) (fun k hk => Nat.le_trans hs19 (hd25.own_lo k hk)))
  have HW2 := hide hwr'
  clear hwr hwr' hd25 ez ht hk25 HD23
  go_wp2_with fail
  refine (unhide HW2).mono ?_
  rintro e w26 ⟨rfl, c6w, hb26⟩
  have HB26 := hide hb26
  clear hb26 HW2
  go_wp2_with fail
  refine (dead_any _ _ _ c6w).mono ?_
  rintro e w27 ⟨rfl, rfl⟩
  go_wp2
  go_ret
  exact ⟨rfl, unhide HB26⟩

set_option maxRecDepth 100000 in
set_option maxHeartbeats 2000000 in
theorem diskDead_invalid (w : World) (n s : Int) (v bv : Value) (a : Int) (h : ¬ (1 ≤ n ∧ n ≤ 16384 ∧ 32 ≤ s ∧ s ≤ 1024)) :
    Calls Try.prog 6 #[.int .i64 n, .int .i64 s, v, .int .i64 a, bv] w fun e w' => e = .returned (.bool true) ∧ Below w.heap.size w w' := by
  have HN := hide h
  clear h
  go_enter Try.func6, Try.ntmps6
  go_wp2_with fail
  refine (made_no _ _ _ (unhide HN)).mono ?_
  rintro e w1 ⟨rfl, rfl⟩
  go_wp2
  go_ret
  exact ⟨rfl, Below.refl _ _⟩

set_option maxRecDepth 100000 in
set_option maxHeartbeats 2000000 in
theorem diskDead_long (w : World) (n s : Nat) (ao : Option Addr) (len cap : Nat) (bv : Value) (a : Int) (hlen : 2147483647 < len) (h1 : 1 ≤ n) (h2 : n ≤ 16384) (h3 : 32 ≤ s) (h4 : s ≤ 1024) :
    Calls Try.prog 6 #[.int .i64 n, .int .i64 s, .slice ao len cap, .int .i64 a, bv] w fun e w' => e = .returned (.bool true) ∧ Below w.heap.size w w' := by
  have hN : decide ((2147483647 : Int) < (len : Int)) = true := by simp; omega
  go_enter Try.func6, Try.ntmps6
  go_wp2_with fail
  refine (made_yes n s w h1 h2 h3 h4).mono ?_
  rintro e w1 ⟨rfl, hd1, hk1⟩
  have HK := hide hk1
  clear hd1 hk1
  go_wp2_with fail
  refine (long_any _ _).mono ?_
  rintro e w2 ⟨rfl, rfl⟩
  go_wp2
  go_ret
  exact ⟨rfl, (unhide HK).below (Nat.le_refl _) (fun _ f => f.elim)⟩

end Go.Proofs.Ytjmbcelkhiopeaa
