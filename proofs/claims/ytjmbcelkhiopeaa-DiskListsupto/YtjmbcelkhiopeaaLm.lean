import Derived.Test.YtjmbcelkhiopeaaLj
import Derived.Test.YtjmbcelkhiopeaaRx
namespace Go.Proofs.Ytjmbcelkhiopeaa
open Go.RowKit Go.Maps
attribute [local go_sem ↓] Go.wp_at_zero Go.wp_at_succ

set_option maxRecDepth 100000 in
set_option maxHeartbeats 8000000 in
theorem taken_any (w : World) (V B N : Nat) (st : Nat → Slot) (b : Bk) (T : Both w V B N st b) (hV : B ≤ V) (_hB : B ≤ w.heap.size) (hN : N ≤ 2147483640) (o : OpA) (hbv : ∃ bo bn bc, o.bv = .slice bo bn bc) (hkv : ∃ bo bn bc, o.kv = .slice bo bn bc) (hkind : o.kind = 4 ∨ o.kind = 10 ∨ o.kind = 9) (hn : b.n + 2 * N + 10 ≤ 2199031644160) :
    Calls Try.prog 33 #[.pointer (some ⟨V, 0, none⟩), .pointer (some ⟨b.D, 0, none⟩), .agg o.cells] w fun e w' => e = .returned (.bool true) ∧ ∃ st' b', Both w' V B (N + 2) st' b' ∧ b'.D = b.D ∧ b'.n ≤ b.n + 2 * N + 2 ∧ b'.kl = b.kl ∧ Keeps (fun q => B ≤ q) w w' := by
  obtain ⟨w1, hw1⟩ : ∃ w1, w1 = w.alloc (.cells o.cells 81) := ⟨_, rfl⟩
  have hb1 : w1.heap[w.heap.size]? = some (.cells o.cells 81 (0, 0)) := by rw [hw1]; exact heap_alloc_new w _
  have hk1 : Keeps (fun _ => False) w w1 := by rw [hw1]; exact (Keeps.refl _ _).alloc _
  have T1 := T.keep hk1
  have hVlt := lt_of_block T.trio.blk
  have hs1 : w.heap.size < w1.heap.size := lt_of_block hb1
  obtain ⟨wh, kd, a, b', bv, kv, bytes, keep⟩ := o
  obtain ⟨bo, bn, bc, hbv⟩ := hbv
  obtain ⟨ko, kn, kc, hkv⟩ := hkv
  simp only at hbv hkv hkind
  subst hbv hkv
  simp only [OpA.cells] at hw1 hb1 ⊢
  have c0 := cell_of_blk hb1 0
  have c1 := cell_of_blk hb1 1
  have c2 := cell_of_blk hb1 2
  simp at c0 c1 c2
  obtain ⟨i, hi, hi3⟩ := mod3 wh
  obtain ⟨pv, rv⟩ := slot_cells T1.trio i hi3
  obtain ⟨pp, hpp⟩ : ∃ pp, slotP (st i) = .pointer pp := ⟨_, rfl⟩
  obtain ⟨rp, hrp⟩ : ∃ rp, slotR (st i) = .pointer rp := ⟨_, rfl⟩
  rw [hpp] at pv
  rw [hrp] at rv
  have hi0 : (0 : Int) ≤ (i : Int) := by omega
  have hi3' : (i : Int) < 3 := by omega
  have hwho := who_any wh
  rw [hi] at hwho
  have HWH := hide hwho
  -- the world behind the two draws
  have kd2 : Keeps (fun _ => False) w1 w1.drew.drew := (Keeps.refl _ w1).drew.drew
  have T2 := T1.keep kd2
  have hno : ¬ slotOwn (st i) w.heap.size := fun h => by have := (T.trio.slot_own h).1; omega
  have hVw2 : ¬ w1.drew.drew.heap.size ≤ V := by show ¬ w1.heap.size ≤ V; omega
  have hB2 : B ≤ w1.drew.drew.heap.size := by show B ≤ w1.heap.size; omega
  have hG : ∀ k, b.all k → ¬ slotOwn (st i) k := fun k h h' => slotOwn_no T2.trio h' h
  have hOwnB : ∀ k, slotOwn (st i) k → B ≤ k := fun k h => (T.trio.slot_own h).2
  have hAllB : ∀ k, b.all k → B ≤ k := fun k h => (T.book.all_at h).1
  have hK2 : Keeps (fun _ => False) w w1.drew.drew := hk1.trans kd2
  have FIN : Hid (∀ w4 w8, Keeps (slotOwn (st i)) w1.drew.drew w4 → Keeps (fun q => b.all q ∨ w1.drew.drew.heap.size ≤ q) w4 w8 → Keeps (fun q => B ≤ q) w w8) := fun w4 w8 h1 h2 =>
    ((hK2.mono (fun _ _ f => f.elim)).trans (h1.mono (fun q _ h => hOwnB q h))).trans (h2.mono (fun q _ h => h.elim (hAllB q) (fun h => by omega)))
  have hlw : w.heap.size < w1.drew.drew.heap.size := hs1
  have HW1 := hide hw1
  rcases hkind with rfl | rfl | rfl
  · obtain ⟨r, hr⟩ := read4 T2.trio (by omega) i a
    unfold Read4 at hr
    rw [hpp, hrp] at hr
    have HR := hide hr
    have HM := hide (fun w4 lo ko mo n lc kc mc (hk : Keeps (slotOwn (st i)) w1.drew.drew w4) (g : Got w1.drew.drew w4 b.all V B (N + 2) (.slice lo n lc) (.slice ko n kc) (.slice mo n mc) n) => marked T2.book hk hG hB2 hVw2 g (by omega))
    clear T T1 T2 hb1 hw1 hk1 hwho hi hpp hrp hr hG kd2 hVw2 hOwnB hAllB hK2
    go_enter Try.func33, Try.ntmps33
    go_wp2_with fail
    rw [← unhide HW1]
    go_region_held3 (fun w' => w'.cell? ⟨w.heap.size, 0, none⟩ = some (.int .i64 wh) ∧ w'.cell? ⟨V, i, none⟩ = some (.pointer pp))
      (go_keep)
      (first | (go_at_call 45; refine (unhide HWH _).mono ?_; rintro e wa ⟨rfl, rfl⟩))
    go_wp2_with fail
    go_region_held3 (fun w' => w'.cell? ⟨w.heap.size, 0, none⟩ = some (.int .i64 wh) ∧ w'.cell? ⟨V, 3 + i, none⟩ = some (.pointer rp))
      (go_keep)
      (first | (go_at_call 45; refine (unhide HWH _).mono ?_; rintro e wa ⟨rfl, rfl⟩))
    go_wp2_with fail
    refine (unhide HR).mono ?_
    rintro e w2 ⟨lo, n, lc, rfl, k2, h2⟩
    have e2 := (k2.cell (o := 2) hlw hno).trans c2
    have hlw2 : w.heap.size < w2.heap.size := Nat.lt_of_lt_of_le hlw k2.size
    have H2 := hide h2
    clear h2 k2 HR
    go_wp2_with fail
    refine (unhide H2).mono ?_
    rintro e w3 ⟨lk, lkc, rfl, k3, h3⟩
    have e3 := (k3.cell (o := 2) hlw hno).trans c2
    have hlw3 : w.heap.size < w3.heap.size := Nat.lt_of_lt_of_le hlw k3.size
    have H3 := hide h3
    clear h3 k3 H2
    go_wp2_with fail
    refine (unhide H3).mono ?_
    rintro e w4 ⟨mo, mc, rfl, k4, h4⟩
    have e4 := (k4.cell (o := 2) hlw hno).trans c2
    have hlw4 : w.heap.size < w4.heap.size := Nat.lt_of_lt_of_le hlw k4.size
    have H4 := hide h4
    clear h4 k4 H3
    go_wp2_with fail
    refine (unhide H4).mono ?_
    rintro e w5 ⟨v5, rfl, k5, h5⟩
    have HMM := hide (unhide HM w5 lo lk mo n lc lkc mc k5 h5)
    have K5 := hide k5
    clear h5 k5 H4
    unfold Marked at HMM
    go_wp2_with fail
    refine (unhide HMM).mono ?_
    rintro e w6 ⟨rfl, h6⟩
    have H6 := hide h6
    clear h6 HMM
    go_wp2_with fail
    refine (unhide H6).mono ?_
    rintro e w7 ⟨v7, rfl, h7⟩
    have H7 := hide h7
    clear h7 H6
    go_wp2_with fail
    refine (unhide H7).mono ?_
    rintro e w8 ⟨rfl, h8⟩
    have H8 := hide h8
    clear h8 H7
    go_wp2_with fail
    refine (unhide H8).mono ?_
    rintro e w9 ⟨v9, rfl, st', b9, hT, hD, hbn, hkl, hK⟩
    have H9 := hide (And.intro hT (And.intro hD (And.intro hbn (And.intro hkl hK))))
    clear hT hD hbn hkl hK H8
    go_wp2
    go_ret
    obtain ⟨hT, hD, hbn, hkl, hK⟩ := unhide H9
    exact ⟨rfl, st', b9, hT, hD, by omega, hkl, unhide FIN _ _ (unhide K5) hK⟩
  · have hr := image3 T2.trio (by omega) i
    unfold Image3 at hr
    rw [hpp, hrp] at hr
    have HR := hide hr
    have HM := hide (fun w4 lo ko mo n lc kc mc (hk : Keeps (slotOwn (st i)) w1.drew.drew w4) (g : Got w1.drew.drew w4 b.all V B N (.slice lo n lc) (.slice ko n kc) (.slice mo n mc) n) => marked T2.book hk hG hB2 hVw2 g (by omega))
    clear T T1 T2 hb1 hw1 hk1 hwho hi hpp hrp hr hG kd2 hVw2 hOwnB hAllB hK2
    go_enter Try.func33, Try.ntmps33
    go_wp2_with fail
    rw [← unhide HW1]
    go_region_held3 (fun w' => w'.cell? ⟨w.heap.size, 0, none⟩ = some (.int .i64 wh) ∧ w'.cell? ⟨V, i, none⟩ = some (.pointer pp))
      (go_keep)
      (first | (go_at_call 45; refine (unhide HWH _).mono ?_; rintro e wa ⟨rfl, rfl⟩))
    go_wp2_with fail
    go_region_held3 (fun w' => w'.cell? ⟨w.heap.size, 0, none⟩ = some (.int .i64 wh) ∧ w'.cell? ⟨V, 3 + i, none⟩ = some (.pointer rp))
      (go_keep)
      (first | (go_at_call 45; refine (unhide HWH _).mono ?_; rintro e wa ⟨rfl, rfl⟩))
    go_wp2_with fail
    refine (unhide HR).mono ?_
    rintro e w2 ⟨lo, n, lc, rfl, k2, h2⟩
    have H2 := hide h2
    clear h2 k2 HR
    go_wp2_with fail
    refine (unhide H2).mono ?_
    rintro e w3 ⟨lk, lkc, rfl, k3, h3⟩
    have H3 := hide h3
    clear h3 k3 H2
    go_wp2_with fail
    refine (unhide H3).mono ?_
    rintro e w5 ⟨mo, mc, rfl, k5, h5⟩
    have HMM := hide (unhide HM w5 lo lk mo n lc lkc mc k5 h5)
    have K5 := hide k5
    clear h5 k5 H3
    unfold Marked at HMM
    go_wp2_with fail
    refine (unhide HMM).mono ?_
    rintro e w6 ⟨rfl, h6⟩
    have H6 := hide h6
    clear h6 HMM
    go_wp2_with fail
    refine (unhide H6).mono ?_
    rintro e w7 ⟨v7, rfl, h7⟩
    have H7 := hide h7
    clear h7 H6
    go_wp2_with fail
    refine (unhide H7).mono ?_
    rintro e w8 ⟨rfl, h8⟩
    have H8 := hide h8
    clear h8 H7
    go_wp2_with fail
    refine (unhide H8).mono ?_
    rintro e w9 ⟨v9, rfl, st', b9, hT, hD, hbn, hkl, hK⟩
    have H9 := hide (And.intro hT (And.intro hD (And.intro hbn (And.intro hkl hK))))
    clear hT hD hbn hkl hK H8
    go_wp2
    go_ret
    obtain ⟨hT, hD, hbn, hkl, hK⟩ := unhide H9
    exact ⟨rfl, st', b9, ⟨hT.trio.mono (by omega), hT.book⟩, hD, by omega, hkl, unhide FIN _ _ (unhide K5) hK⟩
  · have hr := pend3 T2.trio (by omega) i
    unfold Pend3 at hr
    rw [hpp, hrp] at hr
    have HR := hide hr
    have HM := hide (fun w4 lo ko mo n lc kc mc (hk : Keeps (slotOwn (st i)) w1.drew.drew w4) (g : GotW w1.drew.drew w4 b.all V B N (.slice lo n lc) (.slice ko n kc) (.slice mo n mc) n) => pmarked T2.book hk hG hB2 hVw2 (by omega) g (by omega))
    clear T T1 T2 hb1 hw1 hk1 hwho hi hpp hrp hr hG kd2 hVw2 hOwnB hAllB hK2
    go_enter Try.func33, Try.ntmps33
    go_wp2_with fail
    rw [← unhide HW1]
    go_region_held3 (fun w' => w'.cell? ⟨w.heap.size, 0, none⟩ = some (.int .i64 wh) ∧ w'.cell? ⟨V, i, none⟩ = some (.pointer pp))
      (go_keep)
      (first | (go_at_call 45; refine (unhide HWH _).mono ?_; rintro e wa ⟨rfl, rfl⟩))
    go_wp2_with fail
    go_region_held3 (fun w' => w'.cell? ⟨w.heap.size, 0, none⟩ = some (.int .i64 wh) ∧ w'.cell? ⟨V, 3 + i, none⟩ = some (.pointer rp))
      (go_keep)
      (first | (go_at_call 45; refine (unhide HWH _).mono ?_; rintro e wa ⟨rfl, rfl⟩))
    go_wp2_with fail
    refine (unhide HR).mono ?_
    rintro e w2 ⟨lo, n, lc, rfl, k2, h2⟩
    have H2 := hide h2
    clear h2 k2 HR
    go_wp2_with fail
    refine (unhide H2).mono ?_
    rintro e w3 ⟨lk, lkc, rfl, k3, h3⟩
    have H3 := hide h3
    clear h3 k3 H2
    go_wp2_with fail
    refine (unhide H3).mono ?_
    rintro e w5 ⟨mo, mc, rfl, k5, h5⟩
    have HMM := hide (unhide HM w5 lo lk mo n lc lkc mc k5 h5)
    have K5 := hide k5
    clear h5 k5 H3
    unfold PMarked at HMM
    go_wp2_with fail
    refine (unhide HMM).mono ?_
    rintro e w6 ⟨rfl, h6⟩
    have H6 := hide h6
    clear h6 HMM
    go_wp2_with fail
    refine (unhide H6).mono ?_
    rintro e w7 ⟨v7, rfl, h7⟩
    have H7 := hide h7
    clear h7 H6
    go_wp2_with fail
    refine (unhide H7).mono ?_
    rintro e w8 ⟨rfl, h8⟩
    have H8 := hide h8
    clear h8 H7
    go_wp2_with fail
    refine (unhide H8).mono ?_
    rintro e w9 ⟨v9, rfl, st', b9, hT, hD, hbn, hkl, hK⟩
    have H9 := hide (And.intro hT (And.intro hD (And.intro hbn (And.intro hkl hK))))
    clear hT hD hbn hkl hK H8
    go_wp2
    go_ret
    obtain ⟨hT, hD, hbn, hkl, hK⟩ := unhide H9
    exact ⟨rfl, st', b9, ⟨hT.trio.mono (by omega), hT.book⟩, hD, by omega, hkl, unhide FIN _ _ (unhide K5) hK⟩

end Go.Proofs.Ytjmbcelkhiopeaa

namespace Go.Proofs.Ytjmbcelkhiopeaa
open Go.RowKit Go.Maps
attribute [local go_sem ↓] Go.wp_at_zero Go.wp_at_succ

def PairCalls2 (f g : Nat) (pa ra : Array Value) (ans : Value) (w : World) (X : Nat → Prop) (V B N : Nat) (s : Slot) : Prop :=
  Calls Try.prog f pa w fun e w3 => e = .returned ans ∧ Keeps (slotOwn s) w w3 ∧ ∀ w3', Keeps (fun _ => False) w3 w3' → Calls Try.prog g ra w3' fun e w4 => e = .returned ans ∧ (∃ st', Trio w4 X V B N st') ∧ Keeps (slotOwn s) w w4

theorem pair_same2 {X : Nat → Prop} {f g : Nat} {pa ra : Array Value} {ans : Value} {w : World} {V B N N' : Nat} {st : Nat → Slot} (t : Trio w X V B N st) (hN : N ≤ N') (s : Slot) (h1 : Calls Try.prog f pa w fun e w' => e = .returned ans ∧ w' = w) (h2 : ∀ w', Keeps (fun _ => False) w w' → Calls Try.prog g ra w' fun e w'' => e = .returned ans ∧ w'' = w') : PairCalls2 f g pa ra ans w X V B N' s := by
  refine h1.mono ?_
  rintro e w3 ⟨rfl, rfl⟩
  refine ⟨rfl, Keeps.refl _ _, fun w3' hk => (h2 w3' hk).mono ?_⟩
  rintro e w4 ⟨rfl, rfl⟩
  exact ⟨rfl, ⟨st, (t.keep hk).mono hN⟩, hk.mono (fun _ _ f => f.elim)⟩

theorem pair_step2 {X : Nat → Prop} {f g : Nat} {pa ra : Array Value} {ans : Value} {w : World} {V B N N' : Nat} {st : Nat → Slot} (t : Trio w X V B N st) (hN : N ≤ N') {i : Nat} {S : DS} {R : RS} (hs : st i = some (S, R))
    (h1 : Calls Try.prog f pa w fun e w3 => e = .returned ans ∧ ∃ S', PStep w B S S' w3 ∧ S'.D = S.D ∧
      ∀ w3', Keeps (fun _ => False) w3 w3' → (RefAt w3' B R → Calls Try.prog g ra w3' fun e w4 => e = .returned ans ∧ ∃ R', RStep w3' B R R' w4 ∧ R'.D = R.D ∧ Rel S' R' ∧ Bnd N' S' R')) : PairCalls2 f g pa ra ans w X V B N' (some (S, R)) := by
  have d := t.duo i S R hs
  refine h1.mono ?_
  rintro e w3 ⟨rfl, S', hp, e1, h2⟩
  refine ⟨rfl, hp.keeps.mono (fun k _ h => ⟨S, R, rfl, Or.inl h⟩), fun w3' hk => (h2 w3' hk (d.mid hp hk)).mono ?_⟩
  rintro e w4 ⟨rfl, R', hr, e2, hrel, hb⟩
  obtain ⟨a1, a2, a3⟩ := d.step hp hk hr hrel hb
  exact ⟨rfl, ⟨_, t.step hs hN a1 a2 a3 e1 e2⟩, a2.mono (fun k _ h => ⟨S, R, rfl, h⟩)⟩

theorem pair_write2 {X : Nat → Prop} {w : World} {V B N : Nat} {st : Nat → Slot} (t : Trio w X V B N st) (hN : N ≤ 2147483646) (hB : B ≤ w.heap.size) (i : Nat) (a : Int) (vo bo : Option Addr) (vc bc : Nat) (bytes : List Int) (hv : Reads w (.slice vo bytes.length vc) bytes) (hvb : ∀ b off, vo = some ⟨b, off, none⟩ → b < w.heap.size)
    (hr : ∀ w', Keeps (slotOwn (st i)) w w' → Reads w' (.slice bo bytes.length bc) bytes) (hrb : ∀ b off n c, (Value.slice bo bytes.length bc) = .slice (some ⟨b, off, none⟩) n c → 0 < bytes.length → b < w.heap.size) :
    ∃ r : Int, PairCalls2 12 48 #[slotP (st i), .int .i64 a, .slice vo bytes.length vc] #[slotR (st i), .int .i64 a, .slice bo bytes.length bc] (.int .i64 r) w X V B (N + 1) (st i) := by
  cases hs : st i with
  | none => exact ⟨1, pair_same2 t (by omega) _ (write_nil a _ w) (fun w' _ => refWrite_nil a _ w')⟩
  | some d =>
    obtain ⟨S, R⟩ := d
    have d := t.duo i S R hs
    cases hd : S.dead with
    | true => exact ⟨10, pair_same2 t (by omega) _ (write_dead S.D a _ w (d.p.c6 hd)) (fun w' hk => refWrite_dead R.D a _ w' ((d.r.keepF hk).c6 (d.rel.dead ▸ hd)))⟩
    | false =>
      have p0 : w.cell? ⟨S.D, 0, none⟩ = some (.int .i64 S.secs) := cell_of_blk d.p.blk 0
      have p1 : w.cell? ⟨S.D, 1, none⟩ = some (.int .i64 S.size) := cell_of_blk d.p.blk 1
      have hg : R.gone = false := d.rel.dead ▸ hd
      by_cases ha : a < 0 ∨ (S.secs : Int) ≤ a
      · exact ⟨11, pair_same2 t (by omega) _ (write_sector S.D S.secs a _ w p0 (d.p.c6 hd) ha) (fun w' hk => refWrite_sector R.D R.secs a _ w' (cell_of_blk (d.r.keepF hk).blk 0) ((d.r.keepF hk).c6 hg) (by rw [← d.rel.secs]; exact ha))⟩
      · obtain ⟨m, rfl⟩ := Int.eq_ofNat_of_zero_le (show 0 ≤ a by omega)
        have hm : m < S.secs := by omega
        by_cases hl : bytes.length = S.size
        · have hsz := d.p.size1
          obtain ⟨b, off, cap, e, hc⟩ := hv.cells (by omega)
          simp at e
          obtain ⟨rfl, rfl⟩ := e
          have b' := d.bnd
          have hans : (if R.fuse = 0 then (10 : Int) else 0) = if S.left = 0 then 10 else 0 := by rw [d.rel.left]
          refine ⟨if S.left = 0 then 10 else 0, pair_step2 (pa := #[.pointer (some ⟨S.D, 0, none⟩), .int .i64 m, .slice (some ⟨b, off, none⟩) bytes.length vc]) (ra := #[.pointer (some ⟨R.D, 0, none⟩), .int .i64 m, .slice bo bytes.length bc]) t (by omega) hs ?_⟩
          have hw := write_ok w B S d.p m b off vc bytes hm hl hc hd b'.left.1 b'.left.2 (by have := b'.mn; omega) (by have := d.ws; omega) b'.wr.1 (by have := b'.wr.2; omega)
          rw [← hl] at hw
          refine hw.mono ?_
          rintro e w3 ⟨rfl, wv', h1, h2, h3⟩
          refine ⟨rfl, _, PStep.wrote h1 h2 h3, rfl, fun w3' hk3' hr' => ?_⟩
          have hz3 := hk3'.size
          have hrw := refWrite_ok w3' B R hr' (Nat.le_trans hB (Nat.le_trans h2.size hk3'.size)) m _ bytes (by rw [← d.rel.secs]; exact hm) (by rw [← d.rel.size]; exact hl) (hr w3' ((h2.mono (fun k _ h => hs ▸ ⟨S, R, rfl, Or.inl h⟩)).trans (hk3'.mono (fun _ _ f => f.elim)))) (fun b off n c e h => Nat.lt_of_lt_of_le (hrb b off n c e h) (Nat.le_trans h2.size hk3'.size)) hg (by rw [← d.rel.left]; exact b'.left.1) (by rw [← d.rel.left]; exact b'.left.2) (by have := b'.log; omega) (by rw [← d.rel.wr]; exact b'.wr.1) (by rw [← d.rel.wr]; have := b'.wr.2; omega)
          refine hrw.mono ?_
          rintro e w4 ⟨rfl, v4, lv4, h4, h5, h6, h7⟩
          refine ⟨by rw [hans], _, RStep.wrote h4 h5 h6 h7, rfl, d.rel.wrote d.r.firm m w.heap.size bytes wv' v4 lv4, ⟨?_, ?_, ⟨b'.r.1, ?_⟩, ⟨?_, ?_⟩, ⟨b'.f.1, ?_⟩, ⟨?_, ?_⟩⟩⟩
          · have := b'.mn; show S.mn + 1 ≤ N + 1; omega
          · have := b'.log; show (R.log ++ [_]).length ≤ N + 1; simp; omega
          · have := b'.r.2; show S.r ≤ _; omega
          · have := b'.wr.1; show 0 ≤ (if S.left = 0 then S.wr else S.wr + 1); split <;> omega
          · have := b'.wr.2; show (if S.left = 0 then S.wr else S.wr + 1) ≤ _; split <;> omega
          · have := b'.f.2; show S.f ≤ _; omega
          · have := b'.left.1; show -1 ≤ (if S.left ≤ 0 then S.left else S.left - 1); split <;> omega
          · have := b'.left.2; show (if S.left ≤ 0 then S.left else S.left - 1) ≤ _; split <;> omega
        · exact ⟨12, pair_same2 t (by omega) _ (write_size S.D S.secs S.size m bytes.length vc vo w p0 p1 (d.p.c6 hd) hm hl) (fun w' hk => refWrite_size w' B R (d.r.keepF hk) hg m bytes.length bc bo (by rw [← d.rel.secs]; exact hm) (by rw [← d.rel.size]; exact hl))⟩


/-- A disk out of bytes, and the document's. -/
def ImgPair (w2 : World) (B N : Nat) (l ov : Value) (b : Int) : Prop :=
  ∃ r : Int, Calls Try.prog 31 #[l, .int .i64 b] w2 fun e w3 => ∃ pp, e = .returned (.tuple #[.pointer pp, .int .i64 r]) ∧ Keeps (fun _ => False) w2 w3 ∧
    Calls Try.prog 46 #[ov, .int .i64 b] w3 fun e w4 => ∃ (rp : Option Addr) (s : Slot), e = .returned (.tuple #[.pointer rp, .int .i64 r]) ∧ Keeps (fun _ => False) w2 w4 ∧ slotP s = .pointer pp ∧ slotR s = .pointer rp ∧ (∀ S R, s = some (S, R) → Duo w4 B N S R ∧ ∀ k, S.foot k ∨ R.foot k → w2.heap.size ≤ k)

theorem img_pair (w2 : World) (B N : Nat) (hB : B ≤ w2.heap.size) (lo bo : Option Addr) (lc bc : Nat) (bytes : List Int) (hl : Reads w2 (.slice lo bytes.length lc) bytes) (hlb : ∀ b off n c, (Value.slice lo bytes.length lc) = .slice (some ⟨b, off, none⟩) n c → 0 < bytes.length → b < w2.heap.size)
    (ho : ∀ w', Keeps (fun _ => False) w2 w' → Reads w' (.slice bo bytes.length bc) bytes) (hob : ∀ b off n c, (Value.slice bo bytes.length bc) = .slice (some ⟨b, off, none⟩) n c → 0 < bytes.length → b < w2.heap.size) (b : Int) (hbl : bytes.length ≤ 140737488351232) : ImgPair w2 B N (.slice lo bytes.length lc) (.slice bo bytes.length bc) b := by
  by_cases hv : 32 ≤ b ∧ b ≤ 1024
  · obtain ⟨h3, h4⟩ := hv
    obtain ⟨s, rfl⟩ := Int.eq_ofNat_of_zero_le (show 0 ≤ b by omega)
    by_cases hbad : imgBad bytes.length s
    · refine ⟨12, (fromImage_size w2 lo bytes.length lc s (by omega) (by omega) (by unfold maxLen; omega) hbad).mono ?_⟩
      rintro e w3 ⟨rfl, rfl⟩
      refine ⟨_, rfl, Keeps.refl _ _, (refFromImage_size w3 bo bytes.length bc s (by omega) (by omega) (by unfold maxLen; omega) hbad).mono ?_⟩
      rintro e w4 ⟨rfl, rfl⟩
      exact ⟨_, none, rfl, Keeps.refl _ _, rfl, rfl, fun _ _ h => by cases h⟩
    · obtain ⟨n, hn⟩ : ∃ n, n = bytes.length / s := ⟨_, rfl⟩
      have hs0 : 0 < s := by omega
      have hm0 : bytes.length % s = 0 := Classical.byContradiction (fun h => hbad (Or.inr (Or.inl h)))
      have hlen : bytes.length = n * s := by rw [hn]; have := Nat.div_add_mod bytes.length s; rw [hm0, Nat.mul_comm] at this; omega
      have hn2 : n ≤ 16384 := by rw [hn]; exact Classical.byContradiction (fun h => hbad (Or.inr (Or.inr (by omega))))
      have hl0 : bytes.length ≠ 0 := fun h => hbad (Or.inl h)
      have hn1 : 1 ≤ n := by
        rcases Nat.eq_zero_or_pos n with h | h
        · rw [h, Nat.zero_mul] at hlen; exact absurd hlen hl0
        · exact h
      obtain ⟨b2, o2, c2', e2, hc2⟩ := hl.cells (by omega)
      simp at e2
      obtain ⟨rfl, rfl⟩ := e2
      have hP := fromImage_reads w2 b2 o2 n s bytes hlen hn1 hn2 (by omega) (by omega) lc (hlb _ _ _ _ rfl (by omega)) hc2
      rw [← hlen] at hP
      refine ⟨0, hP.mono ?_⟩
      rintro e w3 ⟨rfl, hk3, hd3⟩
      refine ⟨_, rfl, hk3, (refFromImage_ok w3 _ n s bytes hlen hn1 hn2 (by omega) (by omega) (ho w3 hk3) (fun b off n c e h => Nat.lt_of_lt_of_le (hob b off n c e h) hk3.size)).mono ?_⟩
      rintro e w4 ⟨Rn, rfl, hr4, hk4, hRe, hRD⟩
      have hduo := duo_fresh (N := N) hB hd3 rfl hk4 hr4 hk3.size (by rw [hRe]; exact Rel.img _ _ _ n s _ _ _) ⟨Nat.zero_le _, by rw [hRe]; exact Nat.zero_le _, ⟨Int.le_refl _, by simp [freshDS]⟩, ⟨Int.le_refl _, by simp [freshDS]⟩, ⟨Int.le_refl _, by simp [freshDS]⟩, by simp [freshDS]⟩
      exact ⟨_, some (freshDS (w2.heap.size + 2) w2.heap.size (w2.heap.size + 1) n s bytes, Rn), rfl, hk3.trans hk4, rfl, rfl, fun S R h => by cases h; exact hduo⟩
  · refine ⟨1, (fromImage_arg w2 lo bytes.length lc b hv).mono ?_⟩
    rintro e w3 ⟨rfl, rfl⟩
    refine ⟨_, rfl, Keeps.refl _ _, (refFromImage_arg w3 bo bytes.length bc b hv).mono ?_⟩
    rintro e w4 ⟨rfl, rfl⟩
    exact ⟨_, none, rfl, Keeps.refl _ _, rfl, rfl, fun _ _ h => by cases h⟩

/-- A survivor, and the document's. -/
def SurvPair (w2 : World) (B N : Nat) (s : Slot) (m ov : Value) : Prop :=
  Calls Try.prog 24 #[slotP s, m] w2 fun e w3 => ∃ pp, e = .returned (.pointer pp) ∧ Keeps (fun _ => False) w2 w3 ∧
    ∀ w3', Keeps (fun _ => False) w3 w3' → Calls Try.prog 50 #[slotR s, ov] w3' fun e w4 => ∃ (rp : Option Addr) (s' : Slot), e = .returned (.pointer rp) ∧ Keeps (fun _ => False) w2 w4 ∧ slotP s' = .pointer pp ∧ slotR s' = .pointer rp ∧ (∀ S R, s' = some (S, R) → Duo w4 B N S R ∧ ∀ k, S.foot k ∨ R.foot k → w2.heap.size ≤ k)

theorem surv_pair {X : Nat → Prop} {w2 : World} {V B N : Nat} {st : Nat → Slot} (t : Trio w2 X V B N st) (hB : B ≤ w2.heap.size) (hN : N ≤ 2147483644) (i : Nat) (m ov : Value) (ks : List Bool) (hm : Bools w2 m ks) (ho : ∀ w', Keeps (fun _ => False) w2 w' → Bools w' ov ks) (hkl : ks.length ≤ maxLen) : SurvPair w2 B N (st i) m ov := by
  cases hs : st i with
  | none =>
    refine (survive_nil _ w2).mono ?_
    rintro e w3 ⟨rfl, rfl⟩
    refine ⟨_, rfl, Keeps.refl _ _, fun w3' hk => (refSurvive_nil _ w3').mono ?_⟩
    rintro e w4 ⟨rfl, rfl⟩
    exact ⟨_, none, rfl, hk, rfl, rfl, fun _ _ h => by cases h⟩
  | some d =>
    obtain ⟨S, R⟩ := d
    have d := t.duo i S R hs
    have hws := d.ws
    refine (survive_any w2 B S d.p _ ks hm (by omega) hkl).mono ?_
    rintro e w3 ⟨rfl, hk3, hd3⟩
    refine ⟨_, rfl, hk3, fun w3' hk' => ?_⟩
    have hk := hk3.trans hk'
    refine (refSurvive_any w3' B R (d.r.keepF hk) _ ks (ho w3' hk) (by have := d.bnd.log; omega) hkl).mono ?_
    rintro e w4 ⟨Dn, nbv, nlv, nlog, rfl, hr4, hl4, hk4, hD4⟩
    have hlen4 : nlog.length ≤ N := by
      have h1 := congrArg List.length hl4
      simp at h1
      rw [h1]
      exact Nat.le_trans (rkeptTo_len _ _ _ _) d.bnd.log
    have hdf := duo_fresh (N := N) hB (hd3.keepF hk') rfl hk4 hr4 hk.size (d.rel.surv d.r ks _ _ _ _ _ _ _ hl4) ⟨Nat.zero_le _, hlen4, ⟨Int.le_refl _, by simp [freshDS]⟩, ⟨Int.le_refl _, by simp [freshDS]⟩, ⟨Int.le_refl _, by simp [freshDS]⟩, by simp [freshDS]⟩
    exact ⟨_, some (freshDS (w2.heap.size + 2) w2.heap.size (w2.heap.size + 1) S.secs S.size (settleAll S.size S.dur (keptTo ks S.ws S.ws.length)), survRS R Dn nbv nlv nlog nlog.length), rfl, hk.trans hk4, rfl, rfl, fun S R h => by cases h; exact hdf⟩

/-- What was handed in is looked at and marked. -/
def GTail (W : World) (V B N : Nat) (b : Bk) (ov : Value) (g L cap : Nat) : Prop :=
  Calls Try.prog 44 #[ov] W fun e w5 => ∃ g5 c5, e = .returned (.slice (some ⟨g5, 0, none⟩) (L + 3) c5) ∧
    Calls Try.prog 28 #[.slice (some ⟨g, 0, none⟩) (L + 3) cap, .slice (some ⟨g5, 0, none⟩) (L + 3) c5] w5 fun e w6 => e = .returned (.bool true) ∧
      Calls Try.prog 47 #[.pointer (some ⟨b.D, 0, none⟩), .slice (some ⟨g, 0, none⟩) L cap] w6 fun e w7 => ∃ v, e = .returned v ∧
        ∃ st' b', Both w7 V B N st' b' ∧ b'.D = b.D ∧ b'.n = b.n + 1 ∧ b'.kl = b.kl ∧ Keeps (fun q => b.all q ∨ q = g) W w7

theorem gtail {W : World} {V B N : Nat} {st : Nat → Slot} {b : Bk} {g cap : Nat} {ov : Value} {bytes : List Int} (t : Trio W (fun q => b.all q ∨ q = g) V B N st) (hb : BookAt W B b) (hg : ¬ b.all g) (hgV : V ≠ g) (hB : B ≤ W.heap.size) (row : W.ownsRow B 5 1 (.slice (some ⟨g, 0, none⟩) (bytes.length + 3) cap) (bytes.length + 3) (bs (bytes ++ [165, 90, 167])))
    (ho : Reads W ov bytes) (hob : ∀ b off n c, ov = .slice (some ⟨b, off, none⟩) n c → 0 < bytes.length → b < W.heap.size) (hbl : bytes.length ≤ 140737488351232) (hn : b.n ≤ 2199031644160) : GTail W V B N b ov g bytes.length cap := by
  refine (roomy_any W ov bytes ho hob hbl).mono ?_
  rintro e w5 ⟨g5, c5, rfl, r5, k5⟩
  refine ⟨g5, c5, rfl, ?_⟩
  have row5 := ownsRow_kept row k5 (fun _ _ => id)
  refine (eqBytes_any w5 _ _ _ _ (row_reads row5).1 (row_reads r5).1 (by simp; unfold maxLen; omega)).mono ?_
  rintro e w6 ⟨rfl, m, rfl⟩
  refine ⟨by simp, ?_⟩
  have k6 := k5.trans (keeps_drewN w5 m)
  have row6 := ownsRow_kept row k6 (fun _ _ => id)
  have row6' := row_take row6 bytes.length (by omega) (by omega)
  have hbt : (bs (bytes ++ [165, 90, 167])).take (bytes.length * 1) = bs bytes := by
    rw [bs_append, Nat.mul_one, List.take_left' (by simp [bs])]
  rw [hbt] at row6'
  refine (bytes_any (w5.drewN m) B b (hb.keep k6 (fun _ _ => id)) (Nat.le_trans hB k6.size) _ bytes.length cap bytes rfl row6' (fun q hq h => by cases hq; exact hg h) (by omega) hn).mono ?_
  rintro e w7 ⟨v, rfl, b2, hb2, hD2, hn2, hkl2, k7, ha2⟩
  have hs6 := k6.size
  have KK : Keeps (fun q => b.all q ∨ q = g) W w7 := (k6.mono (fun _ _ f => f.elim)).next k7 (fun q _ h => by
    rcases h with h | h
    · exact Or.inl (Or.inl h)
    · cases h; exact Or.inr rfl)
  have hVa : ¬ b.all V := hb.not_V t.blk
  refine ⟨_, rfl, st, b2, ⟨t.book KK (fun h => h.elim hVa hgV) (fun q h => ?_) (fun q h => (hb2.all_at h).2), hb2⟩, hD2, hn2, hkl2, KK⟩
  rcases ha2 q h with h | h | h
  · exact Or.inl (Or.inl h)
  · cases h; exact Or.inl (Or.inr rfl)
  · exact Or.inr (Nat.le_trans hs6 h)

end Go.Proofs.Ytjmbcelkhiopeaa

namespace Go.Proofs.Ytjmbcelkhiopeaa
open Go.RowKit Go.Maps
attribute [local go_sem ↓] Go.wp_at_zero Go.wp_at_succ

theorem slot_ptr {s : Slot} {pp rp : Option Addr} (h1 : slotP s = .pointer pp) (h2 : slotR s = .pointer rp) : (pp = none ∧ rp = none) ∨ ∃ a c, pp = some a ∧ rp = some c := by
  cases s with
  | none => simp [slotP, slotR] at h1 h2; exact Or.inl ⟨h1.symm, h2.symm⟩
  | some d => simp [slotP, slotR] at h1 h2; exact Or.inr ⟨_, _, h1.symm, h2.symm⟩

set_option maxRecDepth 100000 in
set_option maxHeartbeats 8000000 in
theorem given_any (w : World) (V B N : Nat) (st : Nat → Slot) (b : Bk) (T : Both w V B N st b) (hV : B ≤ V) (hB : B ≤ w.heap.size) (hN : N ≤ 2147483640) (o : OpA) (hO : OpAt w B o) (hkind : o.kind = 2 ∨ o.kind = 5 ∨ o.kind = 3) (hn : b.n ≤ 2199031644160) (hkn : b.kl.length ≤ 4294967295) :
    Calls Try.prog 32 #[.pointer (some ⟨V, 0, none⟩), .pointer (some ⟨b.D, 0, none⟩), .agg o.cells] w fun e w' => e = .returned (.bool true) ∧ ∃ st' b', Both w' V B (N + 2) st' b' ∧ b'.D = b.D ∧ b'.n ≤ b.n + 1 ∧ b'.kl.length ≤ b.kl.length + 1 ∧ Keeps (fun q => B ≤ q) w w' := by
  obtain ⟨w1, hw1⟩ : ∃ w1, w1 = w.alloc (.cells o.cells 81) := ⟨_, rfl⟩
  have hb1 : w1.heap[w.heap.size]? = some (.cells o.cells 81 (0, 0)) := by rw [hw1]; exact heap_alloc_new w _
  have hk1 : Keeps (fun _ => False) w w1 := by rw [hw1]; exact (Keeps.refl _ _).alloc _
  have hO1 := hO.keepF hB hk1
  have hVlt0 := lt_of_block T.trio.blk
  have hs1 : w.heap.size < w1.heap.size := lt_of_block hb1
  obtain ⟨wh, kd, a, b', bv, kv, bytes, keep⟩ := o
  obtain ⟨bo, bc, hbv⟩ := hO.bytes.form
  obtain ⟨ko, kc, hkv⟩ := hO.keep.form
  have hbl := hO.blen
  have hkl := hO.klen
  simp only at hbv hkv hkind hbl hkl
  subst hbv hkv
  have HRM := hide (roomy_any w1 _ _ hO1.bytes (fun b off n c e h => by have := hO1.lt b off n c e h; omega) hbl)
  simp only at HRM
  simp only [OpA.cells] at hw1 hb1 ⊢
  obtain ⟨i, hi, hi3⟩ := mod3 wh
  have hwho := who_any wh
  rw [hi] at hwho
  have HWH := hide hwho
  have hi0 : (0 : Int) ≤ (i : Int) := by omega
  have hi3' : (i : Int) < 3 := by omega
  have hne1 : w.heap.size ≠ V := by omega
  have hne2 : V ≠ w.heap.size := by omega
  have HW1 := hide hw1
  have HK1 := hide hk1
  have HB1 := hide hb1
  have HT := hide T
  have HO1 := hide hO1
  have c4 := cell_of_blk hb1 4
  simp at c4
  clear T hO hO1 hb1 hw1 hk1 hwho hi
  go_enter Try.func32, Try.ntmps32
  go_wp2_with fail
  rw [← unhide HW1]
  refine (unhide HRM).mono ?_
  rintro e w2 ⟨g, cap, rfl, hrow, hk2⟩
  have hb2 := (hk2.block _ (lt_of_block (unhide HB1)) id).trans (unhide HB1)
  have d0 := cell_of_blk hb2 0
  have d1 := cell_of_blk hb2 1
  have d2 := cell_of_blk hb2 2
  have d3 := cell_of_blk hb2 3
  have d4 := cell_of_blk hb2 4
  have d5 := cell_of_blk hb2 5
  simp at d0 d1 d2 d3 d4 d5
  have hlw2 : w.heap.size < w2.heap.size := lt_of_block hb2
  have hcap : bytes.length + 3 ≤ cap := by
    rcases hrow.2 with ⟨h, _⟩ | ⟨g', cap', cur, hv, _, _, hnc, _⟩
    · cases h
    · cases hv; exact hnc
  have hcap1 : (bytes.length : Int) ≤ (cap : Int) := by omega
  have hcap2 : (0 : Int) ≤ (bytes.length : Int) := by omega
  have hcap3 : bytes.length ≤ cap := by omega
  have hg1 : w1.heap.size ≤ g := (hrow.lt g rfl).1
  have hg2 : g < w2.heap.size := (hrow.lt g rfl).2
  have hK2 := (unhide HK1).trans hk2
  have T2 := (unhide HT).keep hK2
  have hO2 := (unhide HO1).keepF (by omega) hk2
  have hall : ∀ q, b.all q → q < w.heap.size := fun q h => ((unhide HT).book.all_at h).2
  have hgall : ¬ b.all g := fun h => by have := hall g h; omega
  have hgV : V ≠ g := by omega
  have tX : Trio w2 (fun q => b.all q ∨ q = g) V B N st := T2.trio.more _ (fun q h => h.elim (fun h => (T2.book.all_at h).2) (fun h => by omega)) (fun j S R e q hq h => by
    rcases h with h | h
    · exact T2.trio.av j S R e q hq h
    · have := (unhide HT).trio.foot_lt e hq; omega)
  have hVlt := lt_of_block T2.trio.blk
  have fv : ∀ j, w2.frozen? ⟨V, j, none⟩ = false := frozen_of_blk T2.trio.blk
  obtain ⟨pv, rv⟩ := slot_cells T2.trio i hi3
  obtain ⟨p0, hp0⟩ : ∃ pp, slotP (st i) = .pointer pp := ⟨_, rfl⟩
  obtain ⟨r0, hr0⟩ : ∃ rp, slotR (st i) = .pointer rp := ⟨_, rfl⟩
  rw [hp0] at pv
  rw [hr0] at rv
  have hreads : Reads w2 (.slice (some ⟨g, 0, none⟩) bytes.length cap) bytes := by
    have h := row_take hrow bytes.length (by omega) (by omega)
    have hbt : (bs (bytes ++ [165, 90, 167])).take (bytes.length * 1) = bs bytes := by
      rw [bs_append, Nat.mul_one, List.take_left' (by simp [bs])]
    rw [hbt] at h
    exact (row_reads h).1
  have hB2 : B ≤ w2.heap.size := by omega
  have hov : ∀ w', Keeps (fun q => B ≤ q) w2 w' → Reads w' (.slice bo bytes.length bc) bytes := fun w' h => (hO2.kept hB2 h).bytes
  have hovb : ∀ b off n c, (Value.slice bo bytes.length bc) = .slice (some ⟨b, off, none⟩) n c → 0 < bytes.length → b < w2.heap.size := fun b off n c e h => Nat.lt_of_lt_of_le (hO2.lt b off n c e h) hB2
  have hallB : ∀ q, b.all q ∨ q = g → B ≤ q := fun q h => h.elim (fun h => ((unhide HT).book.all_at h).1) (fun h => by omega)
  have HROW := hide hrow
  have HK2 := hide hK2
  have HT2 := hide T2
  have HO2 := hide hO2
  have HTX := hide tX
  have HB2 := hide hb2
  have HOV := hide hov
  have HOVB := hide hovb
  have HALLB := hide hallB
  have HP0 := hide hp0
  have HR0 := hide hr0
  have HRD := hide hreads
  clear hrow hk2 hb2 hK2 T2 hO2 tX hov hovb hallB hp0 hr0 hreads HRM c4
  go_wp2_with fail
  refine (unhide HWH _).mono ?_
  rintro e wa ⟨rfl, hwa⟩
  subst wa
  rcases hkind with rfl | rfl | rfl
  · obtain ⟨r, hI⟩ := img_pair w2 B N hB2 (some ⟨g, 0, none⟩) bo cap bc bytes (unhide HRD) (fun b off n c e h => by simp at e; omega) (fun w' h => unhide HOV w' (h.mono (fun _ _ f => f.elim))) (unhide HOVB) b' hbl
    have HI := hide hI
    clear hI
    go_wp2_with fail
    refine (unhide HI).mono ?_
    rintro e w3 ⟨pp, rfl, k3, h3⟩
    have q3 := (k3.cell (o := 3) hlw2 id).trans d3
    have q4 := (k3.cell (o := 4) hlw2 id).trans d4
    have hlw3 : w.heap.size < w3.heap.size := Nat.lt_of_lt_of_le hlw2 k3.size
    have H3 := hide h3
    clear h3 k3 HI
    go_wp2_with fail
    refine (unhide H3).mono ?_
    rintro e w4 ⟨rp, s, rfl, k4, hp, hr, hd⟩
    have hpn := slot_ptr hp hr
    have hst := (unhide HTX).store i hi3 s (Nat.le_refl _) k4 hd
    rw [hp, hr] at hst
    have q4' := (k4.cell (o := 4) hlw2 id).trans d4
    have fv4 : ∀ j, w4.frozen? ⟨V, j, none⟩ = false := frozen_of_blk ((unhide HT2).trio.keep k4).blk
    have pv4 := (k4.cell (o := i) hVlt id).trans pv
    have rv4 := (k4.cell (o := 3 + i) hVlt id).trans rv
    have hVlt4 := Nat.lt_of_lt_of_le hVlt k4.size
    have hlw4 : w.heap.size < w4.heap.size := Nat.lt_of_lt_of_le hlw2 k4.size
    have hbW := ((unhide HT2).book).keep hst.2 (fun q h e => (unhide HT2).book.not_V (unhide HT2).trio.blk (e ▸ h))
    have hsW := hst.2.size
    have HGT := hide (gtail (g := g) (cap := cap) (ov := .slice bo bytes.length bc) (bytes := bytes) hst.1 hbW hgall hgV (Nat.le_trans hB2 hsW) (ownsRow_lower (ownsRow_kept (unhide HROW) hst.2 (fun q hq e => by cases hq; exact hgV e.symm)) (by omega)) (unhide HOV _ (hst.2.mono (fun q _ e => by omega))) (fun b off n c e h => Nat.lt_of_lt_of_le (unhide HOVB b off n c e h) hsW) hbl hn)
    have HKW := hide (((unhide HK2).mono (fun _ _ f => f.elim)).trans (hst.2.mono (fun q _ e => by omega)) : Keeps (fun q => B ≤ q) w _)
    unfold GTail at HGT
    clear hst hbW hsW k4 hp hr hd H3 q3 q4
    go_wp2_with fail
    refine (unhide HGT).mono ?_
    rintro e w5 ⟨g5, c5, rfl, h5⟩
    have H5 := hide h5
    clear h5 HGT
    go_wp2_with fail
    refine (unhide H5).mono ?_
    rintro e w6 ⟨rfl, h6⟩
    have H6 := hide h6
    clear h6 H5
    go_wp2_with fail
    refine (unhide H6).mono ?_
    rintro e w7 ⟨v7, rfl, st', b9, hT, hD, hbn, hkl', hK⟩
    have H9 := hide (And.intro hT (And.intro hD (And.intro hbn (And.intro hkl' hK))))
    clear hT hD hbn hkl' hK H6
    rcases hpn with ⟨rfl, rfl⟩ | ⟨a1, a2, rfl, rfl⟩
    all_goals
      go_wp2
      go_ret
      obtain ⟨hT, hD, hbn, hkl', hK⟩ := unhide H9
      exact ⟨rfl, st', b9, ⟨hT.trio.mono (by omega), hT.book⟩, hD, by omega, by rw [hkl']; omega, (unhide HKW).trans (hK.mono (fun q _ h => unhide HALLB q h))⟩
  · have tXd := (unhide HTX).keep (Keeps.refl _ w2).drew
    obtain ⟨r, hW⟩ := pair_write2 tXd (by omega) hB2 i a (some ⟨g, 0, none⟩) bo cap bc bytes ((unhide HRD).kept (fun _ _ _ hx _ => hx)) (fun b off e => by simp at e; show b < w2.heap.size; omega)
      (fun w' h => unhide HOV w' ((Keeps.refl _ w2).drew.trans (h.mono (fun q _ h => (tXd.slot_own h).2)))) (unhide HOVB)
    unfold PairCalls2 at hW
    rw [unhide HP0, unhide HR0] at hW
    have HPC := hide hW
    have hno : ¬ slotOwn (st i) w.heap.size := fun h => by have := ((unhide HT).trio.slot_own h).1; omega
    have hnV : ¬ slotOwn (st i) V := fun ⟨S, R, hs, h⟩ => (unhide HT).trio.free i S R hs V (h.imp Or.inl Or.inl) rfl
    have hng : ¬ slotOwn (st i) g := fun h => by have := ((unhide HT).trio.slot_own h).1; omega
    have HOWN : Hid (∀ q, slotOwn (st i) q → B ≤ q ∧ ¬ b.all q) := fun q h => ⟨((unhide HT).trio.slot_own h).2, slotOwn_no (unhide HT).trio h⟩
    clear hW tXd
    go_wp2_with fail
    go_region_held3 (fun w' => w'.cell? ⟨V, i, none⟩ = some (.pointer p0) ∧ w'.cell? ⟨w.heap.size, 2, none⟩ = some (.int .i64 a))
      (go_keep)
      (first
        | (go_at_call 12; refine (unhide HPC).mono ?_; rintro e w3 ⟨rfl, k3, h3⟩; have dv := (k3.cell (o := i) hVlt hnV).trans pv; have dd2 := (k3.cell (o := 2) hlw2 hno).trans d2))
    have e2 := (k3.cell (o := 2) hlw2 hno).trans d2
    have e4 := (k3.cell (o := 4) hlw2 hno).trans d4
    have ev := (k3.cell (o := 3 + i) hVlt hnV).trans rv
    have hlw3 : w.heap.size < w3.heap.size := Nat.lt_of_lt_of_le hlw2 k3.size
    have hVlt3 : V < w3.heap.size := Nat.lt_of_lt_of_le hVlt k3.size
    have H3 := hide (h3 w3.drew (Keeps.refl _ _).drew)
    clear h3 k3 dv dd2 HPC
    go_wp2_with fail
    go_region_held3 (fun w' => w'.cell? ⟨V, 3 + i, none⟩ = some (.pointer r0) ∧ w'.cell? ⟨w.heap.size, 2, none⟩ = some (.int .i64 a) ∧ w'.cell? ⟨w.heap.size, 4, none⟩ = some (.slice bo bytes.length bc))
      (go_keep)
      (first
        | (go_at_call 48; refine (unhide H3).mono ?_; rintro e w4 ⟨rfl, ht4, k4⟩; have dv := (k4.cell (o := 3 + i) hVlt hnV).trans rv; have dd2 := (k4.cell (o := 2) hlw2 hno).trans d2; have dd4 := (k4.cell (o := 4) hlw2 hno).trans d4))
    obtain ⟨st4, t4⟩ := ht4
    have q4' := (k4.cell (o := 4) hlw2 hno).trans d4
    have hlw4 : w.heap.size < w4.heap.size := Nat.lt_of_lt_of_le hlw2 k4.size
    have hk4 : Keeps (slotOwn (st i)) w2 w4 := (Keeps.refl _ w2).drew.trans k4
    have hbW := ((unhide HT2).book).keep hk4 (fun q h h' => (unhide HOWN q h').2 h)
    have hsW := hk4.size
    have HGT := hide (gtail (g := g) (cap := cap) (ov := .slice bo bytes.length bc) (bytes := bytes) t4 hbW hgall hgV (Nat.le_trans hB2 hsW) (ownsRow_lower (ownsRow_kept (unhide HROW) hk4 (fun q hq e => by cases hq; exact hng e)) (by omega)) (unhide HOV _ (hk4.mono (fun q _ h => (unhide HOWN q h).1))) (fun b off n c e h => Nat.lt_of_lt_of_le (unhide HOVB b off n c e h) hsW) hbl hn)
    have HKW := hide (((unhide HK2).mono (fun _ _ f => f.elim)).trans (hk4.mono (fun q _ h => (unhide HOWN q h).1)) : Keeps (fun q => B ≤ q) w _)
    unfold GTail at HGT
    clear hbW hsW k4 hk4 t4 H3 dv dd2 dd4
    go_wp2_with fail
    refine (unhide HGT).mono ?_
    rintro e w5 ⟨g5, c5, rfl, h5⟩
    have H5 := hide h5
    clear h5 HGT
    go_wp2_with fail
    refine (unhide H5).mono ?_
    rintro e w6 ⟨rfl, h6⟩
    have H6 := hide h6
    clear h6 H5
    go_wp2_with fail
    refine (unhide H6).mono ?_
    rintro e w7 ⟨v7, rfl, st', b9, hT, hD, hbn, hkl', hK⟩
    have H9 := hide (And.intro hT (And.intro hD (And.intro hbn (And.intro hkl' hK))))
    clear hT hD hbn hkl' hK H6
    go_wp2
    go_ret
    obtain ⟨hT, hD, hbn, hkl', hK⟩ := unhide H9
    exact ⟨rfl, st', b9, ⟨hT.trio.mono (by omega), hT.book⟩, hD, by omega, by rw [hkl']; omega, (unhide HKW).trans (hK.mono (fun q _ h => unhide HALLB q h))⟩
  · obtain ⟨j, hj, hj3⟩ := mod3 b'
    have hj0 : (0 : Int) ≤ (j : Int) := by omega
    have hj3' : (j : Int) < 3 := by omega
    have hwhb := who_any b'
    rw [hj] at hwhb
    have HWB := hide hwhb
    clear hwhb hj
    have HCP := hide (copiedBools_any w2 _ _ (unhide HO2).keep (by show keep.length ≤ _; omega))
    simp only at HCP
    go_wp2_with fail
    refine (unhide HCP).mono ?_
    rintro e w3 ⟨v', rfl, hrm, hk3⟩
    obtain ⟨mo, mc, rfl, -⟩ := own_form hrm
    have T3 := (unhide HT2).keep hk3
    have hO3 := (unhide HO2).keepF hB2 hk3
    have hB3 : B ≤ w3.heap.size := Nat.le_trans hB2 hk3.size
    have hmlo : ∀ q, (Value.slice mo keep.length mc).ownBlock = some q → w2.heap.size ≤ q ∧ q < w3.heap.size := fun q h => hrm.lt q h
    have tX3 : Trio w3 (fun q => b.all q ∨ (Value.slice mo keep.length mc).ownBlock = some q) V B N st := T3.trio.more _ (fun q h => h.elim (fun h => (T3.book.all_at h).2) (fun h => (hmlo q h).2)) (fun j S R e q hq h => by
      rcases h with h | h
      · exact T3.trio.av j S R e q hq h
      · have := (unhide HT).trio.foot_lt e hq; have := hmlo q h; omega)
    have hSP := surv_pair tX3 hB3 (by omega) i (.slice mo keep.length mc) (.slice ko keep.length kc) keep (bools_of_row' hrm) (fun w' h => (hO3.keepF hB3 h).keep) (by unfold maxLen; omega)
    unfold SurvPair at hSP
    rw [unhide HP0, unhide HR0] at hSP
    have HSP := hide hSP
    have u5 := (hk3.cell (o := 5) hlw2 id).trans d5
    have u3 := (hk3.cell (o := 3) hlw2 id).trans d3
    have pv3 := (hk3.cell (o := i) hVlt id).trans pv
    have rv3 := (hk3.cell (o := 3 + i) hVlt id).trans rv
    obtain ⟨pw, rw'⟩ := slot_cells T3.trio j hj3
    have hlw3 : w.heap.size < w3.heap.size := Nat.lt_of_lt_of_le hlw2 hk3.size
    have hVlt3 : V < w3.heap.size := Nat.lt_of_lt_of_le hVlt hk3.size
    have hmV : (Value.slice mo keep.length mc).ownBlock ≠ some V := fun e => by have := hmlo V e; omega
    have hmall : ∀ q, (Value.slice mo keep.length mc).ownBlock = some q → ¬ b.all q := fun q h h' => by have := hmlo q h; have := hall q h'; omega
    have HRM := hide hrm
    have HT3 := hide T3
    have HTX3 := hide tX3
    have HK3 := hide ((unhide HK2).trans hk3)
    have HMLO := hide hmlo
    clear hrm hk3 T3 hO3 tX3 hSP hmlo HCP
    go_wp2_with fail
    refine (unhide HSP).mono ?_
    rintro e w4 ⟨pp, rfl, k4, h4⟩
    have x5 := (k4.cell (o := 5) hlw3 id).trans u5
    have x3 := (k4.cell (o := 3) hlw3 id).trans u3
    have rv4 := (k4.cell (o := 3 + i) hVlt3 id).trans rv3
    have hlw4 : w.heap.size < w4.heap.size := Nat.lt_of_lt_of_le hlw3 k4.size
    have hVlt4 : V < w4.heap.size := Nat.lt_of_lt_of_le hVlt3 k4.size
    have H4 := hide (h4 w4.drew (Keeps.refl _ _).drew)
    clear h4 k4 HSP
    go_wp2_with fail
    go_region_held3 (fun w' => w'.cell? ⟨V, 3 + i, none⟩ = some (.pointer r0) ∧ w'.cell? ⟨w.heap.size, 5, none⟩ = some (.slice ko keep.length kc))
      (go_keep)
      (first
        | (go_at_call 50; refine (unhide H4).mono ?_; rintro e w5 ⟨rp, s, rfl, k5, hp, hr, hd⟩; have dv := (k5.cell (o := 3 + i) hVlt3 id).trans rv3; have dd5 := (k5.cell (o := 5) hlw3 id).trans u5))
    have hpn := slot_ptr hp hr
    have hst := (unhide HTX3).store j hj3 s (Nat.le_refl _) k5 hd
    rw [hp, hr] at hst
    have y3 := (k5.cell (o := 3) hlw3 id).trans u3
    have fv5 : ∀ j, w5.frozen? ⟨V, j, none⟩ = false := frozen_of_blk ((unhide HT3).trio.keep k5).blk
    have pv5 := (k5.cell (o := j) hVlt3 id).trans pw
    have rv5 := (k5.cell (o := 3 + j) hVlt3 id).trans rw'
    have hVlt5 := Nat.lt_of_lt_of_le hVlt3 k5.size
    have hlw5 : w.heap.size < w5.heap.size := Nat.lt_of_lt_of_le hlw3 k5.size
    have hbW := ((unhide HT3).book).keep hst.2 (fun q h e => (unhide HT3).book.not_V (unhide HT3).trio.blk (e ▸ h))
    have hsW := hst.2.size
    have hrW := ownsRow_kept (unhide HRM) hst.2 (fun q hq e => hmV (e ▸ hq))
    have HKB := hide (keeps_any (((w5.setCell ⟨V, j, none⟩ (.pointer pp)).setCell ⟨V, 3 + j, none⟩ (.pointer rp)).drew.drew) B b (hbW.keep (Keeps.refl _ _).drew.drew (fun _ _ => id)) (Nat.le_trans hB3 hsW) mo keep.length mc keep rfl (ownsRow_lower (ownsRow_kept hrW (Keeps.refl _ _).drew.drew (fun _ _ => id)) hB2) hmall (by omega) hkn)
    have HST := hide hst.1
    have HKW := hide (((unhide HK3).mono (fun _ _ f => f.elim)).trans (hst.2.mono (fun q _ e => by omega)) : Keeps (fun q => B ≤ q) w _)
    have HVA := hide ((unhide HT3).book.not_V (unhide HT3).trio.blk)
    clear hst hbW hsW hrW k5 hp hr hd H4 dv dd5
    go_wp2_with fail
    go_region_law (first
        | (go_simp; go_at_call 45; refine (unhide HWB _).mono ?_; rintro e wa ⟨rfl, rfl⟩))
    go_wp2_with fail
    go_region_law (first
        | (go_simp; go_at_call 45; refine (unhide HWB _).mono ?_; rintro e wa ⟨rfl, rfl⟩))
    go_wp2_with fail
    refine (unhide HKB).mono ?_
    rintro e w7 ⟨v7, rfl, b9, hb9, hD, hbn, hkl', k7, ha9⟩
    have H9 := hide (And.intro hb9 (And.intro hD (And.intro hbn (And.intro hkl' (And.intro k7 ha9)))))
    clear hb9 hD hbn hkl' k7 ha9 HKB
    rcases hpn with ⟨rfl, rfl⟩ | ⟨a1, a2, rfl, rfl⟩
    all_goals
      go_wp2
      go_ret
      obtain ⟨hb9, hD, hbn, hkl', k7, ha9⟩ := unhide H9
      have tW := (unhide HST).keep (Keeps.refl _ _).drew.drew
      have k7' := k7.mono (G := fun q => b.all q ∨ (Value.slice mo keep.length mc).ownBlock = some q) (fun q _ h => h.imp Or.inl id)
      refine ⟨rfl, _, b9, ⟨(tW.book k7' (fun h => h.elim (unhide HVA) hmV) (fun q h => ?_) (fun q h => (hb9.all_at h).2)).mono (by omega), hb9⟩, hD, by omega, by omega, ((unhide HKW).drew.drew).trans (k7'.mono (fun q _ h => h.elim (fun h => ((unhide HT).book.all_at h).1) (fun h => by have := unhide HMLO q h; omega)))⟩
      rcases ha9 q h with h | h | h
      · exact Or.inl (Or.inl h)
      · exact Or.inl (Or.inr h)
      · exact Or.inr h
end Go.Proofs.Ytjmbcelkhiopeaa
