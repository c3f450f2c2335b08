import Derived.Test.YtjmbcelkhiopeaaRr
namespace Go.Proofs.Ytjmbcelkhiopeaa
open Go.RowKit Go.Maps

/-- The blocks that a call at one place may write. -/
def slotOwn (s : Slot) (k : Nat) : Prop := ∃ S R, s = some (S, R) ∧ (S.own k ∨ R.own k)

/-- A call at the program's disk of a place, and behind it the like call at the document's: one answer, and the places stand. -/
def PairCalls (f g : Nat) (pa ra : Array Value) (ans : Value) (w : World) (X : Nat → Prop) (V B N : Nat) (s : Slot) : Prop :=
  Calls Try.prog f pa w fun e w3 => e = .returned ans ∧ Keeps (slotOwn s) w w3 ∧ Calls Try.prog g ra w3 fun e w4 => e = .returned ans ∧ (∃ st', Trio w4 X V B N st') ∧ Keeps (slotOwn s) w w4

theorem pair_same {X : Nat → Prop} {f g : Nat} {pa ra : Array Value} {ans : Value} {w : World} {V B N N' : Nat} {st : Nat → Slot} (t : Trio w X V B N st) (hN : N ≤ N') (s : Slot) (h1 : Calls Try.prog f pa w fun e w' => e = .returned ans ∧ w' = w) (h2 : Calls Try.prog g ra w fun e w' => e = .returned ans ∧ w' = w) : PairCalls f g pa ra ans w X V B N' s := by
  refine h1.mono ?_
  rintro e w3 ⟨rfl, rfl⟩
  refine ⟨rfl, Keeps.refl _ _, h2.mono ?_⟩
  rintro e w4 ⟨rfl, rfl⟩
  exact ⟨rfl, ⟨st, t.blk, fun i S R h => (t.duo i S R h).mono hN, t.free, t.apart, t.av, t.xlt⟩, Keeps.refl _ _⟩

theorem pair_step {X : Nat → Prop} {f g : Nat} {pa ra : Array Value} {ans : Value} {w : World} {V B N N' : Nat} {st : Nat → Slot} (t : Trio w X V B N st) (hN : N ≤ N') {i : Nat} {S : DS} {R : RS} (hs : st i = some (S, R))
    (h1 : Calls Try.prog f pa w fun e w3 => e = .returned ans ∧ ∃ S', PStep w B S S' w3 ∧ S'.D = S.D ∧
      (RefAt w3 B R → Calls Try.prog g ra w3 fun e w4 => e = .returned ans ∧ ∃ R', RStep w3 B R R' w4 ∧ R'.D = R.D ∧ Rel S' R' ∧ Bnd N' S' R')) : PairCalls f g pa ra ans w X V B N' (some (S, R)) := by
  have d := t.duo i S R hs
  refine h1.mono ?_
  rintro e w3 ⟨rfl, S', hp, e1, h2⟩
  refine ⟨rfl, hp.keeps.mono (fun k _ h => ⟨S, R, rfl, Or.inl h⟩), (h2 (d.mid hp (Keeps.refl _ _))).mono ?_⟩
  rintro e w4 ⟨rfl, R', hr, e2, hrel, hb⟩
  obtain ⟨a1, a2, a3⟩ := d.step hp (Keeps.refl _ _) hr hrel hb
  exact ⟨rfl, ⟨_, t.step hs hN a1 a2 a3 e1 e2⟩, a2.mono (fun k _ h => ⟨S, R, rfl, h⟩)⟩

theorem pair_flush {X : Nat → Prop} {w : World} {V B N : Nat} {st : Nat → Slot} (t : Trio w X V B N st) (hN : N ≤ 2147483646) (i : Nat) : ∃ r : Int, PairCalls 11 64 #[slotP (st i)] #[slotR (st i)] (.int .i64 r) w X V B (N + 1) (st i) := by
  cases hs : st i with
  | none => exact ⟨1, pair_same t (by omega) _ (flush_nil w) (refFlush_nil w)⟩
  | some d =>
    obtain ⟨S, R⟩ := d
    have d := t.duo i S R hs
    cases hd : S.dead with
    | true => exact ⟨10, pair_same t (by omega) _ (flush_dead S.D w (d.p.c6 hd)) (refFlush_dead R.D w (d.r.c6 (d.rel.dead ▸ hd)))⟩
    | false =>
      refine ⟨0, pair_step (pa := #[.pointer (some ⟨S.D, 0, none⟩)]) (ra := #[.pointer (some ⟨R.D, 0, none⟩)]) t (by omega) hs ?_⟩
      have hf := d.bnd.f
      refine (flush_ok w B S d.p hd (by have := d.ws; omega) hf.1 (by omega)).mono ?_
      rintro e w3 ⟨rfl, M', h1, h2⟩
      refine ⟨rfl, _, PStep.flushed h1 h2, rfl, fun hr => ?_⟩
      refine (refFlush_ok w3 B R hr (d.rel.dead ▸ hd) (by rw [← d.rel.f]; exact hf.1) (by rw [← d.rel.f]; omega)).mono ?_
      rintro e w4 ⟨rfl, h3, h4⟩
      have b := d.bnd
      refine ⟨rfl, _, RStep.set h3 h4 rfl rfl rfl rfl, rfl, d.rel.flushed M', ⟨by have := b.mn; show S.mn ≤ _; omega, by have := b.log; show R.log.length ≤ _; omega, ⟨b.r.1, ?_⟩, ⟨b.wr.1, ?_⟩, ⟨?_, ?_⟩, b.left⟩⟩
      · have := b.r.2; show S.r ≤ _; omega
      · have := b.wr.2; show S.wr ≤ _; omega
      · have := b.f.1; show 0 ≤ S.f + 1; omega
      · have := b.f.2; show S.f + 1 ≤ _; omega

theorem pair_arm {X : Nat → Prop} {w : World} {V B N : Nat} {st : Nat → Slot} (t : Trio w X V B N st) (i : Nat) (x : Int) (hx : x ≤ 9223372036854775807) : ∃ r : Int, PairCalls 23 65 #[slotP (st i), .int .i64 x] #[slotR (st i), .int .i64 x] (.int .i64 r) w X V B (N + 1) (st i) := by
  cases hs : st i with
  | none => exact ⟨1, pair_same t (by omega) _ (arm_nil x w) (refArm_nil x w)⟩
  | some d =>
    obtain ⟨S, R⟩ := d
    have d := t.duo i S R hs
    cases hd : S.dead with
    | true => exact ⟨10, pair_same t (by omega) _ (arm_dead S.D w x (d.p.c6 hd)) (refArm_dead R.D x w (d.r.c6 (d.rel.dead ▸ hd)))⟩
    | false =>
      refine ⟨0, pair_step (pa := #[.pointer (some ⟨S.D, 0, none⟩), .int .i64 x]) (ra := #[.pointer (some ⟨R.D, 0, none⟩), .int .i64 x]) t (by omega) hs ?_⟩
      refine (arm_ok w B S d.p hd x).mono ?_
      rintro e w3 ⟨rfl, h1, h2⟩
      refine ⟨rfl, _, PStep.set h1 h2 rfl rfl rfl rfl rfl, rfl, fun hr => ?_⟩
      refine (refArm_ok w3 B R hr (d.rel.dead ▸ hd) x).mono ?_
      rintro e w4 ⟨rfl, h3, h4⟩
      have b := d.bnd.mono (show N ≤ N + 1 by omega)
      exact ⟨rfl, _, RStep.set h3 h4 rfl rfl rfl rfl, rfl, d.rel.armed x, ⟨b.mn, b.log, b.r, b.wr, b.f, ⟨by show -1 ≤ max x (-1); omega, by show max x (-1) ≤ _; omega⟩⟩⟩

theorem pair_write {X : Nat → Prop} {w : World} {V B N : Nat} {st : Nat → Slot} (t : Trio w X V B N st) (hN : N ≤ 2147483646) (hB : B ≤ w.heap.size) (i : Nat) (a : Int) (vo bo : Option Addr) (vc bc : Nat) (bytes : List Int) (hv : Reads w (.slice vo bytes.length vc) bytes) (hvb : ∀ b off, vo = some ⟨b, off, none⟩ → b < w.heap.size)
    (hr : ∀ w', Keeps (slotOwn (st i)) w w' → Reads w' (.slice bo bytes.length bc) bytes) (hrb : ∀ b off n c, (Value.slice bo bytes.length bc) = .slice (some ⟨b, off, none⟩) n c → 0 < bytes.length → b < w.heap.size) :
    ∃ r : Int, PairCalls 12 48 #[slotP (st i), .int .i64 a, .slice vo bytes.length vc] #[slotR (st i), .int .i64 a, .slice bo bytes.length bc] (.int .i64 r) w X V B (N + 1) (st i) := by
  cases hs : st i with
  | none => exact ⟨1, pair_same t (by omega) _ (write_nil a _ w) (refWrite_nil a _ w)⟩
  | some d =>
    obtain ⟨S, R⟩ := d
    have d := t.duo i S R hs
    cases hd : S.dead with
    | true => exact ⟨10, pair_same t (by omega) _ (write_dead S.D a _ w (d.p.c6 hd)) (refWrite_dead R.D a _ w (d.r.c6 (d.rel.dead ▸ hd)))⟩
    | false =>
      have p0 : w.cell? ⟨S.D, 0, none⟩ = some (.int .i64 S.secs) := cell_of_blk d.p.blk 0
      have p1 : w.cell? ⟨S.D, 1, none⟩ = some (.int .i64 S.size) := cell_of_blk d.p.blk 1
      have r0 : w.cell? ⟨R.D, 0, none⟩ = some (.int .i64 R.secs) := cell_of_blk d.r.blk 0
      have hg : R.gone = false := d.rel.dead ▸ hd
      by_cases ha : a < 0 ∨ (S.secs : Int) ≤ a
      · exact ⟨11, pair_same t (by omega) _ (write_sector S.D S.secs a _ w p0 (d.p.c6 hd) ha) (refWrite_sector R.D R.secs a _ w r0 (d.r.c6 hg) (by rw [← d.rel.secs]; exact ha))⟩
      · obtain ⟨m, rfl⟩ := Int.eq_ofNat_of_zero_le (show 0 ≤ a by omega)
        have hm : m < S.secs := by omega
        by_cases hl : bytes.length = S.size
        · have hsz := d.p.size1
          obtain ⟨b, off, cap, e, hc⟩ := hv.cells (by omega)
          simp at e
          obtain ⟨rfl, rfl⟩ := e
          have b' := d.bnd
          have hans : (if R.fuse = 0 then (10 : Int) else 0) = if S.left = 0 then 10 else 0 := by rw [d.rel.left]
          refine ⟨if S.left = 0 then 10 else 0, pair_step (pa := #[.pointer (some ⟨S.D, 0, none⟩), .int .i64 m, .slice (some ⟨b, off, none⟩) bytes.length vc]) (ra := #[.pointer (some ⟨R.D, 0, none⟩), .int .i64 m, .slice bo bytes.length bc]) t (by omega) hs ?_⟩
          have hw := write_ok w B S d.p m b off vc bytes hm hl hc hd b'.left.1 b'.left.2 (by have := b'.mn; omega) (by have := d.ws; omega) b'.wr.1 (by have := b'.wr.2; omega)
          rw [← hl] at hw
          refine hw.mono ?_
          rintro e w3 ⟨rfl, wv', h1, h2, h3⟩
          refine ⟨rfl, _, PStep.wrote h1 h2 h3, rfl, fun hr' => ?_⟩
          have hrw := refWrite_ok w3 B R hr' (Nat.le_trans hB h2.size) m _ bytes (by rw [← d.rel.secs]; exact hm) (by rw [← d.rel.size]; exact hl) (hr w3 (h2.mono (fun k _ h => hs ▸ ⟨S, R, rfl, Or.inl h⟩))) (fun b off n c e h => Nat.lt_of_lt_of_le (hrb b off n c e h) h2.size) hg (by rw [← d.rel.left]; exact b'.left.1) (by rw [← d.rel.left]; exact b'.left.2) (by have := b'.log; omega) (by rw [← d.rel.wr]; exact b'.wr.1) (by rw [← d.rel.wr]; have := b'.wr.2; omega)
          refine hrw.mono ?_
          rintro e w4 ⟨rfl, v4, lv4, h4, h5, h6, h7⟩
          refine ⟨by rw [hans], _, RStep.wrote h4 h5 h6 h7, rfl, d.rel.wrote d.r.firm m w.heap.size bytes wv' v4 lv4, ⟨?_, ?_, ⟨b'.r.1, ?_⟩, ⟨?_, ?_⟩, ⟨b'.f.1, ?_⟩, ⟨?_, ?_⟩⟩⟩
          · have := b'.mn; show S.mn + 1 ≤ N + 1; omega
          · have := b'.log; show (R.log ++ [_]).length ≤ N + 1; simp; omega
          · have := b'.r.2; show S.r ≤ _; omega
          · have := b'.wr.1; show 0 ≤ (if S.left = 0 then S.wr else S.wr + 1); split <;> omega
          · have := b'.wr.2; show (if S.left = 0 then S.wr else S.wr + 1) ≤ _; split <;> omega
          · have := b'.f.2; show S.f ≤ _; omega
          · have := b'.left.1; show -1 ≤ (if S.left ≤ 0 then S.left else S.left - 1); split <;> omega
          · have := b'.left.2; show (if S.left ≤ 0 then S.left else S.left - 1) ≤ _; split <;> omega
        · exact ⟨12, pair_same t (by omega) _ (write_size S.D S.secs S.size m bytes.length vc vo w p0 p1 (d.p.c6 hd) hm hl) (refWrite_size w B R d.r hg m bytes.length bc bo (by rw [← d.rel.secs]; exact hm) (by rw [← d.rel.size]; exact hl))⟩

end Go.Proofs.Ytjmbcelkhiopeaa
