import Derived.Test.YtjmbcelkhiopeaaRv
namespace Go.Proofs.Ytjmbcelkhiopeaa
open Go.RowKit Go.Maps
attribute [local go_sem ↓] Go.wp_at_zero Go.wp_at_succ

def ReadCalls (a : Int) (r : Int) (w : World) (X : Nat → Prop) (V B N : Nat) (s : Slot) : Prop :=
  Calls Try.prog 14 #[slotP s, .int .i64 a] w fun e w3 => ∃ vo n c, e = .returned (.tuple #[.slice vo n c, .int .i64 r]) ∧ Keeps (slotOwn s) w w3 ∧
    ∀ w3', Keeps (fun _ => False) w3 w3' → Calls Try.prog 52 #[slotR s, .int .i64 a] w3' fun e w4 => ∃ v2 n2 c2, e = .returned (.tuple #[.slice v2 n2 c2, .int .i64 r]) ∧ Keeps (slotOwn s) w w4 ∧ (∃ st', Trio w4 X V B N st') ∧
      Calls Try.prog 28 #[.slice vo n c, .slice v2 n2 c2] w4 fun e w' => e = .returned (.bool true) ∧ ∃ n, w' = w4.drewN n

theorem eq_nil (w : World) : Calls Try.prog 28 #[.slice none 0 0, .slice none 0 0] w fun e w' => e = .returned (.bool true) ∧ ∃ n, w' = w.drewN n := by
  refine (eqBytes_any w _ _ [] [] ⟨⟨_, _, rfl⟩, fun h => by simp at h⟩ ⟨⟨_, _, rfl⟩, fun h => by simp at h⟩ (by unfold maxLen; simp)).mono ?_
  rintro e w' ⟨rfl, h⟩
  exact ⟨by simp, h⟩

theorem read_same {X : Nat → Prop} {a r : Int} {w : World} {V B N N' : Nat} {st : Nat → Slot} (t : Trio w X V B N st) (hN : N ≤ N') {s : Slot}
    (h1 : Calls Try.prog 14 #[slotP s, .int .i64 a] w fun e w' => e = .returned (.tuple #[.slice none 0 0, .int .i64 r]) ∧ w' = w)
    (h2 : ∀ w', Keeps (fun _ => False) w w' → Calls Try.prog 52 #[slotR s, .int .i64 a] w' fun e w'' => e = .returned (.tuple #[.slice none 0 0, .int .i64 r]) ∧ w'' = w') : ReadCalls a r w X V B N' s := by
  refine h1.mono ?_
  rintro e w3 ⟨rfl, rfl⟩
  refine ⟨_, _, _, rfl, Keeps.refl _ _, fun w3' hk => (h2 w3' hk).mono ?_⟩
  rintro e w4 ⟨rfl, rfl⟩
  have t' := t.keep hk
  exact ⟨_, _, _, rfl, hk.mono (fun _ _ f => f.elim), ⟨st, t'.blk, fun i S R h => (t'.duo i S R h).mono hN, t'.free, t'.apart, t'.av, t'.xlt⟩, eq_nil _⟩

theorem pair_read {X : Nat → Prop} {w : World} {V B N : Nat} {st : Nat → Slot} (t : Trio w X V B N st) (hN : N ≤ 2147483646) (i : Nat) (a : Int) : ∃ r : Int, ReadCalls a r w X V B (N + 1) (st i) := by
  cases hs : st i with
  | none => exact ⟨1, read_same t (by omega) (read_nil a w) (fun w' _ => refRead_nil a w')⟩
  | some d =>
    obtain ⟨S, R⟩ := d
    have d := t.duo i S R hs
    cases hd : S.dead with
    | true => exact ⟨10, read_same t (by omega) (read_dead S.D a w (d.p.c6 hd)) (fun w' hk => refRead_dead R.D a w' ((d.r.keepF hk).c6 (d.rel.dead ▸ hd)))⟩
    | false =>
      have p0 : w.cell? ⟨S.D, 0, none⟩ = some (.int .i64 S.secs) := cell_of_blk d.p.blk 0
      have hg : R.gone = false := d.rel.dead ▸ hd
      by_cases ha : a < 0 ∨ (S.secs : Int) ≤ a
      · exact ⟨11, read_same t (by omega) (read_sector S.D S.secs a w p0 (d.p.c6 hd) ha) (fun w' hk => refRead_sector R.D R.secs a w' (cell_of_blk (d.r.keepF hk).blk 0) ((d.r.keepF hk).c6 hg) (by rw [← d.rel.secs]; exact ha))⟩
      · obtain ⟨m, rfl⟩ := Int.eq_ofNat_of_zero_le (show 0 ≤ a by omega)
        have hm : m < S.secs := by omega
        have b := d.bnd
        refine ⟨0, ?_⟩
        refine (read_ok w B S d.p m hm hd b.r.1 (by have := b.r.2; omega)).mono ?_
        rintro e w3 ⟨rfl, h1, h2, h3⟩
        have hp : PStep w B S S.red w3 := PStep.set h1 h2 rfl rfl rfl rfl rfl
        refine ⟨_, _, _, rfl, hp.keeps.mono (fun k _ h => ⟨S, R, rfl, Or.inl h⟩), fun w3' hk => ?_⟩
        refine (refRead_ok w3' B R (d.mid hp hk) m (by rw [← d.rel.secs]; exact hm) hg (by have := b.log; omega) (by rw [← d.rel.r]; exact b.r.1) (by rw [← d.rel.r]; have := b.r.2; omega)).mono ?_
        rintro e w4 ⟨v', rfl, hrow, h4, h5⟩
        have hr : RStep w3' B R R.red w4 := RStep.set h4 h5 rfl rfl rfl rfl
        obtain ⟨a1, a2, a3⟩ := d.step (N' := N + 1) hp hk hr d.rel.red ⟨by have := b.mn; show S.mn ≤ _; omega, by have := b.log; show R.log.length ≤ _; omega, ⟨by have := b.r.1; show 0 ≤ S.r + 1; omega, by have := b.r.2; show S.r + 1 ≤ _; omega⟩, ⟨b.wr.1, by have := b.wr.2; show S.wr ≤ _; omega⟩, ⟨b.f.1, by have := b.f.2; show S.f ≤ _; omega⟩, b.left⟩
        have hsz := d.r.size1
        obtain ⟨g, c, rfl, -⟩ := hrow.form (by omega)
        have hb3 : w3'.heap[w.heap.size]? = some (.cells (bs (S.holdsAt m)).toArray 5 (0, 0)) := (hk.block _ (lt_of_block h3) id).trans h3
        have hb4 : w4.heap[w.heap.size]? = some (.cells (bs (S.holdsAt m)).toArray 5 (0, 0)) := (h5.block _ (lt_of_block hb3) (fun e => by have := d.r.own_lt R.D (Or.inl rfl); omega)).trans hb3
        have hl := holdsAt_length d.p m hm
        have hh := d.rel.holds d.p d.r m
        refine ⟨_, _, _, rfl, a2.mono (fun k _ h => ⟨S, R, rfl, h⟩), ⟨_, t.step hs (by omega) a1 a2 a3 rfl rfl⟩, ?_⟩
        have q1 : Reads w4 (.slice (some ⟨w.heap.size, 0, none⟩) S.size S.size) (S.holdsAt m) := ⟨⟨_, _, by rw [hl]⟩, fun _ => ⟨_, _, _, by rw [hl], fun j x hx => by rw [cell_of_blk hb4]; simp [bs, hx]⟩⟩
        have q2 := (row_reads hrow).1
        rw [← hh] at q2
        refine (eqBytes_any w4 _ _ _ _ q1 q2 (by rw [hl]; have := d.p.size2; unfold maxLen; omega)).mono ?_
        rintro e w' ⟨rfl, h⟩
        exact ⟨by simp, h⟩

end Go.Proofs.Ytjmbcelkhiopeaa
