import Derived.Test.YtjmbcelkhiopeaaRt
namespace Go.Proofs.Ytjmbcelkhiopeaa
open Go.RowKit Go.Maps

/-- Two looks, one behind the other, that write nothing. -/
def LookCalls (f g : Nat) (pa ra : Array Value) (w : World) (Q : World → Value → Value → Prop) : Prop :=
  Calls Try.prog f pa w fun e w3 => ∃ vp, e = .returned vp ∧ Keeps (fun _ => False) w w3 ∧ Calls Try.prog g ra w3 fun e w4 => ∃ vr, e = .returned vr ∧ Keeps (fun _ => False) w w4 ∧ Q w4 vp vr

theorem look_dead {X : Nat → Prop} {w : World} {V B N : Nat} {st : Nat → Slot} (t : Trio w X V B N st) (i : Nat) : LookCalls 25 66 #[slotP (st i)] #[slotR (st i)] w fun _ vp vr => ∃ d, vp = .bool d ∧ vr = .bool d := by
  cases hs : st i with
  | none =>
    refine (dead_nil w).mono ?_
    rintro e w3 ⟨rfl, rfl⟩
    refine ⟨_, rfl, Keeps.refl _ _, (refDead_nil w3).mono ?_⟩
    rintro e w4 ⟨rfl, rfl⟩
    exact ⟨_, rfl, Keeps.refl _ _, _, rfl, rfl⟩
  | some d =>
    obtain ⟨S, R⟩ := d
    have d := t.duo i S R hs
    refine (dead_any S.D S.dead w (d.p.c6 rfl)).mono ?_
    rintro e w3 ⟨rfl, rfl⟩
    refine ⟨_, rfl, Keeps.refl _ _, (refDead_any R.D R.gone w3 (d.r.c6 rfl)).mono ?_⟩
    rintro e w4 ⟨rfl, rfl⟩
    exact ⟨_, rfl, Keeps.refl _ _, _, rfl, by rw [d.rel.dead]⟩

theorem look_shape {X : Nat → Prop} {w : World} {V B N : Nat} {st : Nat → Slot} (t : Trio w X V B N st) (i : Nat) : LookCalls 67 68 #[slotP (st i)] #[slotR (st i)] w fun _ vp vr => ∃ n s : Int, vp = .tuple #[.int .i64 n, .int .i64 s] ∧ vr = .tuple #[.int .i64 n, .int .i64 s] := by
  cases hs : st i with
  | none =>
    refine (shape_nil w).mono ?_
    rintro e w3 ⟨rfl, rfl⟩
    refine ⟨_, rfl, Keeps.refl _ _, (refShape_nil w3).mono ?_⟩
    rintro e w4 ⟨rfl, rfl⟩
    exact ⟨_, rfl, Keeps.refl _ _, _, _, rfl, rfl⟩
  | some d =>
    obtain ⟨S, R⟩ := d
    have d := t.duo i S R hs
    refine (shape_any w B S d.p).mono ?_
    rintro e w3 ⟨rfl, n, rfl⟩
    refine ⟨_, rfl, keeps_drewN _ _, (refShape_any (w.drewN n) B R (d.r.keepF (keeps_drewN _ _))).mono ?_⟩
    rintro e w4 ⟨rfl, m, rfl⟩
    exact ⟨_, rfl, (keeps_drewN _ _).trans (keeps_drewN _ _), _, _, rfl, by rw [d.rel.secs, d.rel.size]⟩

theorem look_stats {X : Nat → Prop} {w : World} {V B N : Nat} {st : Nat → Slot} (t : Trio w X V B N st) (i : Nat) : ∃ r wr f : Int, (Calls Try.prog 22 #[slotP (st i)] w fun e w' => e = .returned (.agg #[.int .i64 r, .int .i64 wr, .int .i64 f]) ∧ w' = w.alloc (.cells #[.int .i64 r, .int .i64 wr, .int .i64 f] 48)) ∧
    ∀ w', Keeps (fun _ => False) w w' → Calls Try.prog 69 #[slotR (st i)] w' fun e w'' => e = .returned (.agg #[.int .i64 r, .int .i64 wr, .int .i64 f]) ∧ w'' = w'.alloc (.cells #[.int .i64 r, .int .i64 wr, .int .i64 f] 48) := by
  cases hs : st i with
  | none => exact ⟨0, 0, 0, stats_nil w, fun w' _ => refStats_nil w'⟩
  | some d =>
    obtain ⟨S, R⟩ := d
    have d := t.duo i S R hs
    refine ⟨S.r, S.wr, S.f, stats_any w B S d.p, fun w' hk => ?_⟩
    have h := refStats_any w' B R (d.r.keepF hk)
    rw [← d.rel.r, ← d.rel.wr, ← d.rel.f] at h
    exact h

theorem look_image {X : Nat → Prop} {w : World} {V B N : Nat} {st : Nat → Slot} (t : Trio w X V B N st) (hN : N ≤ 4294967295) (i : Nat) : LookCalls 27 53 #[slotP (st i)] #[slotR (st i)] w fun w4 vp vr => Calls Try.prog 28 #[vp, vr] w4 fun e w' => e = .returned (.bool true) ∧ ∃ n, w' = w4.drewN n := by
  cases hs : st i with
  | none =>
    refine (image_nil w).mono ?_
    rintro e w3 ⟨rfl, rfl⟩
    refine ⟨_, rfl, Keeps.refl _ _, (refImage_nil w3).mono ?_⟩
    rintro e w4 ⟨rfl, rfl⟩
    refine ⟨_, rfl, Keeps.refl _ _, (eqBytes_any w4 _ _ [] [] ⟨⟨_, _, rfl⟩, fun h => by simp at h⟩ ⟨⟨_, _, rfl⟩, fun h => by simp at h⟩ (by unfold maxLen; simp)).mono ?_⟩
    rintro e w' ⟨rfl, h⟩
    exact ⟨by simp, h⟩
  | some d =>
    obtain ⟨S, R⟩ := d
    have d := t.duo i S R hs
    refine (image_any w B S d.p).mono ?_
    rintro e w3 ⟨rfl, rfl⟩
    have hk3 := (Keeps.refl (fun _ => False) w).alloc (.cells (bs S.dur).toArray 5)
    refine ⟨_, rfl, hk3, (refImage_any _ B R (d.r.keepF hk3) (Nat.le_trans d.bnd.log hN)).mono ?_⟩
    rintro e w4 ⟨v, rfl, hrow, hk4⟩
    have hl : S.dur.length = S.secs * S.size := d.p.dlen
    have hb4 : w4.heap[w.heap.size]? = some (.cells (bs S.dur).toArray 5 (0, 0)) := (hk4.block _ (by simp) id).trans (heap_alloc_new w _)
    have h1 : Reads w4 (.slice (some ⟨w.heap.size, 0, none⟩) (S.secs * S.size) (S.secs * S.size)) S.dur :=
      ⟨⟨_, _, by rw [hl]⟩, fun _ => ⟨_, _, _, by rw [hl], fun j x hx => by rw [cell_of_blk hb4]; simp [bs, hx]⟩⟩
    have h2 := (row_reads hrow).1
    rw [← d.rel.image d.p d.r] at h2
    refine ⟨_, rfl, hk3.trans hk4, (eqBytes_any w4 _ _ S.dur S.dur h1 h2 ?_).mono ?_⟩
    · have := Nat.mul_le_mul d.p.secs2 d.p.size2; unfold maxLen; omega
    · rintro e w' ⟨rfl, h⟩
      exact ⟨by simp, h⟩

def wrLW (s : Nat) (x : Wr) : LW := ⟨x.sec, .slice (some ⟨x.blk, 0, none⟩) s s, x.bytes⟩

theorem look_pending {X : Nat → Prop} {w : World} {V B N : Nat} {st : Nat → Slot} (t : Trio w X V B N st) (hN : N ≤ 4294967295) (i : Nat) : LookCalls 18 54 #[slotP (st i)] #[slotR (st i)] w fun w4 vp vr => Calls Try.prog 19 #[vp, vr] w4 fun e w' => e = .returned (.bool true) ∧ ∃ n, w' = w4.drewN n := by
  cases hs : st i with
  | none =>
    refine (pending_nil w).mono ?_
    rintro e w3 ⟨rfl, rfl⟩
    refine ⟨_, rfl, Keeps.refl _ _, (refPending_nil w3).mono ?_⟩
    rintro e w4 ⟨rfl, rfl⟩
    refine ⟨_, rfl, Keeps.refl _ _, (eqWritesG w4 _ _ [] [] ⟨⟨_, _, rfl⟩, fun h => by simp at h⟩ ⟨⟨_, _, rfl⟩, fun h => by simp at h⟩ (by simp)).mono ?_⟩
    rintro e w' ⟨rfl, h⟩
    exact ⟨by simp, h⟩
  | some d =>
    obtain ⟨S, R⟩ := d
    have d := t.duo i S R hs
    refine (pending_any w B S d.p (Nat.le_trans d.ws hN)).mono ?_
    rintro e w3 ⟨ws, rfl, I⟩
    refine ⟨_, rfl, I.keeps, (refPending_any w3 B R (d.r.keepF I.keeps) (Nat.le_trans d.bnd.log hN)).mono ?_⟩
    rintro e w4 ⟨v, log, rfl, J⟩
    refine ⟨_, rfl, I.keeps.trans J.keeps, ?_⟩
    obtain ⟨arr, harr, hsz, hget⟩ := I.arr
    have harr4 := (J.keeps.block _ (lt_of_block harr) id).trans harr
    have hws : (ws.map (wrLW S.size)).length = S.ws.length := by simp [I.len]
    have h1 : WritesG w4 (.slice (some ⟨w.heap.size, 0, none⟩) S.ws.length S.ws.length) (ws.map (wrLW S.size)) := by
      refine ⟨⟨_, _, by rw [hws]⟩, fun _ => ⟨_, _, by rw [hws], lt_of_block harr4, fun j x hx => ?_⟩⟩
      rw [List.getElem?_map] at hx
      obtain ⟨y, hy, rfl⟩ := Option.map_eq_some_iff.1 hx
      obtain ⟨g1, g2⟩ := hget j y hy
      obtain ⟨e1, e2, -⟩ := I.each y (List.mem_of_getElem? hy)
      have e4 := (J.keeps.block _ (lt_of_block e2) id).trans e2
      refine ⟨by rw [cell_of_blk harr4]; exact g1, by rw [cell_of_blk harr4]; exact g2, ?_, ⟨⟨some ⟨y.blk, 0, none⟩, S.size, ?_⟩, fun _ => ⟨y.blk, 0, S.size, ?_, fun j' x' hx' => ?_⟩⟩⟩
      · show y.bytes.length ≤ _; rw [e1]; have := d.p.size2; unfold maxLen; omega
      · show Value.slice _ _ _ = .slice _ y.bytes.length _; rw [e1]
      · show Value.slice _ _ _ = .slice _ y.bytes.length _; rw [e1]
      · rw [cell_of_blk e4]; simp [bs, show y.bytes[j']? = some x' from hx']
    have h2 := J.at_.writes d.r.size2
    refine (eqWritesG w4 _ _ _ _ h1 h2 (by rw [hws]; exact Nat.le_trans d.ws hN)).mono ?_
    rintro e w' ⟨rfl, h⟩
    refine ⟨?_, h⟩
    have hp : (ws.map (wrLW S.size)).map LW.pair = log.map LW.pair := by
      have e1 : (ws.map (wrLW S.size)).map LW.pair = ws.map Wr.pair := by rw [List.map_map]; rfl
      rw [e1, I.pair, List.take_length, d.rel.ws, J.pair]
      rw [List.take_of_length_le (by simp)]
    simp [hp]

end Go.Proofs.Ytjmbcelkhiopeaa
