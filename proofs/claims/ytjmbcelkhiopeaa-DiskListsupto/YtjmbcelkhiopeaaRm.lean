import Derived.Test.YtjmbcelkhiopeaaRl
namespace Go.Proofs.Ytjmbcelkhiopeaa
open Go.RowKit Go.Maps

/-- All blocks of a disk. -/
def DS.foot (S : DS) (k : Nat) : Prop := S.own k ∨ ∃ x ∈ S.ws, x.blk = k
def RS.foot (R : RS) (k : Nat) : Prop := R.own k ∨ R.bv.ownBlock = some k ∨ ∃ x ∈ R.log, x.v.ownBlock = some k

theorem DiskAt.foot_lt {w : World} {B : Nat} {S : DS} (h : DiskAt w B S) {k : Nat} (hk : S.foot k) : k < w.heap.size := by
  rcases hk with hk | ⟨x, hx, rfl⟩
  · exact h.own_lt k hk
  · exact lt_of_block (h.each x hx).2.2.1

theorem RefAt.foot_lt {w : World} {B : Nat} {R : RS} (h : RefAt w B R) {k : Nat} (hk : R.foot k) : k < w.heap.size := by
  rcases hk with hk | hk | ⟨x, hx, hk⟩
  · exact h.own_lt k hk
  · rcases h.base with ⟨e, _⟩ | hr
    · rw [e] at hk; simp [Value.ownBlock] at hk
    · exact (hr.lt k hk).2
  · exact ((h.each x hx).2.2.lt k hk).2

theorem DiskAt.keepFoot {w w' : World} {B : Nat} {S : DS} (h : DiskAt w B S) {F : Nat → Prop} (hk : Keeps F w w') (hF : ∀ k, S.foot k → ¬ F k) : DiskAt w' B S :=
  h.kept hk (fun k hk' => hF k (Or.inl hk')) (fun x hx => hF _ (Or.inr ⟨x, hx, rfl⟩))
theorem RefAt.keepFoot {w w' : World} {B : Nat} {R : RS} (h : RefAt w B R) {F : Nat → Prop} (hk : Keeps F w w') (hF : ∀ k, R.foot k → ¬ F k) : RefAt w' B R :=
  h.kept hk (fun k hk' => hF k (Or.inl hk')) (fun b hb => hF b (Or.inr (Or.inl hb))) (fun x hx b hb => hF b (Or.inr (Or.inr ⟨x, hx, hb⟩)))

/-- What a call does to the program's disk; to the document's. -/
structure PStep (w : World) (B : Nat) (S S' : DS) (w' : World) : Prop where
  at_ : DiskAt w' B S'
  keeps : Keeps S.own w w'
  foot : ∀ k, S'.foot k → S.foot k ∨ w.heap.size ≤ k
structure RStep (w : World) (B : Nat) (R R' : RS) (w' : World) : Prop where
  at_ : RefAt w' B R'
  keeps : Keeps R.own w w'
  foot : ∀ k, R'.foot k → R.foot k ∨ w.heap.size ≤ k

structure Bnd (N : Nat) (S : DS) (R : RS) : Prop where
  mn : S.mn ≤ N
  log : R.log.length ≤ N
  r : 0 ≤ S.r ∧ S.r ≤ N
  wr : 0 ≤ S.wr ∧ S.wr ≤ N
  f : 0 ≤ S.f ∧ S.f ≤ N
  left : -1 ≤ S.left ∧ S.left ≤ 9223372036854775807

structure Duo (w : World) (B N : Nat) (S : DS) (R : RS) : Prop where
  p : DiskAt w B S
  r : RefAt w B R
  rel : Rel S R
  apart : ∀ k, S.foot k → ¬ R.foot k
  bnd : Bnd N S R

theorem Duo.ws {w : World} {B N : Nat} {S : DS} {R : RS} (d : Duo w B N S R) : S.ws.length ≤ N := by
  have h := congrArg List.length d.rel.ws
  have := d.bnd.log
  simp at h; omega

theorem Duo.keepFoot {w w' : World} {B N : Nat} {S : DS} {R : RS} (d : Duo w B N S R) {F : Nat → Prop} (hk : Keeps F w w') (hF : ∀ k, S.foot k ∨ R.foot k → ¬ F k) : Duo w' B N S R :=
  ⟨d.p.keepFoot hk (fun k h => hF k (Or.inl h)), d.r.keepFoot hk (fun k h => hF k (Or.inr h)), d.rel, d.apart, d.bnd⟩

theorem Bnd.mono {N N' : Nat} {S : DS} {R : RS} (b : Bnd N S R) (h : N ≤ N') : Bnd N' S R :=
  ⟨Nat.le_trans b.mn h, Nat.le_trans b.log h, ⟨b.r.1, by have := b.r.2; omega⟩, ⟨b.wr.1, by have := b.wr.2; omega⟩, ⟨b.f.1, by have := b.f.2; omega⟩, b.left⟩
theorem Duo.mono {w : World} {B N N' : Nat} {S : DS} {R : RS} (d : Duo w B N S R) (h : N ≤ N') : Duo w B N' S R := ⟨d.p, d.r, d.rel, d.apart, d.bnd.mono h⟩

/-- Between the two calls. -/
theorem Duo.mid {w w1 w2 : World} {B N : Nat} {S S' : DS} {R : RS} (d : Duo w B N S R) (a : PStep w B S S' w1) (hk : Keeps (fun _ => False) w1 w2) : RefAt w2 B R :=
  (d.r.keepFoot a.keeps (fun k h h' => d.apart k (Or.inl h') h)).keepF hk

theorem Duo.step {w w1 w2 w3 : World} {B N N' : Nat} {S S' : DS} {R R' : RS} (d : Duo w B N S R) (a : PStep w B S S' w1) (hk : Keeps (fun _ => False) w1 w2) (b : RStep w2 B R R' w3) (e : Rel S' R') (bd : Bnd N' S' R') :
    Duo w3 B N' S' R' ∧ Keeps (fun k => S.own k ∨ R.own k) w w3 ∧ ∀ k, S'.foot k ∨ R'.foot k → (S.foot k ∨ R.foot k) ∨ w.heap.size ≤ k := by
  have z1 := a.keeps.size
  have z2 := hk.size
  refine ⟨⟨(a.at_.keepF hk).keepFoot b.keeps (fun k h h' => ?_), b.at_, e, fun k h h' => ?_, bd⟩, ?_, ?_⟩
  · have hlt := d.r.own_lt k h'
    rcases a.foot k h with h | h
    · exact d.apart k h (Or.inl h')
    · omega
  · have hl1 := a.at_.foot_lt h
    rcases b.foot k h' with h' | h'
    · have hl := d.r.foot_lt h'
      rcases a.foot k h with h | h
      · exact d.apart k h h'
      · omega
    · omega
  · refine ⟨(b.keeps.os.trans hk.os).trans a.keeps.os, (b.keeps.tape.trans hk.tape).trans a.keeps.tape, (b.keeps.output.trans hk.output).trans a.keeps.output, Nat.le_trans z1 (Nat.le_trans z2 b.keeps.size), fun q hq hF => ?_⟩
    rw [b.keeps.block q (by omega) (fun h => hF (Or.inr h)), hk.block q (by omega) id, a.keeps.block q hq (fun h => hF (Or.inl h))]
  · rintro k (h | h)
    · exact (a.foot k h).imp Or.inl id
    · exact (b.foot k h).elim (fun h => Or.inl (Or.inr h)) (fun h => Or.inr (by omega))

/-! The steps. -/
theorem PStep.same {w w' : World} {B : Nat} {S : DS} (h : DiskAt w B S) (hk : Keeps (fun _ => False) w w') : PStep w B S S w' := ⟨h.keepF hk, hk.mono (fun _ _ f => f.elim), fun _ h => Or.inl h⟩
theorem RStep.same {w w' : World} {B : Nat} {R : RS} (h : RefAt w B R) (hk : Keeps (fun _ => False) w w') : RStep w B R R w' := ⟨h.keepF hk, hk.mono (fun _ _ f => f.elim), fun _ h => Or.inl h⟩

theorem PStep.set {w w' : World} {B : Nat} {S S' : DS} (h : DiskAt w' B S') (hk : Keeps (fun k => k = S.D) w w') (e1 : S'.D = S.D) (e2 : S'.db = S.db) (e3 : S'.mb = S.mb) (e4 : S'.wv = S.wv) (e5 : S'.ws = S.ws) : PStep w B S S' w' :=
  ⟨h, hk.mono (fun _ _ e => Or.inl e), fun k h => Or.inl (by simpa only [DS.foot, DS.own, e1, e2, e3, e4, e5] using h)⟩
theorem RStep.set {w w' : World} {B : Nat} {R R' : RS} (h : RefAt w' B R') (hk : Keeps (fun k => k = R.D) w w') (e1 : R'.D = R.D) (e2 : R'.bv = R.bv) (e3 : R'.lv = R.lv) (e4 : R'.log = R.log) : RStep w B R R' w' :=
  ⟨h, hk.mono (fun _ _ e => Or.inl e), fun k h => Or.inl (by simpa only [RS.foot, RS.own, e1, e2, e3, e4] using h)⟩

theorem PStep.wrote {w w' : World} {B : Nat} {S : DS} {a : Nat} {l : List Int} {wv : Value} {left : Int} {dead : Bool} {wr : Int} (h : DiskAt w' B (S.wrote a w.heap.size l wv left dead wr)) (hk : Keeps S.own w w') (hwv : ∀ k, wv.ownBlock = some k → S.wv.ownBlock = some k ∨ w.heap.size ≤ k) :
    PStep w B S (S.wrote a w.heap.size l wv left dead wr) w' := by
  refine ⟨h, hk, fun k hf => ?_⟩
  rcases hf with (e | e | e | e) | ⟨x, hx, e⟩
  · exact Or.inl (Or.inl (Or.inl e))
  · exact Or.inl (Or.inl (Or.inr (Or.inl e)))
  · exact Or.inl (Or.inl (Or.inr (Or.inr (Or.inl e))))
  · exact (hwv k e).imp (fun h => Or.inl (Or.inr (Or.inr (Or.inr h)))) id
  · have hx' : x ∈ S.ws ∨ x = ⟨a, w.heap.size, l⟩ := by simpa [DS.wrote] using hx
    rcases hx' with hx' | rfl
    · exact Or.inl (Or.inr ⟨x, hx', e⟩)
    · exact Or.inr (Nat.le_of_eq e)

theorem RStep.wrote {w w' : World} {B : Nat} {R : RS} {a : Nat} {l : List Int} {v lv : Value} {fuse : Int} {gone : Bool} {wr : Int} (h : RefAt w' B (R.wrote a v l lv fuse gone wr)) (hk : Keeps R.own w w') (hlv : ∀ k, lv.ownBlock = some k → R.lv.ownBlock = some k ∨ w.heap.size ≤ k) (hv : ∀ k, v.ownBlock = some k → w.heap.size ≤ k) :
    RStep w B R (R.wrote a v l lv fuse gone wr) w' := by
  refine ⟨h, hk, fun k hf => ?_⟩
  rcases hf with (e | e) | e | ⟨x, hx, e⟩
  · exact Or.inl (Or.inl (Or.inl e))
  · exact (hlv k e).imp (fun h => Or.inl (Or.inr h)) id
  · exact Or.inl (Or.inr (Or.inl e))
  · have hx' : x ∈ R.log ∨ x = ⟨a, v, l⟩ := by simpa [RS.wrote] using hx
    rcases hx' with hx' | rfl
    · exact Or.inl (Or.inr (Or.inr ⟨x, hx', e⟩))
    · exact Or.inr (hv k e)

theorem PStep.flushed {w w' : World} {B : Nat} {S : DS} {M : DataW Unit} (h : DiskAt w' B (S.flushed M)) (hk : Keeps S.own w w') : PStep w B S (S.flushed M) w' := by
  refine ⟨h, hk, fun k hf => ?_⟩
  rcases hf with (e | e | e | e) | ⟨x, hx, e⟩
  · exact Or.inl (Or.inl (Or.inl e))
  · exact Or.inl (Or.inl (Or.inr (Or.inl e)))
  · exact Or.inl (Or.inl (Or.inr (Or.inr (Or.inl e))))
  · simp [DS.flushed, Value.ownBlock] at e
  · simp [DS.flushed] at hx

/-! One thing said, behind each step. -/
theorem Rel.wrote {S : DS} {R : RS} (e : Rel S R) (hf : R.firm ≤ R.log.length) (a g : Nat) (l : List Int) (wv v lv : Value) :
    Rel (S.wrote a g l wv (if S.left ≤ 0 then S.left else S.left - 1) (decide (S.left = 0)) (if S.left = 0 then S.wr else S.wr + 1)) (R.wrote a v l lv (if R.fuse ≤ 0 then R.fuse else R.fuse - 1) (decide (R.fuse = 0)) (if R.fuse = 0 then R.wr else R.wr + 1)) where
  secs := e.secs
  size := e.size
  dur := by
    show S.dur = settleV R.size R.base (((R.log ++ [_]).take R.firm).map LW.pair)
    rw [List.take_append_of_le_length hf]; exact e.dur
  ws := by
    show (S.ws ++ [_]).map Wr.pair = ((R.log ++ [_]).drop R.firm).map LW.pair
    rw [List.drop_append_of_le_length hf, List.map_append, List.map_append, e.ws]; rfl
  left := by show (if S.left ≤ 0 then S.left else S.left - 1) = _; rw [e.left]; rfl
  dead := by show decide (S.left = 0) = _; rw [e.left]; rfl
  r := e.r
  wr := by show (if S.left = 0 then S.wr else S.wr + 1) = _; rw [e.left, e.wr]; rfl
  f := e.f

theorem Rel.flushed {S : DS} {R : RS} (e : Rel S R) (M : DataW Unit) : Rel (S.flushed M) R.flushed where
  secs := e.secs
  size := e.size
  dur := e.settle
  ws := by show ([] : List Wr).map Wr.pair = (R.log.drop R.log.length).map LW.pair; simp
  left := e.left
  dead := e.dead
  r := e.r
  wr := e.wr
  f := by show S.f + 1 = R.f + 1; rw [e.f]

theorem Rel.armed {S : DS} {R : RS} (e : Rel S R) (x : Int) : Rel (S.armed x) (R.armed x) := ⟨e.secs, e.size, e.dur, e.ws, rfl, e.dead, e.r, e.wr, e.f⟩
theorem Rel.red {S : DS} {R : RS} (e : Rel S R) : Rel S.red R.red := ⟨e.secs, e.size, e.dur, e.ws, e.left, e.dead, by show S.r + 1 = R.r + 1; rw [e.r], e.wr, e.f⟩

theorem Rel.surv {w : World} {B' : Nat} {S : DS} {R : RS} (e : Rel S R) (h' : RefAt w B' R) (ks : List Bool) (D db mb D' : Nat) (bv lv : Value) (log : List LW) (hl : log.map LW.pair = (rkeptTo ks R.firm R.log R.log.length).map LW.pair) :
    Rel (freshDS D db mb S.secs S.size (settleAll S.size S.dur (keptTo ks S.ws S.ws.length))) (survRS R D' bv lv log log.length) where
  secs := e.secs
  size := e.size
  dur := by
    show settleAll S.size S.dur (keptTo ks S.ws S.ws.length) = settleV R.size R.base ((log.take log.length).map LW.pair)
    rw [List.take_length, hl]; exact e.survive h' ks
  ws := by show ([] : List Wr).map Wr.pair = (log.drop log.length).map LW.pair; simp
  left := rfl
  dead := rfl
  r := rfl
  wr := rfl
  f := rfl

theorem Rel.img (D db mb n s D' : Nat) (bv : Value) (l : List Int) : Rel (freshDS D db mb n s l) (imgRS D' n s bv l) := ⟨rfl, rfl, rfl, rfl, rfl, rfl, rfl, rfl, rfl⟩
theorem Rel.new (D db mb n s D' : Nat) : Rel (freshDS D db mb n s (List.replicate (n * s) 0)) (newRS D' n s) := ⟨rfl, rfl, rfl, rfl, rfl, rfl, rfl, rfl, rfl⟩

end Go.Proofs.Ytjmbcelkhiopeaa
