import Derived.Test.YtjmbcelkhiopeaaLa
import Derived.Test.YtjmbcelkhiopeaaRc
import Derived.Test.YtjmbcelkhiopeaaP
namespace Go.Proofs.Ytjmbcelkhiopeaa
open Go.RowKit Go.Maps

/-- The Book: where it lies, its six lists, its number, and the blocks in which the lists that it keeps lie. -/
structure Bk where
  D : Nat
  bv : Value
  vv : Value
  kv : Value
  jv : Value
  wv : Value
  xv : Value
  bl : List Value
  vl : List Value
  kl : List Value
  jl : List Value
  wl : List Value
  xl : List Value
  n : Nat
  F : Nat → Prop

def Bk.cells (b : Bk) : Array Value := #[b.bv, b.vv, b.kv, b.jv, b.wv, b.xv, .int .i64 b.n]
/-- The blocks that the Book's calls write. -/
def Bk.own (b : Bk) (k : Nat) : Prop := k = b.D ∨ b.bv.ownBlock = some k ∨ b.vv.ownBlock = some k ∨ b.kv.ownBlock = some k ∨ b.jv.ownBlock = some k ∨ b.wv.ownBlock = some k ∨ b.xv.ownBlock = some k
def Bk.all (b : Bk) (k : Nat) : Prop := b.own k ∨ b.F k

/-- A list of bytes lies in blocks of the set. -/
def Lies (F : Nat → Prop) (v : Value) (n : Nat) : Prop := ∀ b off m c, v = .slice (some ⟨b, off, none⟩) m c → 0 < n → F b

/-- Marks: a list of writes that are all the same and hold no bytes. -/
structure Marks (w : World) (v : Value) (n : Nat) (x : Int) : Prop where
  form : ∃ ao cap, v = .slice ao n cap
  cells : 0 < n → ∃ b off cap, v = .slice (some ⟨b, off, none⟩) n cap ∧ ∀ j, j < n → w.cell? ⟨b, off + j * 2, none⟩ = some (.int .i64 x) ∧ w.cell? ⟨b, off + j * 2 + 1, none⟩ = some (.slice none 0 0)

structure BookAt (w : World) (B : Nat) (b : Bk) : Prop where
  blk : w.heap[b.D]? = some (.cells b.cells 79 (0, 0))
  lo : B ≤ b.D
  rb : w.ownsRow B 32 1 b.bv b.bl.length b.bl
  rv : w.ownsRow B 32 1 b.vv b.vl.length b.vl
  rk : w.ownsRow B 51 1 b.kv b.kl.length b.kl
  rj : w.ownsRow B 51 1 b.jv b.jl.length b.jl
  rw : w.ownsRow B 41 1 b.wv b.wl.length b.wl
  rx : w.ownsRow B 41 1 b.xv b.xl.length b.xl
  abv : ∀ k, b.bv.ownBlock = some k → b.vv.ownBlock ≠ some k
  akj : ∀ k, b.kv.ownBlock = some k → b.jv.ownBlock ≠ some k
  awx : ∀ k, b.wv.ownBlock = some k → b.xv.ownBlock ≠ some k
  lbv : b.vl.length = b.bl.length
  lkj : b.jl.length = b.kl.length
  lwx : b.xl.length = b.wl.length
  lb : b.bl.length ≤ 2 * b.n
  lw : b.wl.length ≤ 2 * b.n
  F : ∀ k, b.F k → B ≤ k ∧ ∃ c t fr, w.heap[k]? = some (.cells c t fr) ∧ (t = 5 ∨ t = 4 ∨ t = 60)
  pb : ∀ (i : Nat) p q, b.bl[i]? = some p → b.vl[i]? = some q → ∃ l : List Int, Reads w p l ∧ Reads w q l ∧ l.length ≤ 140737488355328 ∧ Lies b.F p l.length ∧ Lies b.F q l.length
  pk : ∀ (i : Nat) p q, b.kl[i]? = some p → b.jl[i]? = some q → ∃ l : List Bool, Bools w p l ∧ Bools w q l ∧ l.length ≤ 140737488355328 ∧ Lies b.F p l.length ∧ Lies b.F q l.length
  pw : ∀ (i : Nat) p q, b.wl[i]? = some p → b.xl[i]? = some q → ∃ (n : Nat) (x : Int), Marks w p n x ∧ Marks w q n x ∧ n ≤ 140737488355328 ∧ Lies b.F p n ∧ Lies b.F q n

theorem rowBlock {w : World} {B : Nat} {e : TypeId} {z : Nat} {v : Value} {n : Nat} {xs : List Value} (h : w.ownsRow B e z v n xs) {k : Nat} (hk : v.ownBlock = some k) : B ≤ k ∧ ∃ c, w.heap[k]? = some (.cells c e (0, 0)) := by
  rcases h.2 with ⟨rfl, _⟩ | ⟨g, cap, cur, rfl, hb, hg, _⟩
  · cases hk
  · cases hk; exact ⟨hb, cur, hg⟩

theorem Reads.keepL {w w' : World} {v : Value} {l : List Int} (h : Reads w v l) {F G : Nat → Prop} (hl : Lies F v l.length) (hk : Keeps G w w') (hF : ∀ k, F k → k < w.heap.size ∧ ¬ G k) : Reads w' v l := by
  refine ⟨h.form, fun h0 => ?_⟩
  obtain ⟨b, off, cap, e, hc⟩ := h.cells h0
  obtain ⟨h1, h2⟩ := hF b (hl _ _ _ _ e h0)
  exact ⟨b, off, cap, e, fun j x hx => (hk.cell h1 h2).trans (hc j x hx)⟩
theorem Bools.keepL {w w' : World} {v : Value} {l : List Bool} (h : Bools w v l) {F G : Nat → Prop} (hl : Lies F v l.length) (hk : Keeps G w w') (hF : ∀ k, F k → k < w.heap.size ∧ ¬ G k) : Bools w' v l := by
  refine ⟨h.form, fun h0 => ?_⟩
  obtain ⟨b, off, cap, e, hb, hc⟩ := h.cells h0
  obtain ⟨h1, h2⟩ := hF b (hl _ _ _ _ e h0)
  exact ⟨b, off, cap, e, Nat.lt_of_lt_of_le hb hk.size, fun j x hx => (hk.cell h1 h2).trans (hc j x hx)⟩
theorem Marks.keepL {w w' : World} {v : Value} {n : Nat} {x : Int} (h : Marks w v n x) {F G : Nat → Prop} (hl : Lies F v n) (hk : Keeps G w w') (hF : ∀ k, F k → k < w.heap.size ∧ ¬ G k) : Marks w' v n x := by
  refine ⟨h.form, fun h0 => ?_⟩
  obtain ⟨b, off, cap, e, hc⟩ := h.cells h0
  obtain ⟨h1, h2⟩ := hF b (hl _ _ _ _ e h0)
  exact ⟨b, off, cap, e, fun j hj => ⟨(hk.cell h1 h2).trans (hc j hj).1, (hk.cell h1 h2).trans (hc j hj).2⟩⟩

theorem BookAt.own_at {w : World} {B : Nat} {b : Bk} (h : BookAt w B b) {k : Nat} (hk : b.own k) : B ≤ k ∧ ∃ c t, w.heap[k]? = some (.cells c t (0, 0)) ∧ (t = 79 ∨ t = 32 ∨ t = 51 ∨ t = 41) := by
  rcases hk with rfl | hk | hk | hk | hk | hk | hk
  · exact ⟨h.lo, _, _, h.blk, by simp⟩
  · obtain ⟨h1, c, h2⟩ := rowBlock h.rb hk; exact ⟨h1, c, _, h2, by simp⟩
  · obtain ⟨h1, c, h2⟩ := rowBlock h.rv hk; exact ⟨h1, c, _, h2, by simp⟩
  · obtain ⟨h1, c, h2⟩ := rowBlock h.rk hk; exact ⟨h1, c, _, h2, by simp⟩
  · obtain ⟨h1, c, h2⟩ := rowBlock h.rj hk; exact ⟨h1, c, _, h2, by simp⟩
  · obtain ⟨h1, c, h2⟩ := rowBlock h.rw hk; exact ⟨h1, c, _, h2, by simp⟩
  · obtain ⟨h1, c, h2⟩ := rowBlock h.rx hk; exact ⟨h1, c, _, h2, by simp⟩

theorem BookAt.F_own {w : World} {B : Nat} {b : Bk} (h : BookAt w B b) {k : Nat} (hk : b.F k) : ¬ b.own k := by
  intro ho
  obtain ⟨_, c, t, fr, h1, h2⟩ := h.F k hk
  obtain ⟨_, c', t', h1', h2'⟩ := h.own_at ho
  rw [h1] at h1'
  simp at h1'
  obtain ⟨_, e, _⟩ := h1'
  subst e
  rcases h2 with h2 | h2 | h2 <;> rcases h2' with h3 | h3 | h3 | h3 <;> rw [h2] at h3 <;> exact absurd h3 (by decide)

theorem BookAt.all_at {w : World} {B : Nat} {b : Bk} (h : BookAt w B b) {k : Nat} (hk : b.all k) : B ≤ k ∧ k < w.heap.size := by
  rcases hk with hk | hk
  · obtain ⟨h1, c, t, h2, _⟩ := h.own_at hk; exact ⟨h1, lt_of_block h2⟩
  · obtain ⟨h1, c, t, fr, h2, _⟩ := h.F k hk; exact ⟨h1, lt_of_block h2⟩

theorem BookAt.keep {w w' : World} {B : Nat} {b : Bk} (h : BookAt w B b) {G : Nat → Prop} (hk : Keeps G w w') (hG : ∀ k, b.all k → ¬ G k) : BookAt w' B b := by
  have hF : ∀ k, b.F k → k < w.heap.size ∧ ¬ G k := fun k h' => ⟨(h.all_at (Or.inr h')).2, hG k (Or.inr h')⟩
  have hr : ∀ {e z v n xs}, w.ownsRow B e z v n xs → (∀ k, v.ownBlock = some k → b.own k) → w'.ownsRow B e z v n xs := fun h' ho => ownsRow_kept h' hk (fun k hk' => hG k (Or.inl (ho k hk')))
  refine ⟨(hk.block _ (lt_of_block h.blk) (hG _ (Or.inl (Or.inl rfl)))).trans h.blk, h.lo, hr h.rb ?_, hr h.rv ?_, hr h.rk ?_, hr h.rj ?_, hr h.rw ?_, hr h.rx ?_, h.abv, h.akj, h.awx, h.lbv, h.lkj, h.lwx, h.lb, h.lw, ?_, ?_, ?_, ?_⟩
  · exact fun k e => Or.inr (Or.inl e)
  · exact fun k e => Or.inr (Or.inr (Or.inl e))
  · exact fun k e => Or.inr (Or.inr (Or.inr (Or.inl e)))
  · exact fun k e => Or.inr (Or.inr (Or.inr (Or.inr (Or.inl e))))
  · exact fun k e => Or.inr (Or.inr (Or.inr (Or.inr (Or.inr (Or.inl e)))))
  · exact fun k e => Or.inr (Or.inr (Or.inr (Or.inr (Or.inr (Or.inr e)))))
  · intro k hk'
    obtain ⟨h1, c, t, fr, h2, h3⟩ := h.F k hk'
    exact ⟨h1, c, t, fr, (hk.block k (hF k hk').1 (hF k hk').2).trans h2, h3⟩
  · intro i p q hp hq
    obtain ⟨l, h1, h2, h3, h4, h5⟩ := h.pb i p q hp hq
    exact ⟨l, h1.keepL h4 hk hF, h2.keepL h5 hk hF, h3, h4, h5⟩
  · intro i p q hp hq
    obtain ⟨l, h1, h2, h3, h4, h5⟩ := h.pk i p q hp hq
    exact ⟨l, h1.keepL h4 hk hF, h2.keepL h5 hk hF, h3, h4, h5⟩
  · intro i p q hp hq
    obtain ⟨n, x, h1, h2, h3, h4, h5⟩ := h.pw i p q hp hq
    exact ⟨n, x, h1.keepL h4 hk hF, h2.keepL h5 hk hF, h3, h4, h5⟩

end Go.Proofs.Ytjmbcelkhiopeaa

namespace Go.Proofs.Ytjmbcelkhiopeaa
open Go.RowKit Go.Maps

theorem type_ne {w : World} {k k' : Nat} {c c' : Array Value} {t t' : TypeId} {f f' : Nat × Nat} (h : w.heap[k]? = some (.cells c t f)) (h' : w.heap[k']? = some (.cells c' t' f')) (hne : t ≠ t') : k ≠ k' := by
  rintro rfl
  rw [h] at h'
  simp at h'
  exact hne h'.2.1

theorem row_ne {w : World} {B : Nat} {e e' : TypeId} {z z' : Nat} {v v' : Value} {n n' : Nat} {xs xs' : List Value} (h : w.ownsRow B e z v n xs) (h' : w.ownsRow B e' z' v' n' xs') (hne : e ≠ e') {k : Nat} (hk : v.ownBlock = some k) : v'.ownBlock ≠ some k := fun hk' => by
  obtain ⟨_, c, h1⟩ := rowBlock h hk
  obtain ⟨_, c', h2⟩ := rowBlock h' hk'
  exact type_ne h1 h2 hne rfl

/-- Two more pairs among the lists of bytes. -/
theorem BookAt.put2 {w w' : World} {B : Nat} {b : Bk} (h : BookAt w B b) {P : Nat → Prop} (hk : Keeps (fun k => (k = b.D ∨ b.bv.ownBlock = some k ∨ b.vv.ownBlock = some k) ∨ P k) w w') (hP : ∀ k, P k → ¬ b.all k) {bv' vv' p1 p2 q1 q2 : Value} {l1 l2 : List Int}
    (hblk : w'.heap[b.D]? = some (.cells #[bv', vv', b.kv, b.jv, b.wv, b.xv, .int .i64 ((b.n : Int) + 1)] 79 (0, 0)))
    (rb : w'.ownsRow B 32 1 bv' (b.bl ++ [p1] ++ [p2]).length (b.bl ++ [p1] ++ [p2])) (rv : w'.ownsRow B 32 1 vv' (b.vl ++ [q1] ++ [q2]).length (b.vl ++ [q1] ++ [q2])) (ab : ∀ k, bv'.ownBlock = some k → vv'.ownBlock ≠ some k)
    (F' : Nat → Prop) (hF' : ∀ k, F' k → B ≤ k ∧ ∃ c, w'.heap[k]? = some (.cells c 5 (0, 0)))
    (r1 : Reads w' p1 l1) (s1 : Reads w' q1 l1) (r2 : Reads w' p2 l2) (s2 : Reads w' q2 l2) (b1 : l1.length ≤ 140737488355328) (b2 : l2.length ≤ 140737488355328)
    (y1 : Lies F' p1 l1.length) (y2 : Lies F' q1 l1.length) (y3 : Lies F' p2 l2.length) (y4 : Lies F' q2 l2.length) :
    BookAt w' B { b with bv := bv', vv := vv', bl := b.bl ++ [p1] ++ [p2], vl := b.vl ++ [q1] ++ [q2], n := b.n + 1, F := fun k => b.F k ∨ F' k } := by
  have hD : ∀ {e z v n xs}, w.ownsRow B e z v n xs → e ≠ 79 → v.ownBlock ≠ some b.D := fun h' hne hk' => by
    obtain ⟨_, c, h1⟩ := rowBlock h' hk'
    exact type_ne h1 h.blk hne rfl
  have keepR : ∀ {e z v n xs}, w.ownsRow B e z v n xs → e ≠ 79 → e ≠ 32 → (∀ k, v.ownBlock = some k → b.own k) → w'.ownsRow B e z v n xs := fun h' h1 h2 ho => ownsRow_kept h' hk (fun k hk' hf => by
    rcases hf with (rfl | hf | hf) | hf
    · exact hD h' h1 hk'
    · exact row_ne h' h.rb h2 hk' hf
    · exact row_ne h' h.rv h2 hk' hf
    · exact hP k hf (Or.inl (ho k hk')))
  have hF : ∀ k, b.F k → k < w.heap.size ∧ ¬ ((k = b.D ∨ b.bv.ownBlock = some k ∨ b.vv.ownBlock = some k) ∨ P k) := fun k hk' => ⟨(h.all_at (Or.inr hk')).2, by
    rintro (hf | hf)
    · exact h.F_own hk' (hf.elim Or.inl (fun hf => hf.elim (fun hf => Or.inr (Or.inl hf)) (fun hf => Or.inr (Or.inr (Or.inl hf)))))
    · exact hP k hf (Or.inr hk')⟩
  have lies1 : ∀ {v n}, Lies b.F v n → Lies (fun k => b.F k ∨ F' k) v n := fun h' b off m c e h0 => Or.inl (h' b off m c e h0)
  have lies2 : ∀ {v n}, Lies F' v n → Lies (fun k => b.F k ∨ F' k) v n := fun h' b off m c e h0 => Or.inr (h' b off m c e h0)
  refine ⟨?_, h.lo, rb, rv, keepR h.rk (by decide) (by decide) ?_, keepR h.rj (by decide) (by decide) ?_, keepR h.rw (by decide) (by decide) ?_, keepR h.rx (by decide) (by decide) ?_, ab, h.akj, h.awx, ?_, h.lkj, h.lwx, ?_, ?_, ?_, ?_, ?_, ?_⟩
  · rw [hblk]; simp [Bk.cells]
  · exact fun k e => Or.inr (Or.inr (Or.inr (Or.inl e)))
  · exact fun k e => Or.inr (Or.inr (Or.inr (Or.inr (Or.inl e))))
  · exact fun k e => Or.inr (Or.inr (Or.inr (Or.inr (Or.inr (Or.inl e)))))
  · exact fun k e => Or.inr (Or.inr (Or.inr (Or.inr (Or.inr (Or.inr e)))))
  · have := h.lbv; simp; omega
  · have := h.lb; simp; omega
  · have := h.lw; show b.wl.length ≤ 2 * (b.n + 1); omega
  · rintro k (hk' | hk')
    · obtain ⟨h1, c, t, fr, h2, h3⟩ := h.F k hk'
      exact ⟨h1, c, t, fr, (hk.block k (hF k hk').1 (hF k hk').2).trans h2, h3⟩
    · obtain ⟨h1, c, h2⟩ := hF' k hk'
      exact ⟨h1, c, 5, (0, 0), h2, by simp⟩
  · intro i p q hp hq
    simp only at hp hq
    have hl := h.lbv
    rw [List.append_assoc] at hp hq
    by_cases hi : i < b.bl.length
    · rw [List.getElem?_append_left hi] at hp
      rw [List.getElem?_append_left (by omega)] at hq
      obtain ⟨l, h1, h2, h3, h4, h5⟩ := h.pb i p q hp hq
      exact ⟨l, h1.keepL h4 hk hF, h2.keepL h5 hk hF, h3, lies1 h4, lies1 h5⟩
    · rw [List.getElem?_append_right (by omega)] at hp
      rw [List.getElem?_append_right (by omega), hl] at hq
      obtain ⟨j, hj⟩ : ∃ j, j = i - b.bl.length := ⟨_, rfl⟩
      rw [← hj] at hp hq
      rcases j with _ | _ | j
      · simp at hp hq; subst hp hq
        exact ⟨l1, r1, s1, b1, lies2 y1, lies2 y2⟩
      · simp at hp hq; subst hp hq
        exact ⟨l2, r2, s2, b2, lies2 y3, lies2 y4⟩
      · simp at hp
  · intro i p q hp hq
    obtain ⟨l, h1, h2, h3, h4, h5⟩ := h.pk i p q hp hq
    exact ⟨l, h1.keepL h4 hk hF, h2.keepL h5 hk hF, h3, lies1 h4, lies1 h5⟩
  · intro i p q hp hq
    obtain ⟨n, x, h1, h2, h3, h4, h5⟩ := h.pw i p q hp hq
    exact ⟨n, x, h1.keepL h4 hk hF, h2.keepL h5 hk hF, h3, lies1 h4, lies1 h5⟩

end Go.Proofs.Ytjmbcelkhiopeaa

namespace Go.Proofs.Ytjmbcelkhiopeaa
open Go.RowKit Go.Maps
attribute [local go_sem ↓] Go.wp_at_zero Go.wp_at_succ

theorem Try.info32 : (Try.prog.info? 32).map (fun i => (i.zero, i.size, i.bytes)) = some (some (.slice none 0 0), 1, 24) := by kernel_rfl
theorem Try.info51 : (Try.prog.info? 51).map (fun i => (i.zero, i.size, i.bytes)) = some (some (.slice none 0 0), 1, 24) := by kernel_rfl
theorem Try.info41 : (Try.prog.info? 41).map (fun i => (i.zero, i.size, i.bytes)) = some (some (.slice none 0 0), 1, 24) := by kernel_rfl
theorem bs_append (a b : List Int) : bs (a ++ b) = bs a ++ bs b := by simp [bs]

theorem own_form {w : World} {B : Nat} {e : TypeId} {z : Nat} {v : Value} {n : Nat} {xs : List Value} (h : w.ownsRow B e z v n xs) : ∃ ao cap, v = .slice ao n cap ∧ ∀ a, ao = some a → a.off = 0 ∧ a.spot = none := by
  rcases h.2 with ⟨rfl, rfl⟩ | ⟨g, cap, cur, rfl, _⟩
  · exact ⟨_, _, rfl, fun _ h => by cases h⟩
  · exact ⟨_, _, rfl, fun _ h => by cases h; exact ⟨rfl, rfl⟩⟩

theorem reads_grown {w w' : World} {B : Nat} {ao : Option Addr} {n cap : Nat} {L : List Int} (hR : Reads w (.slice ao n cap) L) (ho : ∀ a, ao = some a → a.off = 0 ∧ a.block < w.heap.size) {g' cap' k : Nat} {more : List Int}
    (hrow' : w'.ownsRow B 5 1 (.slice (some ⟨g', 0, none⟩) k cap') k (bs (L ++ more))) {row : Option Nat} (hg : w.grownBy w' row) (hr : ∀ q, row = some q → q = g') : Reads w' (.slice ao n cap) L := by
  refine ⟨hR.form, fun h0 => ?_⟩
  obtain ⟨b, off, cap1, e, hc⟩ := hR.cells h0
  refine ⟨b, off, cap1, e, fun j x hx => ?_⟩
  have e' := e
  simp at e'
  obtain ⟨h1, h2⟩ := ho _ e'.1
  simp only at h1 h2
  subst h1
  by_cases hb : b = g'
  · subst hb
    have := (row_cell hrow').2.2 j (.int .u8 x) (by
      have hj := (List.getElem?_eq_some_iff.1 hx).1
      rw [bs_append, List.getElem?_append_left (by simpa [bs] using hj)]; simp [bs, hx])
    simpa using this
  · rw [hg.cell_far ⟨b, 0 + j, none⟩ h2 (fun e => hb (hr b e.symm))]
    exact hc j x hx


theorem ownsRow_grown {w w' : World} {base : Nat} {e : TypeId} {size : Nat} {v : Value} {n : Nat} {xs : List Value} (h : w.ownsRow base e size v n xs) {row : Option Nat} (hg : w.grownBy w' row) (hr : ∀ q, v.ownBlock = some q → row ≠ some q) : w'.ownsRow base e size v n xs := by
  refine ⟨h.1, ?_⟩
  rcases h.2 with hn | ⟨g, cap, cur, rfl, hb, hgg, hrest⟩
  · exact Or.inl hn
  · exact Or.inr ⟨g, cap, cur, rfl, hb, (hg.block g (lt_of_block hgg) (fun e => hr g rfl e.symm)).trans hgg, hrest⟩

theorem mark_step (l : List Int) (k : Nat) (M : Int) (hk : k < l.length) : (bs (List.replicate k M ++ l.drop k)).set k (.int .u8 M) = bs (List.replicate (k + 1) M ++ l.drop (k + 1)) := by
  have h1 : l.drop k = l[k] :: l.drop (k + 1) := List.drop_eq_getElem_cons hk
  rw [h1, bs_append, bs_append, List.set_append_right _ _ (by simp [bs]), List.replicate_succ']
  simp only [bs, List.map_append, List.map_cons, List.map_nil, List.length_map, List.length_replicate, Nat.sub_self, List.set_cons_zero, List.append_assoc, List.cons_append, List.nil_append]

/-- An append to one of the Book's lists, and the store behind it. -/
theorem field_step {wr w3 : World} {D : Nat} {cs : Array Value} {B : Nat} {e : TypeId} {bv : Value} {bl : List Value} {p : Value} {o : Obj} {g1 cap1 len : Nat} (j : Nat) (hD : wr.heap[D]? = some (.cells cs 79 (0, 0))) (ne : bv.ownBlock ≠ some D)
    (hrb1 : w3.ownsRow B e 1 (.slice (some ⟨g1, 0, none⟩) len cap1) len (bl ++ [p])) (hgr : (wr.alloc o).grownBy w3 bv.ownBlock) (hat : bv.ownBlock = some g1 ∨ g1 = wr.heap.size + 1) :
    w3.heap[D]? = some (.cells cs 79 (0, 0)) ∧ (w3.setCell ⟨D, j, none⟩ (.slice (some ⟨g1, 0, none⟩) len cap1)).heap[D]? = some (.cells (cs.setIfInBounds j (.slice (some ⟨g1, 0, none⟩) len cap1)) 79 (0, 0)) ∧
    (w3.setCell ⟨D, j, none⟩ (.slice (some ⟨g1, 0, none⟩) len cap1)).ownsRow B e 1 (.slice (some ⟨g1, 0, none⟩) len cap1) len (bl ++ [p]) ∧ Keeps (fun k => k = D ∨ bv.ownBlock = some k) wr (w3.setCell ⟨D, j, none⟩ (.slice (some ⟨g1, 0, none⟩) len cap1)) := by
  have hlt := lt_of_block hD
  have h3 : w3.heap[D]? = some (.cells cs 79 (0, 0)) := by
    rw [hgr.block D (by simp; omega) (fun e => ne e.symm), Below.heap_alloc _ _ _ hlt]; exact hD
  have hg1D : g1 ≠ D := by
    rcases hat with h | h
    · exact fun e => ne (e ▸ h)
    · omega
  have hk3 : Keeps (fun k => k = D ∨ bv.ownBlock = some k) wr w3 := ((Keeps.refl _ wr).alloc o).grown hgr (fun k e _ => Or.inr e)
  refine ⟨h3, heap_setCell_at h3 _, ownsRow_kept hrb1 (kD w3 D j _) (fun q hq => ?_), hk3.trans ((kD w3 D j _).mono (fun _ _ e => Or.inl e))⟩
  cases hq
  exact hg1D

theorem textL_snoc (M : Int) (n k : Nat) : List.replicate n M ++ textL M (k + 1) = (List.replicate n M ++ textL M k) ++ [(M + (k : Int)) % 256] := by rw [textL_succ, List.append_assoc]

theorem Keeps.next {F G : Nat → Prop} {a b c : World} (h : Keeps F a b) (k : Keeps G b c) (hFG : ∀ q, q < a.heap.size → G q → F q) : Keeps F a c :=
  ⟨k.os.trans h.os, k.tape.trans h.tape, k.output.trans h.output, Nat.le_trans h.size k.size, fun i hi hF => (k.block i (Nat.lt_of_lt_of_le hi h.size) (fun g => hF (hFG i hi g))).trans (h.block i hi hF)⟩

set_option maxRecDepth 100000 in
set_option maxHeartbeats 8000000 in
theorem bytes_any (w : World) (B : Nat) (b : Bk) (hb : BookAt w B b) (hB : B ≤ w.heap.size) (ao : Option Addr) (n cap : Nat) (l : List Int) (hl : l.length = n) (hrow : w.ownsRow B 5 1 (.slice ao n cap) n (bs l)) (hout : ∀ k, (Value.slice ao n cap).ownBlock = some k → ¬ b.all k)
    (hlen : n + 64 ≤ 140737488355328) (hn : b.n ≤ 2199031644160) :
    Calls Try.prog 47 #[.pointer (some ⟨b.D, 0, none⟩), .slice ao n cap] w fun e w' => ∃ v, e = .returned v ∧ ∃ b', BookAt w' B b' ∧ b'.D = b.D ∧ b'.n = b.n + 1 ∧ b'.kl = b.kl ∧ Keeps (fun k => b.own k ∨ (Value.slice ao n cap).ownBlock = some k) w w' ∧ (∀ k, b'.all k → b.all k ∨ (Value.slice ao n cap).ownBlock = some k ∨ w.heap.size ≤ k) := by
  obtain ⟨i0, hi, hz0, hz1, hz2⟩ := info_parts Try.info5
  obtain ⟨i1, hi1, hy0, hy1, hy2⟩ := info_parts Try.info32
  have hblk := hb.blk
  have c6 : w.cell? ⟨b.D, 6, none⟩ = some (.int .i64 b.n) := cell_of_blk hblk 6
  have fD : ∀ j, w.frozen? ⟨b.D, j, none⟩ = false := frozen_of_blk hblk
  have hDlt := lt_of_block hblk
  have hn0 : (0 : Int) ≤ (b.n : Int) := by omega
  have hn1 : (b.n : Int) ≤ 2199031644160 := by omega
  obtain ⟨w1, hw1⟩ : ∃ w1, w1 = w.setCell ⟨b.D, 6, none⟩ (.int .i64 ((b.n : Int) + 1)) := ⟨_, rfl⟩
  have k1 : Keeps (fun k => k = b.D) w w1 := by rw [hw1]; exact kD _ _ _ _
  have hblk1 : w1.heap[b.D]? = some (.cells #[b.bv, b.vv, b.kv, b.jv, b.wv, b.xv, .int .i64 ((b.n : Int) + 1)] 79 (0, 0)) := by rw [hw1, heap_setCell_at hblk]; rfl
  have hnD : (Value.slice ao n cap).ownBlock ≠ some b.D := fun e => hout b.D e (Or.inl (Or.inl rfl))
  have hrow1 := ownsRow_kept hrow k1 (fun k hk e => hnD (e ▸ hk))
  have hsz1 : w1.heap.size = w.heap.size := by rw [hw1]; simp
  obtain ⟨M, hM⟩ : ∃ M : Int, M = ((b.n : Int) + 1) % 251 + 1 := ⟨_, rfl⟩
  have hM0 : 0 ≤ M := by omega
  have hM1 : M ≤ 251 := by omega
  have HM := hide hM
  clear hM
  have HB := hide hb
  have HR := hide hrow1
  have HW1 := hide hw1
  have HK1 := hide k1
  have HBLK1 := hide hblk1
  have hB1 : B ≤ w1.heap.size := by omega
  clear hb hrow hblk hw1 k1 hblk1 hrow1
  go_enter Try.func47, Try.ntmps47
  go_wp2_with fail
  rw [← unhide HW1]
  rw [← unhide HM]
  go_loopw [5, 6] (fun wv i wr => ∃ (k : Nat), k ≤ n ∧ i = .int .i64 k ∧ wr.ownsRow B 5 1 (.slice ao n cap) n (bs (List.replicate k M ++ l.drop k)) ∧ wr.ownsRow w1.heap.size 5 1 wv k (bs (List.replicate k M)) ∧ Keeps (fun q => (Value.slice ao n cap).ownBlock = some q) w1 wr) (fun _ i _ => n - (intOf i).toNat)
  case atStart => exact ⟨0, Nat.zero_le _, rfl, by simpa using unhide HR, by simpa [bs] using World.ownsRow_nil w1 w1.heap.size 5 1, Keeps.refl _ _⟩
  case round =>
    obtain ⟨k, hk, rfl, ho1, ho2, hkeep⟩ := hrel
    by_cases hlt : k < n
    · obtain ⟨g, cap', e1, hg1, hg2⟩ := ho1.form (by omega)
      simp at e1
      obtain ⟨rfl, rfl⟩ := e1
      have i1 : (k : Int) < (n : Int) := by omega
      have i2 : (0 : Int) ≤ (k : Int) := by omega
      have cg : (wr.cell? ⟨g, k, none⟩).isSome = true := by
        obtain ⟨u, hu⟩ : ∃ u, (bs (List.replicate k M ++ l.drop k))[k]? = some u := ⟨_, List.getElem?_eq_getElem (by simp [bs]; omega)⟩
        rw [(row_cell ho1).2.2 k u hu]; rfl
      obtain ⟨ug, cg'⟩ := Option.isSome_iff_exists.1 cg
      have fg : wr.frozen? ⟨g, k, none⟩ = false := row_frozen ho1 k
      have hu5 : ∀ q, u5.ownBlock = some q → q ≠ g := fun q hq e => by
        have := (ho2.lt q hq).1
        have : g < w1.heap.size := (((unhide HR).lt g rfl)).2
        omega
      obtain ⟨w2, hw2⟩ : ∃ w2, w2 = wr.setCell ⟨g, k, none⟩ (.int .u8 M) := ⟨_, rfl⟩
      have hs2 := row_set ho1 k (.int .u8 M)
      have hx2 := mark_step l k M (by omega)
      rw [hx2, ← hw2] at hs2
      have hk2 : Keeps (fun q => q = g) wr w2 := by rw [hw2]; exact kD _ _ _ _
      have ho2' := ownsRow_kept ho2 hk2 (fun q hq => hu5 q hq)
      have hsz2 : w2.heap.size = wr.heap.size := by rw [hw2]; simp
      have HS2 := hide hs2
      have HO2 := hide ho2'
      have HK := hide (hkeep.trans (hk2.mono (fun q _ e => by rw [e]; rfl)))
      have hnb : ((wr.setCell ⟨g, k, none⟩ (.int .u8 M)).alloc (.cells #[.int .u8 M] 5)).heap[wr.heap.size]? = some (.cells #[.int .u8 M] 5 (0, 0)) := by rw [← hw2, ← hsz2]; exact heap_alloc_new w2 _
      rw [hw2] at HS2 HO2 HK
      have HNB := hide hnb
      clear ho1 ho2 hkeep hs2 ho2' hk2 hw2 hx2 cg hsz2 hnb
      go_wp2_with (at_builtin; refine wpList_append_lies _ rfl _ _ _ rfl w1.heap.size 5 i0 _ 1 1 Try.underlying32 hi hz0 hz1 hz2 rfl (by omega) u5 k (bs (List.replicate k M)) rfl ((unhide HO2).alloc _) ⟨wr.heap.size, 0, none⟩ 1 1 [.int .u8 M] rfl rfl (World.news_of_block (cs := #[.int .u8 M]) (t := 5) (fr := (0, 0)) (unhide HNB)) (by simp [Value.oneCell']) (by omega) (by unfold maxLen; omega) (by omega) (by have := (unhide HK).size; simp at this ⊢; omega) (wr.heap.size + 1) (by simp) ?_; intro g' cap'' w3 hown1 hgrow hat hlt1)
      go_roundw
      case rel =>
        refine ⟨k + 1, by omega, by go_num, ?_, ?_, ((unhide HK).alloc _).grown hgrow (fun q e hq => by have := ((unhide HO2).lt q e).1; omega)⟩
        · refine ownsRow_grown ((unhide HS2).alloc _) hgrow (fun q hq e => ?_)
          cases hq
          exact hu5 g e rfl
        · rw [List.replicate_succ', bs_append]
          simpa [bs] using hown1
      case measure => simp [intOf]; omega
    · obtain rfl : n = k := by omega
      clear hlt
      have hdn : List.replicate n M ++ l.drop n = List.replicate n M := by rw [List.drop_of_length_le (by omega), List.append_nil]
      rw [hdn] at ho1
      obtain ⟨o5, c5, rfl, hf5⟩ := own_form ho2
      have hb := unhide HB
      have hown : ∀ q, b.own q → ¬ (Value.slice ao n cap).ownBlock = some q := fun q h1 h2 => hout q h2 (Or.inl h1)
      have hDw1 : b.D < w1.heap.size := by omega
      have hblk2 : wr.heap[b.D]? = some (.cells #[b.bv, b.vv, b.kv, b.jv, b.wv, b.xv, .int .i64 ((b.n : Int) + 1)] 79 (0, 0)) := (hkeep.block _ hDw1 hnD).trans (unhide HBLK1)
      have nbD : b.bv.ownBlock ≠ some b.D := fun e => by obtain ⟨c, h1⟩ := (rowBlock hb.rb e).2; rw [hb.blk] at h1; cases h1
      have nvD : b.vv.ownBlock ≠ some b.D := fun e => by obtain ⟨c, h1⟩ := (rowBlock hb.rv e).2; rw [hb.blk] at h1; cases h1
      have rb2 := ownsRow_kept (ownsRow_kept hb.rb (unhide HK1) (fun q hq e => nbD (e ▸ hq))) hkeep (fun q hq => hown q (Or.inr (Or.inl hq)))
      have rv2 := ownsRow_kept (ownsRow_kept hb.rv (unhide HK1) (fun q hq e => nvD (e ▸ hq))) hkeep (fun q hq => hown q (Or.inr (Or.inr (Or.inl hq))))
      have abv := hb.abv
      have lv : b.vl.length ≤ 2 * b.n := by have := hb.lbv; have := hb.lb; omega
      have lb := hb.lb
      have hsz2 := hkeep.size
      have g0 := cell_of_blk hblk2 0
      have g1' := cell_of_blk hblk2 1
      simp at g0 g1'
      have fD2 : ∀ j, wr.frozen? ⟨b.D, j, none⟩ = false := frozen_of_blk hblk2
      have hDlt2 := lt_of_block hblk2
      have RB2 := hide rb2
      have RV2 := hide rv2
      have HO1 := hide ho1
      have HO2 := hide ho2
      have HKP := hide hkeep
      have HBLK2 := hide hblk2
      have HABV := hide abv
      have HNB := hide nbD
      have HNV := hide nvD
      clear hb ho1 ho2 hkeep hblk2 rb2 rv2 abv nbD nvD hdn c6 fD
      go_wp2_with (first
        | (at_builtin
           refine wpList_append_lies _ rfl _ _ _ rfl B 32 i1 _ 1 24 Try.underlying75 hi1 hy0 hy1 hy2 rfl (by omega) b.bv b.bl.length b.bl rfl ((unhide RB2).alloc _) ⟨wr.heap.size, 0, none⟩ 1 1 [.slice ao n cap] rfl rfl (World.news_of_block (cs := #[.slice ao n cap]) (t := 32) (fr := (0, 0)) (heap_alloc_new wr _)) (by simp [Value.oneCell']) (by omega) (by unfold maxLen; omega) (by omega) (by simp; omega) (wr.heap.size + 1) (by simp) ?_
           intro g1 cap1 w3 hrb1 hgr1 hat1 hlt1
           have fs := field_step 0 (unhide HBLK2) (unhide HNB) hrb1 hgr1 hat1
           have c30 := cell_of_blk fs.1 0
           have c31 := cell_of_blk fs.1 1
           simp at c30 c31
           have f3 : ∀ j, w3.frozen? ⟨b.D, j, none⟩ = false := frozen_of_blk fs.1
           have hDlt3 := lt_of_block fs.1
           have FS := hide fs
           have HAT1 := hide hat1
           have RV4 := hide (ownsRow_kept (unhide RV2) fs.2.2.2 (fun q hq h => h.elim (fun e => unhide HNV (e ▸ hq)) (fun e => unhide HABV q e hq)))
           have hs3 : wr.heap.size + 1 ≤ w3.heap.size := by have := hgr1.size; simp at this; omega
           clear fs hrb1 hgr1 hat1 g0 g1')
        | (at_builtin
           refine wpList_append_lies _ rfl _ _ _ rfl B 32 i1 _ 1 24 Try.underlying75 hi1 hy0 hy1 hy2 rfl (by omega) b.vv b.vl.length b.vl rfl ((unhide RV4).alloc _) ⟨w3.heap.size, 0, none⟩ 1 1 [.slice o5 n c5] rfl rfl (World.news_of_block (cs := #[.slice o5 n c5]) (t := 32) (fr := (0, 0)) (by have := heap_alloc_new (w3.setCell ⟨b.D, 0, none⟩ (.slice (some ⟨g1, 0, none⟩) (b.bl.length + 1) cap1)) (.cells #[.slice o5 n c5] 32); simpa using this)) (by simp [Value.oneCell']) (by omega) (by unfold maxLen; omega) (by omega) (by simp; omega) (w3.heap.size + 1) (by simp) ?_
           intro g2 cap2 w5 hrv1 hgr2 hat2 hlt2
           have fs2 := field_step 1 (unhide FS).2.1 (unhide HNV) hrv1 hgr2 (by simpa using hat2)
           have c51 := cell_of_blk fs2.1 1
           simp at c51
           have f5 : ∀ j, w5.frozen? ⟨b.D, j, none⟩ = false := frozen_of_blk fs2.1
           have hDlt5 := lt_of_block fs2.1
           have FS2 := hide fs2
           have HAT2 := hide hat2
           have hs5 : w3.heap.size + 1 ≤ w5.heap.size := by have := hgr2.size; simp at this; omega
           clear fs2 hrv1 hgr2 hat2))
      obtain ⟨w4, hw4⟩ : ∃ w4, w4 = w3.setCell ⟨b.D, 0, none⟩ (.slice (some ⟨g1, 0, none⟩) (b.bl.length + 1) cap1) := ⟨_, rfl⟩
      obtain ⟨w6, hw6⟩ : ∃ w6, w6 = w5.setCell ⟨b.D, 1, none⟩ (.slice (some ⟨g2, 0, none⟩) (b.vl.length + 1) cap2) := ⟨_, rfl⟩
      rw [← hw4] at FS FS2
      rw [← hw6] at FS2
      rw [← hw6]
      have hb := unhide HB
      have kp1 : Keeps (fun k => (k = b.D ∨ b.bv.ownBlock = some k ∨ b.vv.ownBlock = some k)) wr w4 := (unhide FS).2.2.2.mono (fun k _ h => h.imp id Or.inl)
      have kp2 : Keeps (fun k => (k = b.D ∨ b.bv.ownBlock = some k ∨ b.vv.ownBlock = some k)) w4 w6 := (unhide FS2).2.2.2.mono (fun k _ h => h.imp id Or.inr)
      have kp := kp1.trans kp2
      have hbvlt : ∀ q, b.bv.ownBlock = some q → q < w.heap.size := fun q h => (hb.rb.lt q h).2
      have hvvlt : ∀ q, b.vv.ownBlock = some q → q < w.heap.size := fun q h => (hb.rv.lt q h).2
      have ng1D : g1 ≠ b.D := by
        rcases unhide HAT1 with h | h
        · exact fun e => unhide HNB (e ▸ h)
        · omega
      have ng1v : b.vv.ownBlock ≠ some g1 := by
        rcases unhide HAT1 with h | h
        · exact unhide HABV g1 h
        · intro e; have := hvvlt g1 e; omega
      have ng12 : g1 ≠ g2 := by
        rcases unhide HAT2 with h | h
        · intro e; exact ng1v (e ▸ h)
        · omega
      have rb6 : w6.ownsRow B 32 1 (.slice (some ⟨g1, 0, none⟩) (b.bl.length + 1) cap1) (b.bl.length + 1) (b.bl ++ [.slice ao n cap]) := ownsRow_kept (unhide FS).2.2.1 (unhide FS2).2.2.2 (fun q hq h => by
        cases hq
        exact h.elim (fun e => ng1D e) (fun e => ng1v e))
      have rv6 := (unhide FS2).2.2.1
      have blk6 : w6.heap[b.D]? = some (.cells #[.slice (some ⟨g1, 0, none⟩) (b.bl.length + 1) cap1, .slice (some ⟨g2, 0, none⟩) (b.vl.length + 1) cap2, b.kv, b.jv, b.wv, b.xv, .int .i64 ((b.n : Int) + 1)] 79 (0, 0)) := (unhide FS2).2.1
      have hlo : ∀ q, (Value.slice ao n cap).ownBlock = some q → ¬ (q = b.D ∨ b.bv.ownBlock = some q ∨ b.vv.ownBlock = some q) := fun q h1 h2 => hown q (h2.elim Or.inl (fun h2 => h2.elim (fun h2 => Or.inr (Or.inl h2)) (fun h2 => Or.inr (Or.inr (Or.inl h2))))) h1
      have row6 := ownsRow_kept (unhide HO1) kp hlo
      have hof : ∀ q, (Value.slice o5 n c5).ownBlock = some q → w1.heap.size ≤ q := fun q h => ((unhide HO2).lt q h).1
      have five6 := ownsRow_kept (unhide HO2) kp (fun q h1 h2 => by
        have := hof q h1
        rcases h2 with h2 | h2 | h2
        · omega
        · have := hbvlt q h2; omega
        · have := hvvlt q h2; omega)
      have K6 : Keeps (fun k => (k = b.D ∨ b.bv.ownBlock = some k ∨ b.vv.ownBlock = some k) ∨ (Value.slice ao n cap).ownBlock = some k) w w6 :=
        ((unhide HK1).mono (fun k _ e => Or.inl (Or.inl e))).trans (((unhide HKP).mono (fun k _ e => Or.inr e)).trans (kp.mono (fun k _ e => Or.inl e)))
      have hsz6 : wr.heap.size ≤ w6.heap.size := kp.size
      have hg1lt : g1 < w6.heap.size := ((rowBlock rb6 rfl).2).elim (fun c h => lt_of_block h)
      have hg2lt : g2 < w6.heap.size := ((rowBlock rv6 rfl).2).elim (fun c h => lt_of_block h)
      have hlr : ∀ q, (Value.slice ao n cap).ownBlock = some q → q < w1.heap.size := fun q h => ((unhide HR).lt q h).2
      have HG12 := hide (show g1 ≠ g2 ∧ g1 ≠ b.D ∧ (b.bv.ownBlock = some g1 ∨ w.heap.size ≤ g1) ∧ (b.vv.ownBlock = some g2 ∨ w.heap.size ≤ g2) ∧ g2 ≠ b.D from ⟨ng12, ng1D, (unhide HAT1).imp id (fun h => by omega), (unhide HAT2).imp id (fun h => by omega), by
        rcases unhide HAT2 with h | h
        · exact fun e => unhide HNV (e ▸ h)
        · omega⟩)
      have HRB6 := hide rb6
      have HRV6 := hide rv6
      have HBLK6 := hide blk6
      have HROW6 := hide row6
      have HFIVE6 := hide five6
      have HK6 := hide K6
      have HOF := hide hof
      have HF5 := hide hf5
      have HLR := hide hlr
      have hw16 : w1.heap.size ≤ w6.heap.size := by omega
      clear hb kp1 kp2 kp hbvlt hvvlt ng1D ng1v ng12 rb6 rv6 blk6 hlo row6 hof five6 K6 hf5 hlr FS FS2 hw4 hw6 RV4 RB2 RV2 HO1 HO2 HKP HBLK2 HAT1 HAT2 c30 c31 f3 hDlt3 c51 f5 hDlt5 hs3 hs5 hlt1 hlt2 fD2 hDlt2 hsz2 hsz6 hown hDw1 hk
      go_loopw [8, 9] (fun vv i wr => ∃ k : Nat, k ≤ n ∧ i = .int .i64 k ∧ wr.ownsRow w6.heap.size 5 1 vv k (bs (List.replicate k M)) ∧ Keeps (fun _ => False) w6 wr) (fun _ i _ => n - (intOf i).toNat)
      case atStart => exact ⟨0, Nat.zero_le _, rfl, by simpa [bs] using World.ownsRow_nil w6 w6.heap.size 5 1, Keeps.refl _ _⟩
      case round =>
        obtain ⟨k, hk, rfl, hown, hkeep⟩ := hrel
        have HO := hide hown
        have HK := hide hkeep
        clear hown hkeep
        by_cases hlt : k < n
        · go_wp2_with (at_builtin; refine wpList_append_lies _ rfl _ _ _ rfl w6.heap.size 5 i0 _ 1 1 Try.underlying32 hi hz0 hz1 hz2 rfl (by omega) u8 k (bs (List.replicate k M)) rfl ((unhide HO).alloc _) ⟨wr.heap.size, 0, none⟩ 1 1 [.int .u8 M] rfl rfl (World.news_of_block (cs := #[.int .u8 M]) (t := 5) (fr := (0, 0)) (heap_alloc_new wr _)) (by simp [Value.oneCell']) (by omega) (by unfold maxLen; omega) (by omega) (by have := (unhide HK).size; simp; omega) (wr.heap.size + 1) (by simp) ?_; intro g cap' w1' hown1 hgrow hat hlt1)
          go_roundw
          case rel =>
            refine ⟨k + 1, by omega, by go_num, ?_, ((unhide HK).alloc _).grown hgrow (fun q e hq => by have := ((unhide HO).lt q e).1; omega)⟩
            rw [List.replicate_succ', bs_append]
            simpa [bs] using hown1
          case measure => simp [intOf]; omega
        · obtain rfl : n = k := by omega
          clear hlt
          go_wp2_with fail
          go_loopw [7, 8, 10] (fun gv vv i wx => ∃ k : Nat, k ≤ 64 ∧ i = .int .u8 k ∧ wx.ownsRow B 5 1 gv (n + k) (bs (List.replicate n M ++ textL M k)) ∧ wx.ownsRow w6.heap.size 5 1 vv (n + k) (bs (List.replicate n M ++ textL M k)) ∧ (∀ q, gv.ownBlock = some q → (Value.slice ao n cap).ownBlock = some q ∨ w6.heap.size ≤ q) ∧ (∀ q, gv.ownBlock = some q → vv.ownBlock ≠ some q) ∧ Reads wx (.slice ao n cap) (List.replicate n M) ∧ (∀ q, (Value.slice ao n cap).ownBlock = some q → ∃ c, wx.heap[q]? = some (.cells c 5 (0, 0))) ∧ Keeps (fun q => (Value.slice ao n cap).ownBlock = some q) w6 wx) (fun _ _ i _ => 64 - (intOf i).toNat)
          case atStart =>
            have r6 := ownsRow_kept (unhide HROW6) (unhide HK) (fun _ _ => id)
            refine ⟨0, by omega, rfl, by simpa [textL] using r6, by simpa [textL] using unhide HO, fun q h => Or.inl h, fun q h1 h2 => ?_, (row_reads r6).1, fun q h => (rowBlock r6 h).2, (unhide HK).mono (fun _ _ f => f.elim)⟩
            have := unhide HLR q h1
            have := ((unhide HO).lt q h2).1
            omega
          case round =>
            obtain ⟨k, hk64, rfl, hg, hv, hgq, hgv, hrd, hty, hkx⟩ := hrel
            by_cases hlt : k < 64
            · have i1' : (k : Int) < 64 := by omega
              have i0' : (0 : Int) ≤ (k : Int) := by omega
              have hao : ∀ a, ao = some a → a.off = 0 ∧ a.block < wr.heap.size := fun a e => by
                obtain ⟨o', c', e', h'⟩ := own_form (unhide HROW6)
                simp at e'
                obtain ⟨rfl, rfl⟩ := e'
                refine ⟨(h' a e).1, ?_⟩
                have := unhide HLR a.block (by rw [e]; rfl)
                have := hkx.size
                omega
              have hrd' : Reads (wr.alloc (.cells #[.int .u8 ((M + (k : Int)) % 256)] 5)) (.slice ao n cap) (List.replicate n M) := hrd.keepL (F := fun q => q < wr.heap.size) (G := fun _ => False) (fun b off m c e _ => (hao ⟨b, off, none⟩ (by simp at e; exact e.1)).2) ((Keeps.refl _ wr).alloc _) (fun q h => ⟨h, id⟩)
              have hx6 := hkx.size
              have HG := hide hg
              have HV := hide hv
              have HGQ := hide hgq
              have HGV := hide hgv
              have HRD := hide hrd'
              have HKX := hide hkx
              have HAO := hide hao
              have HTY := hide hty
              clear hg hv hgq hgv hrd hrd' hkx hao hty
              go_wp2_with (first
                | (at_builtin
                   refine wpList_append_two _ rfl _ _ _ rfl B 5 i0 _ 1 1 Try.underlying32 hi hz0 hz1 hz2 rfl (by omega) u7 (n + k) (bs (List.replicate n M ++ textL M k)) rfl ((unhide HG).alloc _) ⟨wr.heap.size, 0, none⟩ 1 1 [.int .u8 ((M + (k : Int)) % 256)] rfl rfl (World.news_of_block (cs := #[.int .u8 ((M + (k : Int)) % 256)]) (t := 5) (fr := (0, 0)) (heap_alloc_new wr _)) (by simp [Value.oneCell']) (by omega) (by unfold maxLen; omega) (by omega) (by simp; omega) (wr.heap.size + 1) (by simp) ?_
                   intro g' cap' wy hown' hcase hlt'
                   have hgr : ∃ row, (wr.alloc (.cells #[.int .u8 ((M + (k : Int)) % 256)] 5)).grownBy wy row ∧ ∀ q, row = some q → q = g' ∧ u7.ownBlock = some q := by
                     rcases hcase with ⟨h1, h2⟩ | ⟨h1, h2⟩
                     · exact ⟨_, h2, fun q e => by cases e; exact ⟨rfl, h1⟩⟩
                     · exact ⟨_, h2, fun q e => by cases e⟩
                   obtain ⟨row, hgr, hrow⟩ := hgr
                   have hvy := ownsRow_grown ((unhide HV).alloc (.cells #[.int .u8 ((M + (k : Int)) % 256)] 5)) hgr (fun q hq e => unhide HGV q (hrow q e).2 hq)
                   have hbs : bs (List.replicate n M ++ textL M k) ++ [.int .u8 ((M + (k : Int)) % 256)] = bs (List.replicate n M ++ textL M (k + 1)) := by rw [textL_snoc, bs_append (List.replicate n M ++ textL M k)]; rfl
                   rw [hbs] at hown'
                   have hrdy := reads_grown (more := textL M (k + 1)) (unhide HRD) (fun a e => ⟨(unhide HAO a e).1, by have := (unhide HAO a e).2; simp; omega⟩) hown' hgr (fun q e => (hrow q e).1)
                   have hkxy : Keeps (fun q => (Value.slice ao n cap).ownBlock = some q) w6 wy := ((unhide HKX).alloc _).grown hgr (fun q e hq => (unhide HGQ q (hrow q e).2).elim id (fun h => by omega))
                   have hgqy : (Value.slice ao n cap).ownBlock = some g' ∨ w6.heap.size ≤ g' := by
                     rcases hcase with ⟨h1, _⟩ | ⟨h1, _⟩
                     · exact unhide HGQ g' h1
                     · right; omega
                   have hgvy : u8.ownBlock ≠ some g' := by
                     rcases hcase with ⟨h1, _⟩ | ⟨h1, _⟩
                     · exact unhide HGV g' h1
                     · intro e; have := ((unhide HV).lt g' e).2; omega
                   have htyy : ∀ q, (Value.slice ao n cap).ownBlock = some q → ∃ c, wy.heap[q]? = some (.cells c 5 (0, 0)) := fun q hq => by
                     by_cases e : q = g'
                     · subst e; exact (rowBlock hown' rfl).2
                     · obtain ⟨c, hc⟩ := unhide HTY q hq
                       refine ⟨c, ?_⟩
                       rw [hgr.block q (by have := lt_of_block hc; simp; omega) (fun e' => e (hrow q e'.symm).1), Below.heap_alloc _ _ _ (lt_of_block hc)]
                       exact hc
                   have HTYY := hide htyy
                   have HGY := hide hown'
                   have HVY := hide hvy
                   have HRY := hide hrdy
                   have HKY := hide hkxy
                   have HGQY := hide hgqy
                   have HGVY := hide hgvy
                   have HBS := hide hbs
                   have hwy : w6.heap.size ≤ wy.heap.size := hkxy.size
                   clear hown' hcase hgr hrow hvy hrdy hkxy hgqy hgvy hbs htyy)
                | (at_builtin
                   refine wpList_append_lies _ rfl _ _ _ rfl w6.heap.size 5 i0 _ 1 1 Try.underlying32 hi hz0 hz1 hz2 rfl (by omega) u8 (n + k) (bs (List.replicate n M ++ textL M k)) rfl ((unhide HVY).alloc _) ⟨wy.heap.size, 0, none⟩ 1 1 [.int .u8 ((M + (k : Int)) % 256)] rfl rfl (World.news_of_block (cs := #[.int .u8 ((M + (k : Int)) % 256)]) (t := 5) (fr := (0, 0)) (heap_alloc_new wy _)) (by simp [Value.oneCell']) (by omega) (by unfold maxLen; omega) (by omega) (by simp; omega) (wy.heap.size + 1) (by simp) ?_
                   intro g'' cap'' wz hown'' hgrow'' hat'' hlt''))
              go_roundw
              case rel =>
                have hz : Keeps (fun q => u8.ownBlock = some q) wy wz := ((Keeps.refl _ wy).alloc _).grown hgrow'' (fun q e _ => e)
                refine ⟨k + 1, by omega, by go_num, ownsRow_kept (unhide HGY) hz (fun q hq e => ?_), by rw [← unhide HBS]; exact hown'', fun q hq => by cases hq; exact unhide HGQY, fun q hq e => ?_, (unhide HRY).keepL (F := fun q => (Value.slice ao n cap).ownBlock = some q) (fun b off m c e _ => by rw [e]; rfl) hz (fun q hq => ?_), fun q hq => ?_, ((unhide HKY).alloc _).grown hgrow'' (fun q e hq => by have := ((unhide HVY).lt q e).1; omega)⟩
                · cases hq; exact unhide HGVY e
                · cases hq
                  simp [Value.ownBlock] at e
                  rcases hat'' with h | h
                  · exact unhide HGVY (e ▸ h)
                  · omega
                · have := unhide HLR q hq
                  refine ⟨by omega, fun e => ?_⟩
                  have := ((unhide HVY).lt q e).1
                  omega
                · obtain ⟨c, hc⟩ := unhide HTYY q hq
                  refine ⟨c, (hz.block q (lt_of_block hc) (fun e => ?_)).trans hc⟩
                  have := unhide HLR q hq
                  have := ((unhide HVY).lt q e).1
                  omega
              case measure => simp [intOf]; omega
            · obtain rfl : k = 64 := by omega
              clear hlt hk64
              obtain ⟨o7, c7, rfl, hf7⟩ := own_form hg
              obtain ⟨o8, c8, rfl, hf8⟩ := own_form hv
              have hx6 := hkx.size
              have hDx : b.D < w6.heap.size := lt_of_block (unhide HBLK6)
              have hblkx : wr.heap[b.D]? = some (.cells #[.slice (some ⟨g1, 0, none⟩) (b.bl.length + 1) cap1, .slice (some ⟨g2, 0, none⟩) (b.vl.length + 1) cap2, b.kv, b.jv, b.wv, b.xv, .int .i64 ((b.n : Int) + 1)] 79 (0, 0)) := (hkx.block _ hDx hnD).trans (unhide HBLK6)
              have rbx := ownsRow_kept (unhide HRB6) hkx (fun q hq e => row_ne (unhide HROW6) (unhide HRB6) (by decide) e hq)
              have rvx := ownsRow_kept (unhide HRV6) hkx (fun q hq e => row_ne (unhide HROW6) (unhide HRV6) (by decide) e hq)
              have fivex := ownsRow_kept (unhide HFIVE6) hkx (fun q hq e => by have := unhide HOF q hq; have := unhide HLR q e; omega)
              have q0 := cell_of_blk hblkx 0
              have q1' := cell_of_blk hblkx 1
              simp at q0 q1'
              have fDx : ∀ j, wr.frozen? ⟨b.D, j, none⟩ = false := frozen_of_blk hblkx
              have hDltx := lt_of_block hblkx
              have hg1x : g1 < wr.heap.size := by omega
              have hg2x : g2 < wr.heap.size := by omega
              have HRBX := hide rbx
              have HRVX := hide rvx
              have HFIVEX := hide fivex
              have HBLKX := hide hblkx
              have HG := hide hg
              have HV := hide hv
              have HGQ := hide hgq
              have HRD := hide hrd
              have HTY := hide hty
              have HKX := hide hkx
              clear hg hv hgq hgv hrd hty hkx rbx rvx fivex hblkx
              go_wp2_with (first
                | (at_builtin
                   refine wpList_append_lies _ rfl _ _ _ rfl B 32 i1 _ 1 24 Try.underlying75 hi1 hy0 hy1 hy2 rfl (by omega) (.slice (some ⟨g1, 0, none⟩) (b.bl.length + 1) cap1) (b.bl.length + 1) (b.bl ++ [.slice ao n cap]) rfl ((unhide HRBX).alloc _) ⟨wr.heap.size, 0, none⟩ 1 1 [.slice o7 (n + 64) c7] rfl rfl (World.news_of_block (cs := #[.slice o7 (n + 64) c7]) (t := 32) (fr := (0, 0)) (heap_alloc_new wr _)) (by simp [Value.oneCell']) (by omega) (by unfold maxLen; omega) (by omega) (by simp; omega) (wr.heap.size + 1) (by simp) ?_
                   intro g3 cap3 w7 hrb3 hgr3 hat3 hlt3
                   have fs := field_step 0 (unhide HBLKX) (by simp [Value.ownBlock]; exact (unhide HG12).2.1) hrb3 hgr3 hat3
                   have c70 := cell_of_blk fs.1 0
                   have c71 := cell_of_blk fs.1 1
                   simp at c70 c71
                   have f7 : ∀ j, w7.frozen? ⟨b.D, j, none⟩ = false := frozen_of_blk fs.1
                   have hDlt7 := lt_of_block fs.1
                   have FS := hide fs
                   have HAT3 := hide hat3
                   have RV8 := hide (ownsRow_kept (unhide HRVX) fs.2.2.2 (fun q hq h => by
                     cases hq
                     exact h.elim (fun e => (unhide HG12).2.2.2.2 e) (fun e => (unhide HG12).1 (by simpa [Value.ownBlock] using e))))
                   have hs7 : wr.heap.size + 1 ≤ w7.heap.size := by have := hgr3.size; simp at this; omega
                   clear fs hrb3 hgr3 hat3 q0 q1')
                | (at_builtin
                   refine wpList_append_lies _ rfl _ _ _ rfl B 32 i1 _ 1 24 Try.underlying75 hi1 hy0 hy1 hy2 rfl (by omega) (.slice (some ⟨g2, 0, none⟩) (b.vl.length + 1) cap2) (b.vl.length + 1) (b.vl ++ [.slice o5 n c5]) rfl ((unhide RV8).alloc _) ⟨w7.heap.size, 0, none⟩ 1 1 [.slice o8 (n + 64) c8] rfl rfl (World.news_of_block (cs := #[.slice o8 (n + 64) c8]) (t := 32) (fr := (0, 0)) (by have := heap_alloc_new (w7.setCell ⟨b.D, 0, none⟩ (.slice (some ⟨g3, 0, none⟩) (b.bl.length + 1 + 1) cap3)) (.cells #[.slice o8 (n + 64) c8] 32); simpa using this)) (by simp [Value.oneCell']) (by omega) (by unfold maxLen; omega) (by omega) (by simp; omega) (w7.heap.size + 1) (by simp) ?_
                   intro g4 cap4 w9 hrv4 hgr4 hat4 hlt4
                   have fs2 := field_step 1 (unhide FS).2.1 (by simp [Value.ownBlock]; exact (unhide HG12).2.2.2.2) hrv4 hgr4 (by simpa using hat4)
                   have c91 := cell_of_blk fs2.1 1
                   simp at c91
                   have f9 : ∀ j, w9.frozen? ⟨b.D, j, none⟩ = false := frozen_of_blk fs2.1
                   have hDlt9 := lt_of_block fs2.1
                   have FS2 := hide fs2
                   have HAT4 := hide hat4
                   have hs9 : w7.heap.size + 1 ≤ w9.heap.size := by have := hgr4.size; simp at this; omega
                   clear fs2 hrv4 hgr4 hat4))
              go_end0
              obtain ⟨w8, hw8⟩ : ∃ w8, w8 = w7.setCell ⟨b.D, 0, none⟩ (.slice (some ⟨g3, 0, none⟩) (b.bl.length + 1 + 1) cap3) := ⟨_, rfl⟩
              obtain ⟨w10, hw10⟩ : ∃ w10, w10 = w9.setCell ⟨b.D, 1, none⟩ (.slice (some ⟨g4, 0, none⟩) (b.vl.length + 1 + 1) cap4) := ⟨_, rfl⟩
              rw [← hw8] at FS FS2
              rw [← hw10] at FS2
              rw [← hw10]
              have hb := unhide HB
              obtain ⟨n12, n1D, at1, at2, n2D⟩ := unhide HG12
              have ka := (unhide FS).2.2.2
              have kb := (unhide FS2).2.2.2
              simp only [Value.ownBlock, Option.some.injEq] at ka kb
              have hsx := (unhide HKX).size
              have hsz : w.heap.size ≤ wr.heap.size := by omega
              have KW : Keeps (fun k => (k = b.D ∨ b.bv.ownBlock = some k ∨ b.vv.ownBlock = some k) ∨ (Value.slice ao n cap).ownBlock = some k) w w10 := by
                refine (((unhide HK6).next (unhide HKX) (fun q _ h => Or.inr h)).next ka ?_).next kb ?_
                · rintro q hq (h | h)
                  · exact Or.inl (Or.inl h)
                  · subst h; exact at1.elim (fun h => Or.inl (Or.inr (Or.inl h))) (fun h => by omega)
                · rintro q hq (h | h)
                  · exact Or.inl (Or.inl h)
                  · subst h; exact at2.elim (fun h => Or.inl (Or.inr (Or.inr h))) (fun h => by omega)
              have kab : Keeps (fun k => k = b.D ∨ g1 = k ∨ g2 = k) wr w10 := (ka.mono (fun q _ h => h.imp id Or.inl)).trans (kb.mono (fun q _ h => h.imp id Or.inr))
              have n5 : ∀ {q : Nat} {c : Array Value}, wr.heap[q]? = some (.cells c 5 (0, 0)) → ¬ (q = b.D ∨ g1 = q ∨ g2 = q) := by
                rintro q c h (rfl | rfl | rfl)
                · exact type_ne h (unhide HBLKX) (by decide) rfl
                · obtain ⟨_, c', h'⟩ := rowBlock (unhide HRBX) rfl; exact type_ne h h' (by decide) rfl
                · obtain ⟨_, c', h'⟩ := rowBlock (unhide HRVX) rfl; exact type_ne h h' (by decide) rfl
              have rowK : ∀ {v m xs B'}, wr.ownsRow B' 5 1 v m xs → w10.ownsRow B' 5 1 v m xs := fun h => ownsRow_kept h kab (fun q hq => by obtain ⟨_, c, h'⟩ := rowBlock h hq; exact n5 h')
              have at3 : g3 = g1 ∨ wr.heap.size < g3 := (unhide HAT3).imp (fun h => by simp [Value.ownBlock] at h; exact h.symm) (fun h => by omega)
              have at4 : g4 = g2 ∨ w7.heap.size < g4 := (unhide HAT4).imp (fun h => by simp [Value.ownBlock] at h; exact h.symm) (fun h => by omega)
              have n34 : g3 ≠ g4 := by
                rcases at3 with h | h <;> rcases at4 with h' | h' <;> omega
              have n3D : g3 ≠ b.D := by rcases at3 with h | h <;> omega
              have rb10 : w10.ownsRow B 32 1 (.slice (some ⟨g3, 0, none⟩) (b.bl.length + 1 + 1) cap3) (b.bl.length + 1 + 1) (b.bl ++ [.slice ao n cap] ++ [.slice o7 (n + 64) c7]) := ownsRow_kept (unhide FS).2.2.1 kb (fun q hq h => by
                cases hq
                rcases h with h | h
                · exact n3D h
                · have h2 : g2 = g3 := h
                  rcases at3 with h' | h' <;> omega)
              have rv10 := (unhide FS2).2.2.1
              have r7 := rowK (unhide HG)
              have r8 := rowK (unhide HV)
              have r5 := rowK (unhide HFIVEX)
              have hty := unhide HTY
              have hl2 : (List.replicate n M ++ textL M 64).length = n + 64 := by simp [textL]
              refine ⟨_, rfl, _, hb.put2 (P := fun k => (Value.slice ao n cap).ownBlock = some k) KW hout (p1 := .slice ao n cap) (p2 := .slice o7 (n + 64) c7) (q1 := .slice o5 n c5) (q2 := .slice o8 (n + 64) c8) (l1 := List.replicate n M) (l2 := List.replicate n M ++ textL M 64) (bv' := .slice (some ⟨g3, 0, none⟩) (b.bl.length + 1 + 1) cap3) (vv' := .slice (some ⟨g4, 0, none⟩) (b.vl.length + 1 + 1) cap4) (unhide FS2).2.1 (by simpa using rb10) (by simpa using rv10) ?_
                (fun k => (Value.slice ao n cap).ownBlock = some k ∨ (Value.slice o5 n c5).ownBlock = some k ∨ (Value.slice o7 (n + 64) c7).ownBlock = some k ∨ (Value.slice o8 (n + 64) c8).ownBlock = some k) ?_
                ((unhide HRD).keepL (F := fun q => (Value.slice ao n cap).ownBlock = some q) (fun b off m c e _ => by rw [e]; rfl) kab (fun q hq => by obtain ⟨c, h⟩ := hty q hq; exact ⟨lt_of_block h, n5 h⟩))
                (row_reads r5).1 (row_reads r7).1 (row_reads r8).1 (by simp; omega) (by rw [hl2]; omega) ?_ ?_ ?_ ?_, rfl, rfl, rfl, KW.mono (fun k _ h => h.elim (fun h => Or.inl (h.elim Or.inl (fun h => h.elim (fun h => Or.inr (Or.inl h)) (fun h => Or.inr (Or.inr (Or.inl h)))))) Or.inr), ?_⟩
              · intro k h1 h2
                simp [Value.ownBlock] at h1 h2
                omega
              · rintro k (h | h | h | h)
                · obtain ⟨c, h'⟩ := hty k h
                  exact ⟨((unhide HR).lt k h).1, c, (kab.block k (lt_of_block h') (n5 h')).trans h'⟩
                · obtain ⟨h1, h2⟩ := rowBlock r5 h; exact ⟨by omega, h2⟩
                · exact rowBlock r7 h
                · obtain ⟨h1, h2⟩ := rowBlock r8 h; exact ⟨by omega, h2⟩
              · exact fun b off m c e _ => Or.inl (by rw [e]; rfl)
              · exact fun b off m c e _ => Or.inr (Or.inl (by rw [e]; rfl))
              · exact fun b off m c e _ => Or.inr (Or.inr (Or.inl (by rw [e]; rfl)))
              · exact fun b off m c e _ => Or.inr (Or.inr (Or.inr (by rw [e]; rfl)))
              · rintro k ((h | h | h | h | h | h | h) | h | h | h | h | h)
                · exact Or.inl (Or.inl (Or.inl h))
                · simp [Value.ownBlock] at h
                  rcases at3 with h' | h'
                  · rcases at1 with h1 | h1
                    · exact Or.inl (Or.inl (Or.inr (Or.inl (by rw [← h, h']; exact h1))))
                    · exact Or.inr (Or.inr (by omega))
                  · exact Or.inr (Or.inr (by omega))
                · simp [Value.ownBlock] at h
                  rcases at4 with h' | h'
                  · rcases at2 with h1 | h1
                    · exact Or.inl (Or.inl (Or.inr (Or.inr (Or.inl (by rw [← h, h']; exact h1)))))
                    · exact Or.inr (Or.inr (by omega))
                  · exact Or.inr (Or.inr (by omega))
                · exact Or.inl (Or.inl (Or.inr (Or.inr (Or.inr (Or.inl h)))))
                · exact Or.inl (Or.inl (Or.inr (Or.inr (Or.inr (Or.inr (Or.inl h))))))
                · exact Or.inl (Or.inl (Or.inr (Or.inr (Or.inr (Or.inr (Or.inr (Or.inl h)))))))
                · exact Or.inl (Or.inl (Or.inr (Or.inr (Or.inr (Or.inr (Or.inr (Or.inr h)))))))
                · exact Or.inl (Or.inr h)
                · exact Or.inr (Or.inl h)
                · exact Or.inr (Or.inr (by have := unhide HOF k h; omega))
                · exact (unhide HGQ k h).elim (fun h => Or.inr (Or.inl h)) (fun h => Or.inr (Or.inr (by omega)))
                · exact Or.inr (Or.inr (by have := (r8.lt k h).1; omega))
end Go.Proofs.Ytjmbcelkhiopeaa
