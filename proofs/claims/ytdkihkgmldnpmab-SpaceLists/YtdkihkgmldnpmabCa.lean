import Derived.Test.YtdkihkgmldnpmabBj
namespace Go.Proofs.Ytdkihkgmldnpmab
open Go.RowKit Go.Maps

/-- Lists that lie each in a row of its own. -/
structure Side (w : World) (B : Nat) (e : TypeId) (f : List Int → List Value) (ll : List Value) (cl : Nat → List Int) : Prop where
  row : ∀ (i : Nat) (p : Value), ll[i]? = some p → w.ownsRow B e 1 p (cl i).length (f (cl i))
  sm : ∀ (i : Nat) (p : Value), ll[i]? = some p → (cl i).length ≤ 2048
  ap : ∀ (i j : Nat) (p q : Value), i ≠ j → ll[i]? = some p → ll[j]? = some q → ∀ x, p.ownBlock = some x → q.ownBlock ≠ some x

def inL (ll : List Value) (x : Nat) : Prop := ∃ (i : Nat) (p : Value), ll[i]? = some p ∧ p.ownBlock = some x

section
variable {w w' : World} {B : Nat} {e : TypeId} {f : List Int → List Value} {ll : List Value} {cl cl' : Nat → List Int}
theorem Side.at (h : Side w B e f ll cl) {x : Nat} (hx : inL ll x) : B ≤ x ∧ ∃ c, w.heap[x]? = some (.cells c e (0, 0)) := by
  obtain ⟨i, p, hp, ho⟩ := hx
  exact rowBlock (h.row i p hp) ho
theorem Side.keep (h : Side w B e f ll cl) {G : Nat → Prop} (hk : Keeps G w w') (hG : ∀ x, inL ll x → ¬ G x) : Side w' B e f ll cl :=
  ⟨fun i p hp => ownsRow_kept (h.row i p hp) hk (fun x hx => hG x ⟨i, p, hp, hx⟩), h.sm, h.ap⟩
/-- One cell of one list is written. -/
theorem Side.set (h : Side w B e f ll cl) {i g n cap j : Nat} (hp : ll[i]? = some (.slice (some ⟨g, 0, none⟩) n cap)) {u : Value} (hoth : ∀ q, q ≠ i → cl' q = cl q) (hlen : (cl' i).length = (cl i).length) (hset : f (cl' i) = (f (cl i)).set j u) :
    Side (w.setCell ⟨g, j, none⟩ u) B e f ll cl' := by
  refine ⟨fun q p hq => ?_, fun q p hq => ?_, h.ap⟩
  · by_cases hqi : q = i
    · subst hqi
      rw [hp] at hq
      cases hq
      have h1 := h.row q _ hp
      obtain ⟨ao, c2, e2, _⟩ := own_form h1
      simp at e2
      obtain ⟨_, rfl, _⟩ := e2
      rw [hlen, hset]
      exact rowSet h1 j u
    · rw [hoth q hqi]
      exact ownsRow_kept (h.row q p hq) (kD w g j u) (fun x hx e => h.ap q i p _ hqi hq hp x hx (by rw [e]; rfl))
  · by_cases hqi : q = i
    · subst hqi
      rw [hlen]; exact h.sm q p hq
    · rw [hoth q hqi]; exact h.sm q p hq
theorem Side.cong (h : Side w B e f ll cl) (hc : ∀ (q : Nat), q < ll.length → cl' q = cl q) : Side w B e f ll cl' := by
  refine ⟨fun i p hp => ?_, fun i p hp => ?_, h.ap⟩
  · rw [hc i (List.getElem?_eq_some_iff.1 hp).1]; exact h.row i p hp
  · rw [hc i (List.getElem?_eq_some_iff.1 hp).1]; exact h.sm i p hp
/-- One list more. -/
theorem Side.snoc (h : Side w B e f ll cl) {p : Value} {l : List Int} (hr : w.ownsRow B e 1 p l.length (f l)) (hl : l.length ≤ 2048) (hn : ∀ x, p.ownBlock = some x → ¬ inL ll x) :
    Side w B e f (ll ++ [p]) (fun q => if q < ll.length then cl q else l) := by
  have key : ∀ (i : Nat) (q : Value), (ll ++ [p])[i]? = some q → (i < ll.length ∧ ll[i]? = some q) ∨ (i = ll.length ∧ q = p) := by
    intro i q hq
    by_cases hi : i < ll.length
    · rw [List.getElem?_append_left hi] at hq; exact Or.inl ⟨hi, hq⟩
    · rw [List.getElem?_append_right (by omega)] at hq
      obtain ⟨j, hj⟩ : ∃ j, j = i - ll.length := ⟨_, rfl⟩
      rw [← hj] at hq
      rcases j with _ | j
      · simp at hq; exact Or.inr ⟨by omega, hq.symm⟩
      · simp at hq
  refine ⟨fun i q hq => ?_, fun i q hq => ?_, fun i j q r hij hq hr' x hx hy => ?_⟩
  · rcases key i q hq with ⟨h1, h2⟩ | ⟨h1, h2⟩
    · simp only [h1, if_true]; exact h.row i q h2
    · subst h2; rw [if_neg (by omega)]; exact hr
  · rcases key i q hq with ⟨h1, h2⟩ | ⟨h1, h2⟩
    · simp only [h1, if_true]; exact h.sm i q h2
    · rw [if_neg (by omega)]; exact hl
  · rcases key i q hq with ⟨h1, h2⟩ | ⟨h1, h2⟩ <;> rcases key j r hr' with ⟨h3, h4⟩ | ⟨h3, h4⟩
    · exact h.ap i j q r hij h2 h4 x hx hy
    · subst h4; exact hn x hy ⟨i, q, h2, hx⟩
    · subst h2; exact hn x hx ⟨j, r, h4, hy⟩
    · omega
theorem inL_snoc {p : Value} {x : Nat} (h : inL (ll ++ [p]) x) : inL ll x ∨ p.ownBlock = some x := by
  obtain ⟨i, q, hq, hx⟩ := h
  by_cases hi : i < ll.length
  · rw [List.getElem?_append_left hi] at hq; exact Or.inl ⟨i, q, hq, hx⟩
  · rw [List.getElem?_append_right (by omega)] at hq
    obtain ⟨j, hj⟩ : ∃ j, j = i - ll.length := ⟨_, rfl⟩
    rw [← hj] at hq
    rcases j with _ | j
    · simp at hq; subst hq; exact Or.inr hx
    · simp at hq
end

/-- What is kept: where it lies, its two lists of lists. -/
structure Kp where
  K : Nat
  lv : Value
  bv : Value
  ll : List Value
  bl : List Value
def Kp.own (k : Kp) (x : Nat) : Prop := x = k.K ∨ k.lv.ownBlock = some x ∨ k.bv.ownBlock = some x
def Kp.F (k : Kp) (x : Nat) : Prop := inL k.ll x ∨ inL k.bl x

structure KeptAt (w : World) (B : Nat) (k : Kp) (cl cb : Nat → List Int) : Prop where
  blk : w.heap[k.K]? = some (.cells #[k.lv, k.bv] 59 (0, 0))
  lo : B ≤ k.K
  rl : w.ownsRow B 51 1 k.lv k.ll.length k.ll
  rb : w.ownsRow B 37 1 k.bv k.bl.length k.bl
  nlb : k.bl.length = k.ll.length
  most : k.ll.length ≤ 200
  sl : Side w B 3 is k.ll cl
  sb : Side w B 5 bs k.bl cb

section
variable {w w' : World} {B : Nat} {k : Kp} {cl cb : Nat → List Int}
theorem KeptAt.own_at (h : KeptAt w B k cl cb) {x : Nat} (hx : k.own x) : B ≤ x ∧ ∃ c t, w.heap[x]? = some (.cells c t (0, 0)) ∧ (t = 59 ∨ t = 51 ∨ t = 37) := by
  rcases hx with rfl | hx | hx
  · exact ⟨h.lo, _, _, h.blk, by simp⟩
  · obtain ⟨h1, c, h2⟩ := rowBlock h.rl hx; exact ⟨h1, c, _, h2, by simp⟩
  · obtain ⟨h1, c, h2⟩ := rowBlock h.rb hx; exact ⟨h1, c, _, h2, by simp⟩
theorem KeptAt.F_at (h : KeptAt w B k cl cb) {x : Nat} (hx : k.F x) : B ≤ x ∧ ∃ c t, w.heap[x]? = some (.cells c t (0, 0)) ∧ (t = 3 ∨ t = 5) := by
  rcases hx with hx | hx
  · obtain ⟨h1, c, h2⟩ := h.sl.at hx; exact ⟨h1, c, _, h2, by simp⟩
  · obtain ⟨h1, c, h2⟩ := h.sb.at hx; exact ⟨h1, c, _, h2, by simp⟩
theorem KeptAt.F_own (h : KeptAt w B k cl cb) {x : Nat} (hx : k.F x) : ¬ k.own x := by
  intro ho
  obtain ⟨_, c, t, h1, h2⟩ := h.F_at hx
  obtain ⟨_, c', t', h1', h2'⟩ := h.own_at ho
  rw [h1] at h1'
  simp at h1'
  obtain ⟨_, e⟩ := h1'
  subst e
  rcases h2 with h2 | h2 <;> rcases h2' with h3 | h3 | h3 <;> rw [h2] at h3 <;> exact absurd h3 (by decide)
theorem KeptAt.keep (h : KeptAt w B k cl cb) {G : Nat → Prop} (hk : Keeps G w w') (hG : ∀ x, k.own x → ¬ G x) (hF : ∀ x, k.F x → ¬ G x) : KeptAt w' B k cl cb :=
  ⟨(hk.block _ (lt_of_block h.blk) (hG _ (Or.inl rfl))).trans h.blk, h.lo, ownsRow_kept h.rl hk (fun x e => hG x (Or.inr (Or.inl e))), ownsRow_kept h.rb hk (fun x e => hG x (Or.inr (Or.inr e))), h.nlb, h.most, h.sl.keep hk (fun x e => hF x (Or.inl e)), h.sb.keep hk (fun x e => hF x (Or.inr e))⟩
theorem KeptAt.keepF (h : KeptAt w B k cl cb) (hk : Keeps (fun _ => False) w w') : KeptAt w' B k cl cb := h.keep hk (fun _ _ => id) (fun _ _ => id)
end

/-- The three pairs of spaces, and what is kept. -/
structure LK (w : World) (V B : Nat) (st : Nat → Slot) (kp : Kp) (cl cb : Nat → List Int) : Prop where
  t : Trio w V B st
  k : KeptAt w B kp cl cb
  out : ∀ i x, slotOwn (st i) x → ¬ kp.F x

section
variable {w w' : World} {V B : Nat} {st st' : Nat → Slot} {k k' : Kp} {cl cb cl' cb' : Nat → List Int}
theorem LK.foot_own (h : LK w V B st k cl cb) {i : Nat} {s : SP} {T : TR} (hs : st i = some (s, T)) {x : Nat} (hf : foot s T x) : ¬ k.own x := by
  intro ho
  obtain ⟨_, c, t, h1, h2⟩ := h.k.own_at ho
  have d := h.t.duo i s T hs
  rcases hf with hf | hf
  · obtain ⟨c1, t1, p1, e1, k1⟩ := d.p.has_kind hf
    rw [h1] at e1
    simp at e1
    have e3 := e1.2.1
    rcases k1 with rfl | rfl | rfl <;> rcases h2 with rfl | rfl | rfl <;> exact absurd e3 (by decide)
  · obtain ⟨c1, t1, e1, k1⟩ := d.r.tri.has_kind (TR.has_of hf)
    rw [h1] at e1
    simp at e1
    have e3 := e1.2
    rcases k1 with rfl | rfl <;> rcases h2 with rfl | rfl | rfl <;> exact absurd e3 (by decide)
theorem LK.foot_F (h : LK w V B st k cl cb) {i : Nat} {s : SP} {T : TR} (hs : st i = some (s, T)) {x : Nat} (hf : foot s T x) : ¬ k.F x := by
  intro hF
  by_cases ho : owned s T x
  · exact h.out i x (by rw [hs]; exact ho) hF
  · obtain ⟨_, c, t, h1, h2⟩ := h.k.F_at hF
    have d := h.t.duo i s T hs
    rcases hf with hf | hf
    · have hb : ∃ c' t', w.heap[x]? = some (.cells c' t' (0, 0)) ∧ (t' = 66 ∨ t' = 63) := by
        rcases hf with rfl | rfl | rfl | rfl | rfl | rfl | rfl
        · exact ⟨_, _, d.p.blk, Or.inl rfl⟩
        · exact ⟨_, _, d.p.now.blk, Or.inr rfl⟩
        · exact ⟨_, _, d.p.mark.blk, Or.inr rfl⟩
        · exact ⟨_, _, d.p.last.blk, Or.inr rfl⟩
        · exact (ho (Or.inl (Or.inl rfl))).elim
        · exact (ho (Or.inl (Or.inr (Or.inl rfl)))).elim
        · exact (ho (Or.inl (Or.inr (Or.inr rfl)))).elim
      obtain ⟨c', t', e1, k1⟩ := hb
      rw [h1] at e1
      simp at e1
      have e3 := e1.2
      rcases k1 with rfl | rfl <;> rcases h2 with rfl | rfl <;> exact absurd e3 (by decide)
    · exact ho (Or.inr hf)
theorem LK.V_own (h : LK w V B st k cl cb) : ¬ k.own V := by
  intro ho
  obtain ⟨_, c, t, h1, h2⟩ := h.k.own_at ho
  rw [h.t.blk] at h1
  simp at h1
  have e3 := h1.2
  rcases h2 with rfl | rfl | rfl <;> exact absurd e3 (by decide)
theorem LK.V_F (h : LK w V B st k cl cb) : ¬ k.F V := by
  intro ho
  obtain ⟨_, c, t, h1, h2⟩ := h.k.F_at ho
  rw [h.t.blk] at h1
  simp at h1
  have e3 := h1.2
  rcases h2 with rfl | rfl <;> exact absurd e3 (by decide)
theorem LK.slot_own (h : LK w V B st k cl cb) {i x : Nat} (hs : slotOwn (st i) x) : ¬ k.own x := by
  cases he : st i with
  | none => rw [he] at hs; exact hs.elim
  | some d =>
    obtain ⟨s, T⟩ := d
    rw [he] at hs
    exact h.foot_own he (owned_foot hs)
theorem LK.keep (h : LK w V B st k cl cb) (hk : Keeps (fun _ => False) w w') : LK w' V B st k cl cb := ⟨h.t.keep hk, h.k.keepF hk, h.out⟩
theorem LK.step (h : LK w V B st k cl cb) (t' : Trio w' V B st') (hk : Keeps (fun x => x = V ∨ ∃ i, slotOwn (st i) x) w w') (hg : Grows w st st') : LK w' V B st' k cl cb := by
  refine ⟨t', h.k.keep hk ?_ ?_, ?_⟩
  · rintro x ha (rfl | ⟨i, hs⟩)
    · exact h.V_own ha
    · exact h.slot_own hs ha
  · rintro x ha (rfl | ⟨i, hs⟩)
    · exact h.V_F ha
    · exact h.out i x hs ha
  · intro i x hs hF
    rcases hg i x hs with ⟨j, hj⟩ | hle
    · exact h.out j x hj hF
    · obtain ⟨_, c, t, h1, _⟩ := h.k.F_at hF
      have := lt_of_block h1
      omega
/-- The kept lists are written, or grown: the spaces stand. -/
theorem LK.write (h : LK w V B st k cl cb) (hk : Keeps (fun x => k.own x ∨ k.F x) w w') : Trio w' V B st := by
  refine ⟨?_, ?_, h.t.apart, h.t.lo⟩
  · rw [hk.block V (lt_of_block h.t.blk) (fun e => e.elim h.V_own h.V_F)]; exact h.t.blk
  · intro i s T hs
    exact (h.t.duo i s T hs).keep hk (fun x hf e => e.elim (h.foot_own hs hf) (h.foot_F hs hf))
/-- More is kept, out of new memory. -/
theorem LK.more (h : LK w V B st k cl cb) (k1 : KeptAt w' B k' cl' cb') (hk : Keeps (fun x => k.own x) w w') (hF : ∀ x, k'.F x → k.F x ∨ w.heap.size ≤ x) : LK w' V B st k' cl' cb' := by
  refine ⟨h.write (hk.mono (fun _ _ e => Or.inl e)), k1, ?_⟩
  intro i x hs hx
  rcases hF x hx with h1 | h1
  · exact h.out i x hs h1
  · have := (h.t.own_lo hs).2
    omega
end

/-- The questions to the program's space alone, with the rows that they hand out. -/
theorem p_used {w : World} {V B : Nat} {st : Nat → Slot} (t : Trio w V B st) (i : Nat) : ∃ l : List Int, l.length ≤ 2048 ∧ Calls Try.prog 14 #[slotP (st i)] w fun e w1 => ∃ ao cap, e = .returned (.slice ao l.length cap) ∧ w1.ownsRow w.heap.size 3 1 (.slice ao l.length cap) l.length (is l) ∧ Keeps (fun _ => False) w w1 := by
  cases hs : st i with
  | none =>
    refine ⟨[], by simp, (used_nil w).mono ?_⟩
    rintro e w1 ⟨rfl, rfl⟩
    exact ⟨_, _, rfl, by simpa [is] using World.ownsRow_nil w1 w1.heap.size 3 1, Keeps.refl _ _⟩
  | some d =>
    obtain ⟨s, T⟩ := d
    have d := t.duo i s T hs
    refine ⟨usedTo s.now s.n, by have h1 := usedTo_le s.now s.n; have h2 := d.p.n2; omega, (used_any w B s d.p).mono ?_⟩
    rintro e w1 ⟨v, rfl, h1, h2⟩
    obtain ⟨ao, cap, rfl, _⟩ := own_form h1
    exact ⟨ao, cap, rfl, h1, h2⟩
theorem p_bits {w : World} {V B : Nat} {st : Nat → Slot} (t : Trio w V B st) (i : Nat) : ∃ l : List Int, l.length ≤ 2048 ∧ Calls Try.prog 18 #[slotP (st i)] w fun e w1 => ∃ ao cap, e = .returned (.slice ao l.length cap) ∧ w1.ownsRow w.heap.size 5 1 (.slice ao l.length cap) l.length (bs l) ∧ Keeps (fun _ => False) w w1 := by
  cases hs : st i with
  | none =>
    refine ⟨[], by simp, (bitmap_nil w).mono ?_⟩
    rintro e w1 ⟨rfl, rfl⟩
    exact ⟨_, _, rfl, by simpa [bs] using World.ownsRow_nil w1 w1.heap.size 5 1, Keeps.refl _ _⟩
  | some d =>
    obtain ⟨s, T⟩ := d
    have d := t.duo i s T hs
    have hpl : (pack s.now).length = nb s.n := by rw [pack_length, d.p.now.len]; rfl
    have hn2 := d.p.n2
    refine ⟨pack s.now, by rw [pack_length, d.p.now.len]; omega, (bitmap_any w B s d.p).mono ?_⟩
    rintro e w1 ⟨rfl, rfl⟩
    have hk : Keeps (fun _ => False) w (w.alloc (.cells (bs (pack s.now)).toArray 5)) := (Keeps.refl _ _).alloc _
    refine ⟨some ⟨w.heap.size, 0, none⟩, nb s.n, by rw [hpl], ?_, hk⟩
    have := World.ownsRow_lit (base := w.heap.size) (e := 5) (size := 1) w (bs (pack s.now)).toArray (nb s.n) (Nat.le_refl _) (by unfold maxLen nb; omega) (by simp [bs_length, hpl])
    rw [hpl]
    simpa using this

/-- An append to one of the fields of a struct, and the store behind it. -/
theorem field_step2 {wr w3 : World} {D : Nat} {cs : Array Value} {B : Nat} {e t : TypeId} {bv : Value} {bl : List Value} {p : Value} {o : Obj} {g1 cap1 len : Nat} (j : Nat) (hD : wr.heap[D]? = some (.cells cs t (0, 0))) (ne : bv.ownBlock ≠ some D)
    (hrb1 : w3.ownsRow B e 1 (.slice (some ⟨g1, 0, none⟩) len cap1) len (bl ++ [p])) (hgr : (wr.alloc o).grownBy w3 bv.ownBlock) (hat : bv.ownBlock = some g1 ∨ g1 = wr.heap.size + 1) :
    w3.heap[D]? = some (.cells cs t (0, 0)) ∧ (w3.setCell ⟨D, j, none⟩ (.slice (some ⟨g1, 0, none⟩) len cap1)).heap[D]? = some (.cells (cs.setIfInBounds j (.slice (some ⟨g1, 0, none⟩) len cap1)) t (0, 0)) ∧
    (w3.setCell ⟨D, j, none⟩ (.slice (some ⟨g1, 0, none⟩) len cap1)).ownsRow B e 1 (.slice (some ⟨g1, 0, none⟩) len cap1) len (bl ++ [p]) ∧ Keeps (fun k => k = D ∨ bv.ownBlock = some k) wr (w3.setCell ⟨D, j, none⟩ (.slice (some ⟨g1, 0, none⟩) len cap1)) := by
  have hlt := lt_of_block hD
  have h3 : w3.heap[D]? = some (.cells cs t (0, 0)) := by
    rw [hgr.block D (by simp; omega) (fun e => ne e.symm), Below.heap_alloc _ _ _ hlt]; exact hD
  have hg1D : g1 ≠ D := by
    rcases hat with h | h
    · exact fun e => ne (e ▸ h)
    · omega
  have hk3 : Keeps (fun k => k = D ∨ bv.ownBlock = some k) wr w3 := ((Keeps.refl _ wr).alloc o).grown hgr (fun k e _ => Or.inr e)
  refine ⟨h3, heap_setCell_at h3 _, ownsRow_kept hrb1 (kD w3 D j _) (fun q hq => ?_), hk3.trans ((kD w3 D j _).mono (fun _ _ e => Or.inl e))⟩
  cases hq
  exact hg1D

end Go.Proofs.Ytdkihkgmldnpmab
