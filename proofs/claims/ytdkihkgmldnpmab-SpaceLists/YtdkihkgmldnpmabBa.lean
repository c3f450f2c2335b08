import Derived.Test.YtdkihkgmldnpmabG
import Derived.Test.YtdkihkgmldnpmabP
namespace Go.Proofs.Ytdkihkgmldnpmab
open Go.RowKit Go.Maps

/-- The Book: where it lies, its four lists of lists, its number, and the blocks in which the lists that it keeps lie. -/
structure Book where
  K : Nat
  lv : Value
  wv : Value
  bv : Value
  vv : Value
  ll : List Value
  wl : List Value
  bl : List Value
  vl : List Value
  n : Nat
  F : Nat → Prop

def Book.cells (b : Book) : Array Value := #[b.lv, b.wv, b.bv, b.vv, .int .i64 b.n]
/-- The blocks that the Book's calls write. -/
def Book.own (b : Book) (k : Nat) : Prop := k = b.K ∨ b.lv.ownBlock = some k ∨ b.wv.ownBlock = some k ∨ b.bv.ownBlock = some k ∨ b.vv.ownBlock = some k
def Book.all (b : Book) (k : Nat) : Prop := b.own k ∨ b.F k

/-- A list lies in blocks of the set. -/
def Lies (F : Nat → Prop) (v : Value) (n : Nat) : Prop := ∀ b off m c, v = .slice (some ⟨b, off, none⟩) m c → 0 < n → F b

structure BookAt (w : World) (B : Nat) (b : Book) : Prop where
  blk : w.heap[b.K]? = some (.cells b.cells 35 (0, 0))
  lo : B ≤ b.K
  rl : w.ownsRow B 51 1 b.lv b.ll.length b.ll
  rw : w.ownsRow B 51 1 b.wv b.wl.length b.wl
  rb : w.ownsRow B 37 1 b.bv b.bl.length b.bl
  rv : w.ownsRow B 37 1 b.vv b.vl.length b.vl
  alw : ∀ k, b.lv.ownBlock = some k → b.wv.ownBlock ≠ some k
  abv : ∀ k, b.bv.ownBlock = some k → b.vv.ownBlock ≠ some k
  nlw : b.wl.length = b.ll.length
  nbv : b.vl.length = b.bl.length
  nl : b.ll.length ≤ 2 * b.n
  nb' : b.bl.length ≤ 2 * b.n
  F : ∀ k, b.F k → B ≤ k ∧ ∃ c t, w.heap[k]? = some (.cells c t (0, 0)) ∧ (t = 5 ∨ t = 3)
  pl : ∀ (i : Nat) p q, b.ll[i]? = some p → b.wl[i]? = some q → ∃ l : List Int, Cells w p (is l) ∧ Cells w q (is l) ∧ l.length ≤ 140737488355328 ∧ Lies b.F p l.length ∧ Lies b.F q l.length
  pb : ∀ (i : Nat) p q, b.bl[i]? = some p → b.vl[i]? = some q → ∃ l : List Int, Cells w p (bs l) ∧ Cells w q (bs l) ∧ l.length ≤ 140737488355328 ∧ Lies b.F p l.length ∧ Lies b.F q l.length

theorem Cells.keepL {w w' : World} {v : Value} {l : List Value} (h : Cells w v l) {F G : Nat → Prop} (hl : Lies F v l.length) (hk : Keeps G w w') (hF : ∀ k, F k → ¬ G k) : Cells w' v l := by
  refine ⟨h.form, fun h0 => ?_⟩
  obtain ⟨b, off, cap, e, hb, hc⟩ := h.cells h0
  exact ⟨b, off, cap, e, Nat.lt_of_lt_of_le hb hk.size, fun j x hx => (hk.cell hb (hF b (hl _ _ _ _ e h0))).trans (hc j x hx)⟩

section
variable {w w' : World} {B : Nat} {b : Book}
theorem BookAt.own_at (h : BookAt w B b) {k : Nat} (hk : b.own k) : B ≤ k ∧ ∃ c t, w.heap[k]? = some (.cells c t (0, 0)) ∧ (t = 35 ∨ t = 51 ∨ t = 37) := by
  rcases hk with rfl | hk | hk | hk | hk
  · exact ⟨h.lo, _, _, h.blk, by simp⟩
  · obtain ⟨c, h2⟩ := ownsRow_block h.rl hk; exact ⟨(h.rl.lt k hk).1, c, _, h2, by simp⟩
  · obtain ⟨c, h2⟩ := ownsRow_block h.rw hk; exact ⟨(h.rw.lt k hk).1, c, _, h2, by simp⟩
  · obtain ⟨c, h2⟩ := ownsRow_block h.rb hk; exact ⟨(h.rb.lt k hk).1, c, _, h2, by simp⟩
  · obtain ⟨c, h2⟩ := ownsRow_block h.rv hk; exact ⟨(h.rv.lt k hk).1, c, _, h2, by simp⟩
theorem BookAt.F_own (h : BookAt w B b) {k : Nat} (hk : b.F k) : ¬ b.own k := by
  intro ho
  obtain ⟨_, c, t, h1, h2⟩ := h.F k hk
  obtain ⟨_, c', t', h1', h2'⟩ := h.own_at ho
  rw [h1] at h1'
  simp at h1'
  obtain ⟨_, e⟩ := h1'
  subst e
  rcases h2 with h2 | h2 <;> rcases h2' with h3 | h3 | h3 <;> rw [h2] at h3 <;> exact absurd h3 (by decide)
theorem BookAt.all_at (h : BookAt w B b) {k : Nat} (hk : b.all k) : B ≤ k ∧ k < w.heap.size := by
  rcases hk with hk | hk
  · obtain ⟨h1, c, t, h2, _⟩ := h.own_at hk; exact ⟨h1, lt_of_block h2⟩
  · obtain ⟨h1, c, t, h2, _⟩ := h.F k hk; exact ⟨h1, lt_of_block h2⟩
theorem BookAt.keep (h : BookAt w B b) {G : Nat → Prop} (hk : Keeps G w w') (hG : ∀ k, b.all k → ¬ G k) : BookAt w' B b := by
  have hF : ∀ k, b.F k → ¬ G k := fun k h' => hG k (Or.inr h')
  have hr : ∀ {e z v n xs}, w.ownsRow B e z v n xs → (∀ k, v.ownBlock = some k → b.own k) → w'.ownsRow B e z v n xs := fun h' ho => ownsRow_kept h' hk (fun k hk' => hG k (Or.inl (ho k hk')))
  refine ⟨(hk.block _ (lt_of_block h.blk) (hG _ (Or.inl (Or.inl rfl)))).trans h.blk, h.lo, hr h.rl ?_, hr h.rw ?_, hr h.rb ?_, hr h.rv ?_, h.alw, h.abv, h.nlw, h.nbv, h.nl, h.nb', ?_, ?_, ?_⟩
  · exact fun k e => Or.inr (Or.inl e)
  · exact fun k e => Or.inr (Or.inr (Or.inl e))
  · exact fun k e => Or.inr (Or.inr (Or.inr (Or.inl e)))
  · exact fun k e => Or.inr (Or.inr (Or.inr (Or.inr e)))
  · intro k hk'
    obtain ⟨h1, c, t, h2, h3⟩ := h.F k hk'
    exact ⟨h1, c, t, (hk.block k (lt_of_block h2) (hF k hk')).trans h2, h3⟩
  · intro i p q hp hq
    obtain ⟨l, h1, h2, h3, h4, h5⟩ := h.pl i p q hp hq
    exact ⟨l, h1.keepL (by rw [is_length]; exact h4) hk hF, h2.keepL (by rw [is_length]; exact h5) hk hF, h3, h4, h5⟩
  · intro i p q hp hq
    obtain ⟨l, h1, h2, h3, h4, h5⟩ := h.pb i p q hp hq
    exact ⟨l, h1.keepL (by rw [bs_length]; exact h4) hk hF, h2.keepL (by rw [bs_length]; exact h5) hk hF, h3, h4, h5⟩
theorem BookAt.keepF (h : BookAt w B b) (hk : Keeps (fun _ => False) w w') : BookAt w' B b := h.keep hk (fun _ _ => id)
end

/-- The elements of a list of lists. -/
theorem row_at {w : World} {B e : Nat} {v : Value} {xs : List Value} (h : w.ownsRow B e 1 v xs.length xs) {j : Nat} {p : Value} (hp : xs[j]? = some p) : ∃ g cap, v = .slice (some ⟨g, 0, none⟩) xs.length cap ∧ w.cell? ⟨g, j, none⟩ = some p := by
  have hj := (List.getElem?_eq_some_iff.1 hp).1
  obtain ⟨g, cap, e1, _⟩ := h.form (by omega)
  refine ⟨g, cap, e1, ?_⟩
  rw [e1] at h
  rw [h.cellAt j (by omega)]
  exact hp

set_option maxRecDepth 100000 in
set_option maxHeartbeats 4000000 in
theorem whole_any (w : World) (B : Nat) (b : Book) (h : BookAt w B b) (hn : b.n ≤ 8589934592) :
    Calls Try.prog 6 #[.pointer (some ⟨b.K, 0, none⟩)] w fun e w' => e = .returned (.bool true) ∧ ∃ k, w' = w.drewN k := by
  have nl := h.nl
  have nb' := h.nb'
  have hlw := h.nlw
  have hbv := h.nbv
  obtain ⟨lo', lc, elv⟩ : ∃ ao cap, b.lv = .slice ao b.ll.length cap := by
    rcases h.rl.2 with ⟨hv, hz⟩ | ⟨g, cap, cur, hv, _⟩
    · exact ⟨none, 0, by rw [hv, hz]⟩
    · exact ⟨_, _, hv⟩
  obtain ⟨bo', bc, ebv⟩ : ∃ ao cap, b.bv = .slice ao b.bl.length cap := by
    rcases h.rb.2 with ⟨hv, hz⟩ | ⟨g, cap, cur, hv, _⟩
    · exact ⟨none, 0, by rw [hv, hz]⟩
    · exact ⟨_, _, hv⟩
  have c0 : w.cell? ⟨b.K, 0, none⟩ = some (.slice lo' b.ll.length lc) := by rw [cell_of_blk h.blk, ← elv]; rfl
  have c2 : w.cell? ⟨b.K, 2, none⟩ = some (.slice bo' b.bl.length bc) := by rw [cell_of_blk h.blk, ← ebv]; rfl
  have HELV := hide elv
  have HEBV := hide ebv
  have HB := hide h
  have HLW := hide hlw
  have HBV := hide hbv
  clear h elv ebv hlw hbv
  go_enter Try.func6, Try.ntmps6
  go_wp2
  go_loopw [3, 4] (fun i _ wr => ∃ k : Nat, k ≤ b.ll.length ∧ i = .int .i64 k ∧ ∃ m, wr = w.drewN m) (fun i _ _ => b.ll.length - (intOf i).toNat)
  case atStart => exact ⟨0, Nat.zero_le _, rfl, 0, rfl⟩
  case round =>
    obtain ⟨k, hk, rfl, m, rfl⟩ := hrel
    by_cases hlt : k < b.ll.length
    · obtain ⟨p, hp⟩ : ∃ p, b.ll[k]? = some p := ⟨_, List.getElem?_eq_getElem hlt⟩
      obtain ⟨q, hq⟩ : ∃ q, b.wl[k]? = some q := ⟨_, List.getElem?_eq_getElem (by have := unhide HLW; omega)⟩
      obtain ⟨l, h1, h2, h3, _, _⟩ := (unhide HB).pl k p q hp hq
      obtain ⟨g1, cp1, e1, d1⟩ := row_at (unhide HB).rl hp
      obtain ⟨g2, cp2, e2, d2⟩ := row_at (unhide HB).rw hq
      rw [unhide HELV] at e1
      simp at e1
      obtain ⟨rfl, rfl⟩ := e1
      have c1 : w.cell? ⟨b.K, 1, none⟩ = some (.slice (some ⟨g2, 0, none⟩) b.wl.length cp2) := by rw [cell_of_blk (unhide HB).blk, ← e2]; rfl
      have i1 : (k : Int) < (b.ll.length : Int) := by omega
      have i2 : (k : Int) < (b.wl.length : Int) := by have := unhide HLW; omega
      have i3 : (0 : Int) ≤ (k : Int) := by omega
      obtain ⟨po, pc, rfl⟩ := h1.form
      obtain ⟨qo, qc, rfl⟩ := h2.form
      rw [is_length] at *
      have HE := hide (fun n => eqInts_any (w.drewN n) _ _ l l (h1.drewN n) (h2.drewN n) (by unfold maxLen; omega))
      rw [decide_eq_true rfl] at HE
      clear h1 h2 hp hq e2
      go_wp2_with fail
      go_region_held3 (fun w' => w'.cell? ⟨b.K, 0, none⟩ = some (.slice (some ⟨g1, 0, none⟩) b.ll.length lc) ∧ w'.cell? ⟨b.K, 1, none⟩ = some (.slice (some ⟨g2, 0, none⟩) b.wl.length cp2) ∧ w'.cell? ⟨g1, k, none⟩ = some (.slice po l.length pc) ∧ w'.cell? ⟨g2, k, none⟩ = some (.slice qo l.length qc))
        (go_keep)
        (first
          | (go_at_call 16; refine (unhide HE _).mono ?_; rintro e wa ⟨rfl, mm, rfl⟩))
      go_wp2
      go_roundw
      case rel => exact ⟨k + 1, by omega, by go_num, m + 1 + mm, by simp⟩
      case measure => simp [intOf]; omega
    · go_wp2
      go_loopw [5, 6] (fun i _ wr => ∃ k : Nat, k ≤ b.bl.length ∧ i = .int .i64 k ∧ ∃ m, wr = w.drewN m) (fun i _ _ => b.bl.length - (intOf i).toNat)
      case atStart => exact ⟨0, Nat.zero_le _, rfl, m, rfl⟩
      case round =>
        obtain ⟨k2, hk2, rfl, m2, rfl⟩ := hrel
        by_cases hlt2 : k2 < b.bl.length
        · obtain ⟨p, hp⟩ : ∃ p, b.bl[k2]? = some p := ⟨_, List.getElem?_eq_getElem hlt2⟩
          obtain ⟨q, hq⟩ : ∃ q, b.vl[k2]? = some q := ⟨_, List.getElem?_eq_getElem (by have := unhide HBV; omega)⟩
          obtain ⟨l, h1, h2, h3, _, _⟩ := (unhide HB).pb k2 p q hp hq
          obtain ⟨g1, cp1, e1, d1⟩ := row_at (unhide HB).rb hp
          obtain ⟨g2, cp2, e2, d2⟩ := row_at (unhide HB).rv hq
          rw [unhide HEBV] at e1
          simp at e1
          obtain ⟨rfl, rfl⟩ := e1
          have c3 : w.cell? ⟨b.K, 3, none⟩ = some (.slice (some ⟨g2, 0, none⟩) b.vl.length cp2) := by rw [cell_of_blk (unhide HB).blk, ← e2]; rfl
          have i1 : (k2 : Int) < (b.bl.length : Int) := by omega
          have i2 : (k2 : Int) < (b.vl.length : Int) := by have := unhide HBV; omega
          have i3 : (0 : Int) ≤ (k2 : Int) := by omega
          obtain ⟨po, pc, rfl⟩ := h1.form
          obtain ⟨qo, qc, rfl⟩ := h2.form
          rw [bs_length] at *
          have HE := hide (fun n => eqBytes_any (w.drewN n) _ _ l l (h1.drewN n) (h2.drewN n) (by unfold maxLen; omega))
          rw [decide_eq_true rfl] at HE
          clear h1 h2 hp hq e2
          go_wp2_with fail
          go_region_held3 (fun w' => w'.cell? ⟨b.K, 2, none⟩ = some (.slice (some ⟨g1, 0, none⟩) b.bl.length bc) ∧ w'.cell? ⟨b.K, 3, none⟩ = some (.slice (some ⟨g2, 0, none⟩) b.vl.length cp2) ∧ w'.cell? ⟨g1, k2, none⟩ = some (.slice po l.length pc) ∧ w'.cell? ⟨g2, k2, none⟩ = some (.slice qo l.length qc))
            (go_keep)
            (first
              | (go_at_call 12; refine (unhide HE _).mono ?_; rintro e wa ⟨rfl, mm, rfl⟩))
          go_wp2
          go_roundw
          case rel => exact ⟨k2 + 1, by omega, by go_num, m2 + 1 + mm, by simp⟩
          case measure => simp [intOf]; omega
        · go_wp2
          go_ret
          exact ⟨rfl, _, rfl⟩

end Go.Proofs.Ytdkihkgmldnpmab
