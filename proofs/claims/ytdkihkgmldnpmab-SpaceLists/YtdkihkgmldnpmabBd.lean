import Derived.Test.YtdkihkgmldnpmabBa
import Derived.ArgAppend
import Derived.Deep.DeepAppendRoom
namespace Go.Proofs.Ytdkihkgmldnpmab
open Go.RowKit Go.Maps

/-- append onto a row of one's own: in place, or into a new block with all old blocks as they were. -/
theorem wpList_append_two {P : Program} (w : World) {ops : Array Oper} {rest : List Oper} {o : Oper} {a : Act} {Q : Exit → Act → World → Prop} (hgd : o.guard = none) (s x : Operand) (t : TypeId)
    (ho : o.op = .call { callee := .builtin .append, args := #[s, x], argTypes := #[t, t] })
    (base : Nat) (e : TypeId) (i : TypeInfo) (z : Value) (size bytes : Nat) (ht : P.underlying t = some (.slice e)) (hi : P.info? e = some i) (hz : i.zero = some z)
    (hsize : i.size = size) (hby : i.bytes = bytes) (hzs : z.cells.size = size) (hsz : 0 < size)
    (v : Value) (n : Nat) (xs : List Value) (hs : a.eval s = v) (hown : w.ownsRow base e size v n xs)
    (ad : Addr) (m c : Nat) (news : List Value) (hx : a.eval x = .slice (some ad) m c) (hl : news.length = m * size) (hnews : ∀ j u, news[j]? = some u → w.cell? (ad.add j) = some u) (h1 : ∀ u ∈ news, u.oneCell' = true)
    (hm : 0 < m) (h63 : n + m ≤ maxLen) (hbytes : (n + m) * bytes ≤ 140737488355328) (hbase : base ≤ w.heap.size) (H : Nat) (hH : w.heap.size = H)
    (h : ∀ g cap w', w'.ownsRow base e size (.slice (some ⟨g, 0, none⟩) (n + m) cap) (n + m) (xs ++ news) → ((v.ownBlock = some g ∧ w.grownBy w' (some g)) ∨ (H ≤ g ∧ w.grownBy w' none)) → g < w'.heap.size → wpList P ops Q rest (a.put o.dst (.slice (some ⟨g, 0, none⟩) (n + m) cap)) w') : wpList P ops Q (o :: rest) a w := by
  have grows : ∀ v' w', w'.ownsRow w.heap.size e size v' (n + m) (xs ++ news) → w.grownBy w' none → wpList P ops Q rest (a.put o.dst v') w' := by
    intro v' w' h2 h3
    obtain ⟨g, cap, rfl, hg, hlt⟩ := h2.form (by omega)
    refine h g cap w' ?_ (Or.inr ⟨by omega, h3⟩) hlt
    refine ⟨h2.1, ?_⟩
    rcases h2.2 with hn | ⟨g', cap', cur, hv, hg', rest'⟩
    · exact Or.inl hn
    · exact Or.inr ⟨g', cap', cur, hv, Nat.le_trans hbase hg', rest'⟩
  rcases hown.2 with ⟨rfl, rfl⟩ | ⟨g, cap, cur, rfl, hbg, hg, hnc, hcm, hcs, htake⟩
  · have hx0 : xs = [] := List.eq_nil_of_length_eq_zero (by simpa using hown.1)
    subst hx0
    exact wpList_append_grows w hgd s x t ho e i z size bytes ht hi hz hsize hby hzs hsz none 0 0 [] hs (fun _ => ⟨rfl, rfl⟩) (by simp) (fun _ h => by cases h) ad m c news hx hl hnews h1 (by omega) h63 hbytes grows
  · by_cases hroom : n + m ≤ cap
    · refine wpList_append_own_spare w hgd s x t ho base e i size ht hi hsize g n cap xs hs hown ad m c news hx hl hnews h1 hroom (fun w' h2 h3 => ?_)
      exact h g cap w' h2 (Or.inl ⟨rfl, h3⟩) (by have := h3.size; have := lt_of_block hg; omega)
    · refine wpList_append_grows w hgd s x t ho e i z size bytes ht hi hz hsize hby hzs hsz (some ⟨g, 0, none⟩) n cap xs hs (fun h => by cases h) hown.1 (fun b hb j u hu => ?_) ad m c news hx hl hnews h1 (by omega) h63 hbytes grows
      cases hb
      have hadd : (⟨g, 0, none⟩ : Addr).add j = ⟨g, j, none⟩ := by unfold Addr.add; split <;> simp_all
      rw [hadd, cell_of_row w g j cur e (0, 0) hg]
      rw [← htake] at hu
      rw [List.getElem?_take] at hu
      split at hu
      · simpa using hu
      · cases hu

/-- A row holds its cells. -/
theorem rowC {w : World} {b : Nat} {e : TypeId} {z : Nat} {g off n cap : Nat} {sp} {xs : List Value} (h : w.ownsRow b e z (.slice (some ⟨g, off, sp⟩) n cap) n xs) : off = 0 ∧ sp = none ∧ ∀ (j : Nat) (u : Value), xs[j]? = some u → w.cell? ⟨g, j, none⟩ = some u := by
  rcases h.2 with ⟨h0, _⟩ | ⟨g', cap', cur, hv, hbg, hg, hnc, hcm, hcs, htake⟩
  · cases h0
  · cases hv
    refine ⟨rfl, rfl, fun j u hu => ?_⟩
    rw [cell_of_row w g j cur e (0, 0) hg]
    rw [← htake] at hu
    rw [List.getElem?_take] at hu
    split at hu
    · simpa using hu
    · cases hu

/-- A row's cells are not frozen. -/
theorem rowFrozen {w : World} {b : Nat} {e : TypeId} {z : Nat} {g n cap : Nat} {xs : List Value} (h : w.ownsRow b e z (.slice (some ⟨g, 0, none⟩) n cap) n xs) (j : Nat) : w.frozen? ⟨g, j, none⟩ = false := by
  rcases h.2 with ⟨h0, _⟩ | ⟨g', cap', cur, hv, hbg, hg, _⟩
  · cases h0
  · cases hv
    exact frozen_of_blk hg j

/-- One element of a row of single cells is written. -/
theorem rowSet {w : World} {b : Nat} {e : TypeId} {g n cap : Nat} {xs : List Value} (h : w.ownsRow b e 1 (.slice (some ⟨g, 0, none⟩) n cap) n xs) (j : Nat) (u : Value) :
    (w.setCell ⟨g, j, none⟩ u).ownsRow b e 1 (.slice (some ⟨g, 0, none⟩) n cap) n (xs.set j u) := by
  refine ⟨by simpa using h.1, ?_⟩
  rcases h.2 with ⟨h0, _⟩ | ⟨g', cap', cur, hv, hbg, hg, hnc, hcm, hcs, htake⟩
  · cases h0
  · cases hv
    refine Or.inr ⟨g, cap, cur.setIfInBounds j u, rfl, hbg, heap_setCell_at hg u, hnc, hcm, by simpa using hcs, ?_⟩
    rw [Array.toList_setIfInBounds, List.take_set, htake]

/-- The first elements of a row. -/
theorem rowTake {w : World} {b : Nat} {e : TypeId} {z : Nat} {ao : Option Addr} {n cap : Nat} {xs : List Value} (h : w.ownsRow b e z (.slice ao n cap) n xs) (m : Nat) (hm : m ≤ n) (hn : 0 < n) : w.ownsRow b e z (.slice ao m cap) m (xs.take (m * z)) := by
  have hmn : m * z ≤ n * z := Nat.mul_le_mul_right _ hm
  refine ⟨by rw [List.length_take, h.1]; omega, ?_⟩
  rcases h.2 with ⟨h0, h1⟩ | ⟨g', cap', cur, hv, hbg, hg, hnc, hcm, hcs, htake⟩
  · omega
  · cases hv
    refine Or.inr ⟨g', cap, cur, rfl, hbg, hg, by omega, hcm, hcs, ?_⟩
    rw [← htake, List.take_take, Nat.min_eq_left hmn]

set_option maxRecDepth 100000 in
set_option maxHeartbeats 1000000 in
theorem copyInts_any (w : World) (v : Value) (l : List Int) (hR : Cells w v (is l)) (hl : l.length ≤ 17592186044416) :
    Calls Try.prog 32 #[v] w fun e w' => ∃ v', e = .returned v' ∧ w'.ownsRow w.heap.size 3 1 v' l.length (is l) ∧ Keeps (fun _ => False) w w' := by
  obtain ⟨i0, hi, hz0, hz1, hz2⟩ := info_parts Try.info3
  obtain ⟨ao, cap, rfl⟩ := hR.form
  have HR := hide hR
  have HL := hide hl
  have hl' : l.length ≤ 9223372036854775807 := by omega
  clear hR hl
  simp only [is_length] at *
  go_enter Try.func32, Try.ntmps32
  go_wp2
  go_loopw [3, 4] (fun o i wr => ∃ k : Nat, k ≤ l.length ∧ i = .int .i64 k ∧ wr.ownsRow w.heap.size 3 1 o k (is (l.take k)) ∧ Keeps (fun _ => False) w wr) (fun _ i _ => l.length - (intOf i).toNat)
  case atStart => exact ⟨0, Nat.zero_le _, rfl, by simpa [is] using World.ownsRow_nil w w.heap.size 3 1, Keeps.refl _ _⟩
  case round =>
    obtain ⟨k, hk, rfl, hown, hkeep⟩ := hrel
    have HO := hide hown
    have HK := hide hkeep
    clear hown hkeep
    by_cases hlt : k < l.length
    · obtain ⟨b, off, c, e1, hblt, hc⟩ := (unhide HR).cells (by rw [is_length]; omega)
      simp [is_length] at e1
      obtain ⟨rfl, rfl⟩ := e1
      obtain ⟨x, hx⟩ : ∃ x, l[k]? = some x := ⟨_, List.getElem?_eq_getElem hlt⟩
      have p0 := ((unhide HK).cell (o := off + k) hblt id).trans (hc k (.int .i64 x) (by rw [is_get, hx]; rfl))
      have HX := hide hx
      have i1 : (k : Int) < (l.length : Int) := by omega
      have i0' : (0 : Int) ≤ (k : Int) := by omega
      clear hc hx
      go_wp2_with (at_builtin; refine wpList_append_lies _ rfl _ _ _ rfl w.heap.size 3 i0 _ 1 8 Try.underlying51 hi hz0 hz1 hz2 rfl (by omega) u3 k (is (l.take k)) rfl ((unhide HO).alloc _) ⟨wr.heap.size, 0, none⟩ 1 1 [.int .i64 x] rfl rfl (World.news_of_block (cs := #[.int .i64 x]) (t := 3) (fr := (0, 0)) (heap_alloc_new wr _)) (by simp [Value.oneCell']) (by omega) (by unfold maxLen; omega) (by have := unhide HL; omega) (by have := (unhide HK).size; simp; omega) (wr.heap.size + 1) (by simp) ?_; intro g cap w1 hown1 hgrow hat hlt1)
      go_roundw
      case rel =>
        refine ⟨k + 1, by omega, by go_num, ?_, ((unhide HK).alloc _).grown hgrow (fun q e hq => by have := ((unhide HO).lt q e).1; omega)⟩
        rw [take_snoc _ _ _ (unhide HX)]
        simpa [is] using hown1
      case measure => simp [intOf]; omega
    · go_wp2
      go_ret
      obtain rfl : k = l.length := by omega
      refine ⟨_, rfl, ?_, unhide HK⟩
      have := unhide HO
      rwa [List.take_length] at this


theorem Try.info51 : (Try.prog.info? 51).map (fun i => (i.zero, i.size, i.bytes)) = some (some (.slice none 0 0), 1, 24) := by kernel_rfl
/-- Two more pairs among the lists. -/
theorem BookAt.putL {w w' : World} {B : Nat} {b : Book} (h : BookAt w B b) {P : Nat → Prop} (hk : Keeps (fun k => (k = b.K ∨ b.lv.ownBlock = some k ∨ b.wv.ownBlock = some k) ∨ P k) w w') (hP : ∀ k, P k → ¬ b.all k) {x' y' p1 p2 q1 q2 : Value} {l1 l2 : List Int}
    (hblk : w'.heap[b.K]? = some (.cells #[x', y', b.bv, b.vv, .int .i64 ((b.n : Int) + 1)] 35 (0, 0)))
    (r1' : w'.ownsRow B 51 1 x' (b.ll ++ [p1] ++ [p2]).length (b.ll ++ [p1] ++ [p2])) (r2' : w'.ownsRow B 51 1 y' (b.wl ++ [q1] ++ [q2]).length (b.wl ++ [q1] ++ [q2])) (ab : ∀ k, x'.ownBlock = some k → y'.ownBlock ≠ some k)
    (F' : Nat → Prop) (hF' : ∀ k, F' k → B ≤ k ∧ ∃ c, w'.heap[k]? = some (.cells c 3 (0, 0)))
    (r1 : Cells w' p1 (is l1)) (s1 : Cells w' q1 (is l1)) (r2 : Cells w' p2 (is l2)) (s2 : Cells w' q2 (is l2)) (b1 : l1.length ≤ 140737488355328) (b2 : l2.length ≤ 140737488355328)
    (y1 : Lies F' p1 l1.length) (y2 : Lies F' q1 l1.length) (y3 : Lies F' p2 l2.length) (y4 : Lies F' q2 l2.length) :
    BookAt w' B { b with lv := x', wv := y', ll := b.ll ++ [p1] ++ [p2], wl := b.wl ++ [q1] ++ [q2], n := b.n + 1, F := fun k => b.F k ∨ F' k } := by
  have hK : ∀ {e z v n xs}, w.ownsRow B e z v n xs → e ≠ 35 → v.ownBlock ≠ some b.K := fun h' hne hk' => by
    obtain ⟨c, h1⟩ := ownsRow_block h' hk'
    exact blk_ne h1 h.blk hne rfl
  have keepR : ∀ {z v n xs}, w.ownsRow B 37 z v n xs → (∀ k, v.ownBlock = some k → b.own k) → w'.ownsRow B 37 z v n xs := fun h' ho => ownsRow_kept h' hk (fun k hk' hf => by
    rcases hf with (rfl | hf | hf) | hf
    · exact hK h' (by decide) hk'
    · obtain ⟨c, h1⟩ := ownsRow_block h' hk'
      obtain ⟨c', h2⟩ := ownsRow_block h.rl hf
      exact blk_ne h1 h2 (by decide) rfl
    · obtain ⟨c, h1⟩ := ownsRow_block h' hk'
      obtain ⟨c', h2⟩ := ownsRow_block h.rw hf
      exact blk_ne h1 h2 (by decide) rfl
    · exact hP k hf (Or.inl (ho k hk')))
  have hF : ∀ k, b.F k → ¬ ((k = b.K ∨ b.lv.ownBlock = some k ∨ b.wv.ownBlock = some k) ∨ P k) := fun k hk' => by
    rintro (hf | hf)
    · exact h.F_own hk' (hf.elim Or.inl (fun hf => hf.elim (fun hf => Or.inr (Or.inl hf)) (fun hf => Or.inr (Or.inr (Or.inl hf)))))
    · exact hP k hf (Or.inr hk')
  have lies1 : ∀ {v n}, Lies b.F v n → Lies (fun k => b.F k ∨ F' k) v n := fun h' b off m c e h0 => Or.inl (h' b off m c e h0)
  have lies2 : ∀ {v n}, Lies F' v n → Lies (fun k => b.F k ∨ F' k) v n := fun h' b off m c e h0 => Or.inr (h' b off m c e h0)
  have hl := h.nlw
  have hnl := h.nl
  have hnb := h.nb'
  have hFF : ∀ k, (b.F k ∨ F' k) → B ≤ k ∧ ∃ c t, w'.heap[k]? = some (.cells c t (0, 0)) ∧ (t = 5 ∨ t = 3) := by
    rintro k (hk' | hk')
    · obtain ⟨h1, c, t, h2, h3⟩ := h.F k hk'
      exact ⟨h1, c, t, (hk.block k (lt_of_block h2) (hF k hk')).trans h2, h3⟩
    · obtain ⟨h1, c, h2⟩ := hF' k hk'
      exact ⟨h1, c, 3, h2, by simp⟩
  have hpair : ∀ (i : Nat) p q, (b.ll ++ [p1] ++ [p2])[i]? = some p → (b.wl ++ [q1] ++ [q2])[i]? = some q → ∃ l : List Int, Cells w' p (is l) ∧ Cells w' q (is l) ∧ l.length ≤ 140737488355328 ∧ Lies (fun k => b.F k ∨ F' k) p l.length ∧ Lies (fun k => b.F k ∨ F' k) q l.length := by
    intro i p q hp hq
    rw [List.append_assoc] at hp hq
    by_cases hi : i < b.ll.length
    · rw [List.getElem?_append_left hi] at hp
      rw [List.getElem?_append_left (by omega)] at hq
      obtain ⟨l, h1, h2, h3, h4, h5⟩ := h.pl i p q hp hq
      exact ⟨l, h1.keepL (by rw [is_length]; exact h4) hk hF, h2.keepL (by rw [is_length]; exact h5) hk hF, h3, lies1 h4, lies1 h5⟩
    · rw [List.getElem?_append_right (by omega)] at hp
      rw [List.getElem?_append_right (by omega), hl] at hq
      obtain ⟨j, hj⟩ : ∃ j, j = i - b.ll.length := ⟨_, rfl⟩
      rw [← hj] at hp hq
      rcases j with _ | _ | j
      · simp at hp hq; subst hp hq
        exact ⟨l1, r1, s1, b1, lies2 y1, lies2 y2⟩
      · simp at hp hq; subst hp hq
        exact ⟨l2, r2, s2, b2, lies2 y3, lies2 y4⟩
      · simp at hp
  have hother : ∀ (i : Nat) p q, b.bl[i]? = some p → b.vl[i]? = some q → ∃ l : List Int, Cells w' p (bs l) ∧ Cells w' q (bs l) ∧ l.length ≤ 140737488355328 ∧ Lies (fun k => b.F k ∨ F' k) p l.length ∧ Lies (fun k => b.F k ∨ F' k) q l.length := by
    intro i p q hp hq
    obtain ⟨l, h1, h2, h3, h4, h5⟩ := h.pb i p q hp hq
    exact ⟨l, h1.keepL (by rw [bs_length]; exact h4) hk hF, h2.keepL (by rw [bs_length]; exact h5) hk hF, h3, lies1 h4, lies1 h5⟩
  have hcells : w'.heap[b.K]? = some (.cells (Book.cells { b with lv := x', wv := y', ll := b.ll ++ [p1] ++ [p2], wl := b.wl ++ [q1] ++ [q2], n := b.n + 1, F := fun k => b.F k ∨ F' k }) 35 (0, 0)) := by rw [hblk]; simp [Book.cells]
  exact ⟨hcells, h.lo, r1', r2', keepR h.rb (fun k e => Or.inr (Or.inr (Or.inr (Or.inl e)))), keepR h.rv (fun k e => Or.inr (Or.inr (Or.inr (Or.inr e)))), ab, h.abv, by simp; omega, h.nbv, by simp; omega, by show b.bl.length ≤ 2 * (b.n + 1); omega, hFF, hpair, hother⟩

theorem Try.info37 : (Try.prog.info? 37).map (fun i => (i.zero, i.size, i.bytes)) = some (some (.slice none 0 0), 1, 24) := by kernel_rfl
/-- Two more pairs among the lists. -/
theorem BookAt.putB {w w' : World} {B : Nat} {b : Book} (h : BookAt w B b) {P : Nat → Prop} (hk : Keeps (fun k => (k = b.K ∨ b.bv.ownBlock = some k ∨ b.vv.ownBlock = some k) ∨ P k) w w') (hP : ∀ k, P k → ¬ b.all k) {x' y' p1 p2 q1 q2 : Value} {l1 l2 : List Int}
    (hblk : w'.heap[b.K]? = some (.cells #[b.lv, b.wv, x', y', .int .i64 ((b.n : Int) + 1)] 35 (0, 0)))
    (r1' : w'.ownsRow B 37 1 x' (b.bl ++ [p1] ++ [p2]).length (b.bl ++ [p1] ++ [p2])) (r2' : w'.ownsRow B 37 1 y' (b.vl ++ [q1] ++ [q2]).length (b.vl ++ [q1] ++ [q2])) (ab : ∀ k, x'.ownBlock = some k → y'.ownBlock ≠ some k)
    (F' : Nat → Prop) (hF' : ∀ k, F' k → B ≤ k ∧ ∃ c, w'.heap[k]? = some (.cells c 5 (0, 0)))
    (r1 : Cells w' p1 (bs l1)) (s1 : Cells w' q1 (bs l1)) (r2 : Cells w' p2 (bs l2)) (s2 : Cells w' q2 (bs l2)) (b1 : l1.length ≤ 140737488355328) (b2 : l2.length ≤ 140737488355328)
    (y1 : Lies F' p1 l1.length) (y2 : Lies F' q1 l1.length) (y3 : Lies F' p2 l2.length) (y4 : Lies F' q2 l2.length) :
    BookAt w' B { b with bv := x', vv := y', bl := b.bl ++ [p1] ++ [p2], vl := b.vl ++ [q1] ++ [q2], n := b.n + 1, F := fun k => b.F k ∨ F' k } := by
  have hK : ∀ {e z v n xs}, w.ownsRow B e z v n xs → e ≠ 35 → v.ownBlock ≠ some b.K := fun h' hne hk' => by
    obtain ⟨c, h1⟩ := ownsRow_block h' hk'
    exact blk_ne h1 h.blk hne rfl
  have keepR : ∀ {z v n xs}, w.ownsRow B 51 z v n xs → (∀ k, v.ownBlock = some k → b.own k) → w'.ownsRow B 51 z v n xs := fun h' ho => ownsRow_kept h' hk (fun k hk' hf => by
    rcases hf with (rfl | hf | hf) | hf
    · exact hK h' (by decide) hk'
    · obtain ⟨c, h1⟩ := ownsRow_block h' hk'
      obtain ⟨c', h2⟩ := ownsRow_block h.rb hf
      exact blk_ne h1 h2 (by decide) rfl
    · obtain ⟨c, h1⟩ := ownsRow_block h' hk'
      obtain ⟨c', h2⟩ := ownsRow_block h.rv hf
      exact blk_ne h1 h2 (by decide) rfl
    · exact hP k hf (Or.inl (ho k hk')))
  have hF : ∀ k, b.F k → ¬ ((k = b.K ∨ b.bv.ownBlock = some k ∨ b.vv.ownBlock = some k) ∨ P k) := fun k hk' => by
    rintro (hf | hf)
    · exact h.F_own hk' (hf.elim Or.inl (fun hf => hf.elim (fun hf => Or.inr (Or.inr (Or.inr (Or.inl hf)))) (fun hf => Or.inr (Or.inr (Or.inr (Or.inr hf))))))
    · exact hP k hf (Or.inr hk')
  have lies1 : ∀ {v n}, Lies b.F v n → Lies (fun k => b.F k ∨ F' k) v n := fun h' b off m c e h0 => Or.inl (h' b off m c e h0)
  have lies2 : ∀ {v n}, Lies F' v n → Lies (fun k => b.F k ∨ F' k) v n := fun h' b off m c e h0 => Or.inr (h' b off m c e h0)
  have hl := h.nbv
  have hnl := h.nl
  have hnb := h.nb'
  have hFF : ∀ k, (b.F k ∨ F' k) → B ≤ k ∧ ∃ c t, w'.heap[k]? = some (.cells c t (0, 0)) ∧ (t = 5 ∨ t = 3) := by
    rintro k (hk' | hk')
    · obtain ⟨h1, c, t, h2, h3⟩ := h.F k hk'
      exact ⟨h1, c, t, (hk.block k (lt_of_block h2) (hF k hk')).trans h2, h3⟩
    · obtain ⟨h1, c, h2⟩ := hF' k hk'
      exact ⟨h1, c, 5, h2, by simp⟩
  have hpair : ∀ (i : Nat) p q, (b.bl ++ [p1] ++ [p2])[i]? = some p → (b.vl ++ [q1] ++ [q2])[i]? = some q → ∃ l : List Int, Cells w' p (bs l) ∧ Cells w' q (bs l) ∧ l.length ≤ 140737488355328 ∧ Lies (fun k => b.F k ∨ F' k) p l.length ∧ Lies (fun k => b.F k ∨ F' k) q l.length := by
    intro i p q hp hq
    rw [List.append_assoc] at hp hq
    by_cases hi : i < b.bl.length
    · rw [List.getElem?_append_left hi] at hp
      rw [List.getElem?_append_left (by omega)] at hq
      obtain ⟨l, h1, h2, h3, h4, h5⟩ := h.pb i p q hp hq
      exact ⟨l, h1.keepL (by rw [bs_length]; exact h4) hk hF, h2.keepL (by rw [bs_length]; exact h5) hk hF, h3, lies1 h4, lies1 h5⟩
    · rw [List.getElem?_append_right (by omega)] at hp
      rw [List.getElem?_append_right (by omega), hl] at hq
      obtain ⟨j, hj⟩ : ∃ j, j = i - b.bl.length := ⟨_, rfl⟩
      rw [← hj] at hp hq
      rcases j with _ | _ | j
      · simp at hp hq; subst hp hq
        exact ⟨l1, r1, s1, b1, lies2 y1, lies2 y2⟩
      · simp at hp hq; subst hp hq
        exact ⟨l2, r2, s2, b2, lies2 y3, lies2 y4⟩
      · simp at hp
  have hother : ∀ (i : Nat) p q, b.ll[i]? = some p → b.wl[i]? = some q → ∃ l : List Int, Cells w' p (is l) ∧ Cells w' q (is l) ∧ l.length ≤ 140737488355328 ∧ Lies (fun k => b.F k ∨ F' k) p l.length ∧ Lies (fun k => b.F k ∨ F' k) q l.length := by
    intro i p q hp hq
    obtain ⟨l, h1, h2, h3, h4, h5⟩ := h.pl i p q hp hq
    exact ⟨l, h1.keepL (by rw [is_length]; exact h4) hk hF, h2.keepL (by rw [is_length]; exact h5) hk hF, h3, lies1 h4, lies1 h5⟩
  have hcells : w'.heap[b.K]? = some (.cells (Book.cells { b with bv := x', vv := y', bl := b.bl ++ [p1] ++ [p2], vl := b.vl ++ [q1] ++ [q2], n := b.n + 1, F := fun k => b.F k ∨ F' k }) 35 (0, 0)) := by rw [hblk]; simp [Book.cells]
  exact ⟨hcells, h.lo, keepR h.rl (fun k e => Or.inr (Or.inl e)), keepR h.rw (fun k e => Or.inr (Or.inr (Or.inl e))), r1', r2', h.alw, ab, h.nlw, by simp; omega, by show b.ll.length ≤ 2 * (b.n + 1); omega, by simp; omega, hFF, hother, hpair⟩

end Go.Proofs.Ytdkihkgmldnpmab
