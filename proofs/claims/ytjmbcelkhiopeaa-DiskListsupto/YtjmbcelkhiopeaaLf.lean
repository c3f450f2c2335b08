import Derived.Test.YtjmbcelkhiopeaaLc
import Derived.Test.YtjmbcelkhiopeaaRi
import Derived.Test.YtjmbcelkhiopeaaT
namespace Go.Proofs.Ytjmbcelkhiopeaa
open Go.RowKit Go.Maps

/-- One more pair among the lists of bools. -/
theorem BookAt.putK {w w' : World} {B : Nat} {b : Bk} (h : BookAt w B b) {P : Nat → Prop} (hk : Keeps (fun k => (k = b.D ∨ b.kv.ownBlock = some k ∨ b.jv.ownBlock = some k) ∨ P k) w w') (hP : ∀ k, P k → ¬ b.all k) {bv' vv' p1 q1 : Value} {l1 : List Bool}
    (hblk : w'.heap[b.D]? = some (.cells #[b.bv, b.vv, bv', vv', b.wv, b.xv, .int .i64 b.n] 79 (0, 0)))
    (rb : w'.ownsRow B 51 1 bv' (b.kl ++ [p1]).length (b.kl ++ [p1])) (rv : w'.ownsRow B 51 1 vv' (b.jl ++ [q1]).length (b.jl ++ [q1])) (ab : ∀ k, bv'.ownBlock = some k → vv'.ownBlock ≠ some k)
    (F' : Nat → Prop) (hF' : ∀ k, F' k → B ≤ k ∧ ∃ c, w'.heap[k]? = some (.cells c 4 (0, 0)))
    (r1 : Bools w' p1 l1) (s1 : Bools w' q1 l1) (b1 : l1.length ≤ 140737488355328)
    (y1 : Lies F' p1 l1.length) (y2 : Lies F' q1 l1.length) :
    BookAt w' B { b with kv := bv', jv := vv', kl := b.kl ++ [p1], jl := b.jl ++ [q1], F := fun k => b.F k ∨ F' k } := by
  have hD : ∀ {e z v n xs}, w.ownsRow B e z v n xs → e ≠ 79 → v.ownBlock ≠ some b.D := fun h' hne hk' => by
    obtain ⟨_, c, h1⟩ := rowBlock h' hk'
    exact type_ne h1 h.blk hne rfl
  have keepR : ∀ {e z v n xs}, w.ownsRow B e z v n xs → e ≠ 79 → e ≠ 51 → (∀ k, v.ownBlock = some k → b.own k) → w'.ownsRow B e z v n xs := fun h' h1 h2 ho => ownsRow_kept h' hk (fun k hk' hf => by
    rcases hf with (rfl | hf | hf) | hf
    · exact hD h' h1 hk'
    · exact row_ne h' h.rk h2 hk' hf
    · exact row_ne h' h.rj h2 hk' hf
    · exact hP k hf (Or.inl (ho k hk')))
  have hF : ∀ k, b.F k → k < w.heap.size ∧ ¬ ((k = b.D ∨ b.kv.ownBlock = some k ∨ b.jv.ownBlock = some k) ∨ P k) := fun k hk' => ⟨(h.all_at (Or.inr hk')).2, by
    rintro (hf | hf)
    · exact h.F_own hk' (hf.elim Or.inl (fun hf => hf.elim (fun hf => Or.inr (Or.inr (Or.inr (Or.inl hf)))) (fun hf => Or.inr (Or.inr (Or.inr (Or.inr (Or.inl hf)))))))
    · exact hP k hf (Or.inr hk')⟩
  have lies1 : ∀ {v n}, Lies b.F v n → Lies (fun k => b.F k ∨ F' k) v n := fun h' b off m c e h0 => Or.inl (h' b off m c e h0)
  have lies2 : ∀ {v n}, Lies F' v n → Lies (fun k => b.F k ∨ F' k) v n := fun h' b off m c e h0 => Or.inr (h' b off m c e h0)
  refine ⟨?_, h.lo, keepR h.rb (by decide) (by decide) ?_, keepR h.rv (by decide) (by decide) ?_, rb, rv, keepR h.rw (by decide) (by decide) ?_, keepR h.rx (by decide) (by decide) ?_, h.abv, ab, h.awx, h.lbv, ?_, h.lwx, h.lb, h.lw, ?_, ?_, ?_, ?_⟩
  · rw [hblk]; simp [Bk.cells]
  · exact fun k e => Or.inr (Or.inl e)
  · exact fun k e => Or.inr (Or.inr (Or.inl e))
  · exact fun k e => Or.inr (Or.inr (Or.inr (Or.inr (Or.inr (Or.inl e)))))
  · exact fun k e => Or.inr (Or.inr (Or.inr (Or.inr (Or.inr (Or.inr e)))))
  · have := h.lkj; simp; omega
  · rintro k (hk' | hk')
    · obtain ⟨h1, c, t, fr, h2, h3⟩ := h.F k hk'
      exact ⟨h1, c, t, fr, (hk.block k (hF k hk').1 (hF k hk').2).trans h2, h3⟩
    · obtain ⟨h1, c, h2⟩ := hF' k hk'
      exact ⟨h1, c, 4, (0, 0), h2, by simp⟩
  · intro i p q hp hq
    obtain ⟨l, h1, h2, h3, h4, h5⟩ := h.pb i p q hp hq
    exact ⟨l, h1.keepL h4 hk hF, h2.keepL h5 hk hF, h3, lies1 h4, lies1 h5⟩
  · intro i p q hp hq
    simp only at hp hq
    have hl := h.lkj
    by_cases hi : i < b.kl.length
    · rw [List.getElem?_append_left hi] at hp
      rw [List.getElem?_append_left (by omega)] at hq
      obtain ⟨l, h1, h2, h3, h4, h5⟩ := h.pk i p q hp hq
      exact ⟨l, h1.keepL h4 hk hF, h2.keepL h5 hk hF, h3, lies1 h4, lies1 h5⟩
    · rw [List.getElem?_append_right (by omega)] at hp
      rw [List.getElem?_append_right (by omega), hl] at hq
      obtain ⟨j, hj⟩ : ∃ j, j = i - b.kl.length := ⟨_, rfl⟩
      rw [← hj] at hp hq
      rcases j with _ | j
      · simp at hp hq; subst hp hq
        exact ⟨l1, r1, s1, b1, lies2 y1, lies2 y2⟩
      · simp at hp
  · intro i p q hp hq
    obtain ⟨n, x, h1, h2, h3, h4, h5⟩ := h.pw i p q hp hq
    exact ⟨n, x, h1.keepL h4 hk hF, h2.keepL h5 hk hF, h3, lies1 h4, lies1 h5⟩

/-- Two more pairs among the lists of writes. -/
theorem BookAt.putW {w w' : World} {B : Nat} {b : Bk} (h : BookAt w B b) {P : Nat → Prop} (hk : Keeps (fun k => (k = b.D ∨ b.wv.ownBlock = some k ∨ b.xv.ownBlock = some k) ∨ P k) w w') (hP : ∀ k, P k → ¬ b.all k) {bv' vv' p1 p2 q1 q2 : Value} {l1 l2 : Nat} {z : Int}
    (hblk : w'.heap[b.D]? = some (.cells #[b.bv, b.vv, b.kv, b.jv, bv', vv', .int .i64 ((b.n : Int) + 1)] 79 (0, 0)))
    (rb : w'.ownsRow B 41 1 bv' (b.wl ++ [p1] ++ [p2]).length (b.wl ++ [p1] ++ [p2])) (rv : w'.ownsRow B 41 1 vv' (b.xl ++ [q1] ++ [q2]).length (b.xl ++ [q1] ++ [q2])) (ab : ∀ k, bv'.ownBlock = some k → vv'.ownBlock ≠ some k)
    (F' : Nat → Prop) (hF' : ∀ k, F' k → B ≤ k ∧ ∃ c, w'.heap[k]? = some (.cells c 60 (0, 0)))
    (r1 : Marks w' p1 l1 z) (s1 : Marks w' q1 l1 z) (r2 : Marks w' p2 l2 z) (s2 : Marks w' q2 l2 z) (b1 : l1 ≤ 140737488355328) (b2 : l2 ≤ 140737488355328)
    (y1 : Lies F' p1 l1) (y2 : Lies F' q1 l1) (y3 : Lies F' p2 l2) (y4 : Lies F' q2 l2) :
    BookAt w' B { b with wv := bv', xv := vv', wl := b.wl ++ [p1] ++ [p2], xl := b.xl ++ [q1] ++ [q2], n := b.n + 1, F := fun k => b.F k ∨ F' k } := by
  have hD : ∀ {e z v n xs}, w.ownsRow B e z v n xs → e ≠ 79 → v.ownBlock ≠ some b.D := fun h' hne hk' => by
    obtain ⟨_, c, h1⟩ := rowBlock h' hk'
    exact type_ne h1 h.blk hne rfl
  have keepR : ∀ {e z v n xs}, w.ownsRow B e z v n xs → e ≠ 79 → e ≠ 41 → (∀ k, v.ownBlock = some k → b.own k) → w'.ownsRow B e z v n xs := fun h' h1 h2 ho => ownsRow_kept h' hk (fun k hk' hf => by
    rcases hf with (rfl | hf | hf) | hf
    · exact hD h' h1 hk'
    · exact row_ne h' h.rw h2 hk' hf
    · exact row_ne h' h.rx h2 hk' hf
    · exact hP k hf (Or.inl (ho k hk')))
  have hF : ∀ k, b.F k → k < w.heap.size ∧ ¬ ((k = b.D ∨ b.wv.ownBlock = some k ∨ b.xv.ownBlock = some k) ∨ P k) := fun k hk' => ⟨(h.all_at (Or.inr hk')).2, by
    rintro (hf | hf)
    · exact h.F_own hk' (hf.elim Or.inl (fun hf => hf.elim (fun hf => Or.inr (Or.inr (Or.inr (Or.inr (Or.inr (Or.inl hf)))))) (fun hf => Or.inr (Or.inr (Or.inr (Or.inr (Or.inr (Or.inr hf))))))))
    · exact hP k hf (Or.inr hk')⟩
  have lies1 : ∀ {v n}, Lies b.F v n → Lies (fun k => b.F k ∨ F' k) v n := fun h' b off m c e h0 => Or.inl (h' b off m c e h0)
  have lies2 : ∀ {v n}, Lies F' v n → Lies (fun k => b.F k ∨ F' k) v n := fun h' b off m c e h0 => Or.inr (h' b off m c e h0)
  refine ⟨?_, h.lo, keepR h.rb (by decide) (by decide) ?_, keepR h.rv (by decide) (by decide) ?_, keepR h.rk (by decide) (by decide) ?_, keepR h.rj (by decide) (by decide) ?_, rb, rv, h.abv, h.akj, ab, h.lbv, h.lkj, ?_, ?_, ?_, ?_, ?_, ?_, ?_⟩
  · rw [hblk]; simp [Bk.cells]
  · exact fun k e => Or.inr (Or.inl e)
  · exact fun k e => Or.inr (Or.inr (Or.inl e))
  · exact fun k e => Or.inr (Or.inr (Or.inr (Or.inl e)))
  · exact fun k e => Or.inr (Or.inr (Or.inr (Or.inr (Or.inl e))))
  · have := h.lwx; simp; omega
  · have := h.lb; show b.bl.length ≤ 2 * (b.n + 1); omega
  · have := h.lw; simp; omega
  · rintro k (hk' | hk')
    · obtain ⟨h1, c, t, fr, h2, h3⟩ := h.F k hk'
      exact ⟨h1, c, t, fr, (hk.block k (hF k hk').1 (hF k hk').2).trans h2, h3⟩
    · obtain ⟨h1, c, h2⟩ := hF' k hk'
      exact ⟨h1, c, 60, (0, 0), h2, by simp⟩
  · intro i p q hp hq
    obtain ⟨l, h1, h2, h3, h4, h5⟩ := h.pb i p q hp hq
    exact ⟨l, h1.keepL h4 hk hF, h2.keepL h5 hk hF, h3, lies1 h4, lies1 h5⟩
  · intro i p q hp hq
    obtain ⟨l, h1, h2, h3, h4, h5⟩ := h.pk i p q hp hq
    exact ⟨l, h1.keepL h4 hk hF, h2.keepL h5 hk hF, h3, lies1 h4, lies1 h5⟩
  · intro i p q hp hq
    simp only at hp hq
    have hl := h.lwx
    rw [List.append_assoc] at hp hq
    by_cases hi : i < b.wl.length
    · rw [List.getElem?_append_left hi] at hp
      rw [List.getElem?_append_left (by omega)] at hq
      obtain ⟨n, x, h1, h2, h3, h4, h5⟩ := h.pw i p q hp hq
      exact ⟨n, x, h1.keepL h4 hk hF, h2.keepL h5 hk hF, h3, lies1 h4, lies1 h5⟩
    · rw [List.getElem?_append_right (by omega)] at hp
      rw [List.getElem?_append_right (by omega), hl] at hq
      obtain ⟨j, hj⟩ : ∃ j, j = i - b.wl.length := ⟨_, rfl⟩
      rw [← hj] at hp hq
      rcases j with _ | _ | j
      · simp at hp hq; subst hp hq
        exact ⟨l1, z, r1, s1, b1, lies2 y1, lies2 y2⟩
      · simp at hp hq; subst hp hq
        exact ⟨l2, z, r2, s2, b2, lies2 y3, lies2 y4⟩
      · simp at hp

end Go.Proofs.Ytjmbcelkhiopeaa

namespace Go.Proofs.Ytjmbcelkhiopeaa
open Go.RowKit Go.Maps
attribute [local go_sem ↓] Go.wp_at_zero Go.wp_at_succ


theorem bls_append (a b : List Bool) : bls (a ++ b) = bls a ++ bls b := by simp [bls]

def turned (ks : List Bool) (k : Nat) : List Bool := (ks.take k).map (fun x => !x)
theorem turned_succ {ks : List Bool} {k : Nat} {x : Bool} (hx : ks[k]? = some x) : turned ks (k + 1) = turned ks k ++ [!x] := by
  simp [turned, take_snoc _ _ _ hx]
theorem turned_length {ks : List Bool} {k : Nat} (h : k ≤ ks.length) : (turned ks k).length = k := by simp [turned]; omega

theorem turn_step (ks : List Bool) (k : Nat) (x : Bool) (hx : ks[k]? = some x) : (bls (turned ks k ++ ks.drop k)).set k (.bool (!x)) = bls (turned ks (k + 1) ++ ks.drop (k + 1)) := by
  obtain ⟨hk, hx'⟩ := List.getElem?_eq_some_iff.1 hx
  have h1 : ks.drop k = ks[k] :: ks.drop (k + 1) := List.drop_eq_getElem_cons hk
  have h2 := turned_length (ks := ks) (k := k) (by omega)
  rw [h1, bls_append, bls_append, List.set_append_right _ _ (by simp [bls, h2]), turned_succ hx]
  simp only [bls, List.map_append, List.map_cons, List.map_nil, List.length_map, h2, Nat.sub_self, List.set_cons_zero, List.append_assoc, List.cons_append, List.nil_append]

set_option maxRecDepth 100000 in
set_option maxHeartbeats 8000000 in
theorem keeps_any (w : World) (B : Nat) (b : Bk) (hb : BookAt w B b) (hB : B ≤ w.heap.size) (ao : Option Addr) (n cap : Nat) (l : List Bool) (hl : l.length = n) (hrow : w.ownsRow B 4 1 (.slice ao n cap) n (bls l)) (hout : ∀ k, (Value.slice ao n cap).ownBlock = some k → ¬ b.all k)
    (hlen : n ≤ 140737488355328) (hn : b.kl.length ≤ 4294967295) :
    Calls Try.prog 51 #[.pointer (some ⟨b.D, 0, none⟩), .slice ao n cap] w fun e w' => ∃ v, e = .returned v ∧ ∃ b', BookAt w' B b' ∧ b'.D = b.D ∧ b'.n = b.n ∧ b'.kl.length = b.kl.length + 1 ∧ Keeps (fun k => b.own k ∨ (Value.slice ao n cap).ownBlock = some k) w w' ∧ (∀ k, b'.all k → b.all k ∨ (Value.slice ao n cap).ownBlock = some k ∨ w.heap.size ≤ k) := by
  obtain ⟨i0, hi, hz0, hz1, hz2⟩ := info_parts Try.info4
  obtain ⟨i1, hi1, hy0, hy1, hy2⟩ := info_parts Try.info51
  have hDlt := lt_of_block hb.blk
  have hnD : (Value.slice ao n cap).ownBlock ≠ some b.D := fun e => hout b.D e (Or.inl (Or.inl rfl))
  have HB := hide hb
  have HR := hide hrow
  clear hb hrow
  go_enter Try.func51, Try.ntmps51
  go_wp2_with fail
  go_loopw [4, 5] (fun wv i wr => ∃ (k : Nat), k ≤ n ∧ i = .int .i64 k ∧ wr.ownsRow B 4 1 (.slice ao n cap) n (bls (turned l k ++ l.drop k)) ∧ wr.ownsRow w.heap.size 4 1 wv k (bls (turned l k)) ∧ Keeps (fun q => (Value.slice ao n cap).ownBlock = some q) w wr) (fun _ i _ => n - (intOf i).toNat)
  case atStart => exact ⟨0, Nat.zero_le _, rfl, by simpa [turned] using unhide HR, by simpa [bls, turned] using World.ownsRow_nil w w.heap.size 4 1, Keeps.refl _ _⟩
  case round =>
    obtain ⟨k, hk, rfl, ho1, ho2, hkeep⟩ := hrel
    by_cases hlt : k < n
    · obtain ⟨g, cap', e1, hg1, hg2⟩ := ho1.form (by omega)
      simp at e1
      obtain ⟨rfl, rfl⟩ := e1
      have i1 : (k : Int) < (n : Int) := by omega
      have i2 : (0 : Int) ≤ (k : Int) := by omega
      obtain ⟨x, hx⟩ : ∃ x, l[k]? = some x := ⟨_, List.getElem?_eq_getElem (by omega)⟩
      have hcx : (bls (turned l k ++ l.drop k))[k]? = some (.bool x) := by
        have h2 := turned_length (ks := l) (k := k) (by omega)
        rw [bls_append, List.getElem?_append_right (by simp [bls, h2])]
        simp [bls, h2, hx]
      have cg : wr.cell? ⟨g, k, none⟩ = some (.bool x) := (row_cell ho1).2.2 k _ hcx
      have fg : wr.frozen? ⟨g, k, none⟩ = false := row_frozen ho1 k
      have hu5 : ∀ q, u4.ownBlock = some q → q ≠ g := fun q hq e => by
        have := (ho2.lt q hq).1
        have : g < w.heap.size := (((unhide HR).lt g rfl)).2
        omega
      have hs2 := row_set ho1 k (.bool (!x))
      have hx2 := turn_step l k x hx
      rw [hx2] at hs2
      have hk2 : Keeps (fun q => q = g) wr (wr.setCell ⟨g, k, none⟩ (.bool (!x))) := kD _ _ _ _
      have ho2' := ownsRow_kept ho2 hk2 (fun q hq => hu5 q hq)
      have HS2 := hide hs2
      have HO2 := hide ho2'
      have HK := hide (hkeep.trans (hk2.mono (fun q _ e => by rw [e]; rfl)))
      have hnb : ((wr.setCell ⟨g, k, none⟩ (.bool (!x))).alloc (.cells #[.bool (!x)] 4)).heap[wr.heap.size]? = some (.cells #[.bool (!x)] 4 (0, 0)) := by
        have := heap_alloc_new (wr.setCell ⟨g, k, none⟩ (.bool (!x))) (.cells #[.bool (!x)] 4)
        simpa using this
      have HNB := hide hnb
      have HX := hide hx
      clear ho1 ho2 hkeep hs2 ho2' hk2 hx2 hcx hnb hx
      go_wp2_with (at_builtin; refine wpList_append_lies _ rfl _ _ _ rfl w.heap.size 4 i0 _ 1 1 Try.underlying51 hi hz0 hz1 hz2 rfl (by omega) u4 k (bls (turned l k)) rfl ((unhide HO2).alloc _) ⟨wr.heap.size, 0, none⟩ 1 1 [.bool (!x)] rfl rfl (World.news_of_block (cs := #[.bool (!x)]) (t := 4) (fr := (0, 0)) (unhide HNB)) (by simp [Value.oneCell']) (by omega) (by unfold maxLen; omega) (by omega) (by have := (unhide HK).size; simp at this ⊢; omega) (wr.heap.size + 1) (by simp) ?_; intro g' cap'' w3 hown1 hgrow hat hlt1)
      go_roundw
      case rel =>
        refine ⟨k + 1, by omega, by go_num, ?_, ?_, ((unhide HK).alloc _).grown hgrow (fun q e hq => by have := ((unhide HO2).lt q e).1; omega)⟩
        · refine ownsRow_grown ((unhide HS2).alloc _) hgrow (fun q hq e => ?_)
          cases hq
          exact hu5 g e rfl
        · rw [turned_succ (unhide HX), bls_append]
          simpa [bls] using hown1
      case measure => simp [intOf]; omega
    · obtain rfl : n = k := by omega
      clear hlt
      have hdn : turned l n ++ l.drop n = turned l n := by rw [List.drop_of_length_le (by omega), List.append_nil]
      rw [hdn] at ho1
      obtain ⟨o5, c5, rfl, hf5⟩ := own_form ho2
      have hb := unhide HB
      have hown : ∀ q, b.own q → ¬ (Value.slice ao n cap).ownBlock = some q := fun q h1 h2 => hout q h2 (Or.inl h1)
      have hblk2 : wr.heap[b.D]? = some (.cells b.cells 79 (0, 0)) := (hkeep.block _ hDlt hnD).trans hb.blk
      have nbD : b.kv.ownBlock ≠ some b.D := fun e => by obtain ⟨c, h1⟩ := (rowBlock hb.rk e).2; rw [hb.blk] at h1; cases h1
      have nvD : b.jv.ownBlock ≠ some b.D := fun e => by obtain ⟨c, h1⟩ := (rowBlock hb.rj e).2; rw [hb.blk] at h1; cases h1
      have rb2 := ownsRow_kept hb.rk hkeep (fun q hq => hown q (Or.inr (Or.inr (Or.inr (Or.inl hq)))))
      have rv2 := ownsRow_kept hb.rj hkeep (fun q hq => hown q (Or.inr (Or.inr (Or.inr (Or.inr (Or.inl hq))))))
      have abv := hb.akj
      have lv : b.jl.length ≤ 4294967295 := by have := hb.lkj; omega
      have hsz2 := hkeep.size
      have g0 : wr.cell? ⟨b.D, 2, none⟩ = some b.kv := cell_of_blk hblk2 2
      have g1' : wr.cell? ⟨b.D, 3, none⟩ = some b.jv := cell_of_blk hblk2 3
      have fD2 : ∀ j, wr.frozen? ⟨b.D, j, none⟩ = false := frozen_of_blk hblk2
      have hDlt2 := lt_of_block hblk2
      have RB2 := hide rb2
      have RV2 := hide rv2
      have HO1 := hide ho1
      have HO2 := hide ho2
      have HKP := hide hkeep
      have HBLK2 := hide hblk2
      have HABV := hide abv
      have HNB := hide nbD
      have HNV := hide nvD
      clear hb ho1 ho2 hkeep hblk2 rb2 rv2 abv nbD nvD hdn
      go_wp2_with (first
        | (at_builtin
           refine wpList_append_lies _ rfl _ _ _ rfl B 51 i1 _ 1 24 Try.underlying76 hi1 hy0 hy1 hy2 rfl (by omega) b.kv b.kl.length b.kl rfl ((unhide RB2).alloc _) ⟨wr.heap.size, 0, none⟩ 1 1 [.slice ao n cap] rfl rfl (World.news_of_block (cs := #[.slice ao n cap]) (t := 51) (fr := (0, 0)) (heap_alloc_new wr _)) (by simp [Value.oneCell']) (by omega) (by unfold maxLen; omega) (by omega) (by simp; omega) (wr.heap.size + 1) (by simp) ?_
           intro g1 cap1 w3 hrb1 hgr1 hat1 hlt1
           have fs := field_step 2 (unhide HBLK2) (unhide HNB) hrb1 hgr1 hat1
           have c30 : w3.cell? ⟨b.D, 2, none⟩ = some b.kv := cell_of_blk fs.1 2
           have c31 : w3.cell? ⟨b.D, 3, none⟩ = some b.jv := cell_of_blk fs.1 3
           have f3 : ∀ j, w3.frozen? ⟨b.D, j, none⟩ = false := frozen_of_blk fs.1
           have hDlt3 := lt_of_block fs.1
           have FS := hide fs
           have HAT1 := hide hat1
           have RV4 := hide (ownsRow_kept (unhide RV2) fs.2.2.2 (fun q hq h => h.elim (fun e => unhide HNV (e ▸ hq)) (fun e => unhide HABV q e hq)))
           have hs3 : wr.heap.size + 1 ≤ w3.heap.size := by have := hgr1.size; simp at this; omega
           clear fs hrb1 hgr1 hat1 g0 g1')
        | (at_builtin
           refine wpList_append_lies _ rfl _ _ _ rfl B 51 i1 _ 1 24 Try.underlying76 hi1 hy0 hy1 hy2 rfl (by omega) b.jv b.jl.length b.jl rfl ((unhide RV4).alloc _) ⟨w3.heap.size, 0, none⟩ 1 1 [.slice o5 n c5] rfl rfl (World.news_of_block (cs := #[.slice o5 n c5]) (t := 51) (fr := (0, 0)) (by have := heap_alloc_new (w3.setCell ⟨b.D, 2, none⟩ (.slice (some ⟨g1, 0, none⟩) (b.kl.length + 1) cap1)) (.cells #[.slice o5 n c5] 51); simpa using this)) (by simp [Value.oneCell']) (by omega) (by unfold maxLen; omega) (by omega) (by simp; omega) (w3.heap.size + 1) (by simp) ?_
           intro g2 cap2 w5 hrv1 hgr2 hat2 hlt2
           have fs2 := field_step 3 (unhide FS).2.1 (unhide HNV) hrv1 hgr2 (by simpa using hat2)
           have c51 : w5.cell? ⟨b.D, 3, none⟩ = some b.jv := (cell_of_blk fs2.1 3).trans (by simp [Bk.cells])
           have f5 : ∀ j, w5.frozen? ⟨b.D, j, none⟩ = false := frozen_of_blk fs2.1
           have hDlt5 := lt_of_block fs2.1
           have FS2 := hide fs2
           have HAT2 := hide hat2
           have hs5 : w3.heap.size + 1 ≤ w5.heap.size := by have := hgr2.size; simp at this; omega
           clear fs2 hrv1 hgr2 hat2))
      go_end0
      obtain ⟨w4, hw4⟩ : ∃ w4, w4 = w3.setCell ⟨b.D, 2, none⟩ (.slice (some ⟨g1, 0, none⟩) (b.kl.length + 1) cap1) := ⟨_, rfl⟩
      obtain ⟨w6, hw6⟩ : ∃ w6, w6 = w5.setCell ⟨b.D, 3, none⟩ (.slice (some ⟨g2, 0, none⟩) (b.jl.length + 1) cap2) := ⟨_, rfl⟩
      rw [← hw4] at FS FS2
      rw [← hw6] at FS2
      rw [← hw6]
      have hb := unhide HB
      have kp1 : Keeps (fun k => (k = b.D ∨ b.kv.ownBlock = some k ∨ b.jv.ownBlock = some k)) wr w4 := (unhide FS).2.2.2.mono (fun k _ h => h.imp id Or.inl)
      have kp2 : Keeps (fun k => (k = b.D ∨ b.kv.ownBlock = some k ∨ b.jv.ownBlock = some k)) w4 w6 := (unhide FS2).2.2.2.mono (fun k _ h => h.imp id Or.inr)
      have kp := kp1.trans kp2
      have hbvlt : ∀ q, b.kv.ownBlock = some q → q < w.heap.size := fun q h => (hb.rk.lt q h).2
      have hvvlt : ∀ q, b.jv.ownBlock = some q → q < w.heap.size := fun q h => (hb.rj.lt q h).2
      have ng1D : g1 ≠ b.D := by
        rcases unhide HAT1 with h | h
        · exact fun e => unhide HNB (e ▸ h)
        · omega
      have ng1v : b.jv.ownBlock ≠ some g1 := by
        rcases unhide HAT1 with h | h
        · exact unhide HABV g1 h
        · intro e; have := hvvlt g1 e; omega
      have ng12 : g1 ≠ g2 := by
        rcases unhide HAT2 with h | h
        · intro e; exact ng1v (e ▸ h)
        · omega
      have rb6 : w6.ownsRow B 51 1 (.slice (some ⟨g1, 0, none⟩) (b.kl.length + 1) cap1) (b.kl.length + 1) (b.kl ++ [.slice ao n cap]) := ownsRow_kept (unhide FS).2.2.1 (unhide FS2).2.2.2 (fun q hq h => by
        cases hq
        exact h.elim (fun e => ng1D e) (fun e => ng1v e))
      have rv6 := (unhide FS2).2.2.1
      have hlo : ∀ q, (Value.slice ao n cap).ownBlock = some q → ¬ (q = b.D ∨ b.kv.ownBlock = some q ∨ b.jv.ownBlock = some q) := fun q h1 h2 => hown q (h2.elim Or.inl (fun h2 => h2.elim (fun h2 => Or.inr (Or.inr (Or.inr (Or.inl h2)))) (fun h2 => Or.inr (Or.inr (Or.inr (Or.inr (Or.inl h2))))))) h1
      have row6 := ownsRow_kept (unhide HO1) kp hlo
      have hof : ∀ q, (Value.slice o5 n c5).ownBlock = some q → w.heap.size ≤ q := fun q h => ((unhide HO2).lt q h).1
      have five6 := ownsRow_kept (unhide HO2) kp (fun q h1 h2 => by
        have := hof q h1
        rcases h2 with h2 | h2 | h2
        · omega
        · have := hbvlt q h2; omega
        · have := hvvlt q h2; omega)
      have K6 : Keeps (fun k => (k = b.D ∨ b.kv.ownBlock = some k ∨ b.jv.ownBlock = some k) ∨ (Value.slice ao n cap).ownBlock = some k) w w6 :=
        ((unhide HKP).mono (fun k _ e => Or.inr e)).trans (kp.mono (fun k _ e => Or.inl e))
      have htl := turned_length (ks := l) (k := n) (by omega)
      have q6 : Bools w6 (.slice ao n cap) (turned l n) := bools_of_row' (by rw [htl]; exact row6)
      have q5 : Bools w6 (.slice o5 n c5) (turned l n) := bools_of_row' (by rw [htl]; exact five6)
      refine ⟨_, rfl, _, hb.putK (P := fun k => (Value.slice ao n cap).ownBlock = some k) K6 hout (p1 := .slice ao n cap) (q1 := .slice o5 n c5) (l1 := turned l n) (bv' := .slice (some ⟨g1, 0, none⟩) (b.kl.length + 1) cap1) (vv' := .slice (some ⟨g2, 0, none⟩) (b.jl.length + 1) cap2) (unhide FS2).2.1 (by simpa using rb6) (by simpa using rv6) ?_
        (fun k => (Value.slice ao n cap).ownBlock = some k ∨ (Value.slice o5 n c5).ownBlock = some k) ?_ q6 q5 (by rw [htl]; exact hlen) ?_ ?_, rfl, rfl, by simp, K6.mono (fun k _ h => h.elim (fun h => Or.inl (h.elim Or.inl (fun h => h.elim (fun h => Or.inr (Or.inr (Or.inr (Or.inl h)))) (fun h => Or.inr (Or.inr (Or.inr (Or.inr (Or.inl h)))))))) Or.inr), ?_⟩
      · intro k h1 h2
        simp [Value.ownBlock] at h1 h2
        omega
      · rintro k (h | h)
        · exact rowBlock row6 h
        · obtain ⟨h1, h2⟩ := rowBlock five6 h; exact ⟨by omega, h2⟩
      · exact fun b off m c e _ => Or.inl (by rw [e]; rfl)
      · exact fun b off m c e _ => Or.inr (by rw [e]; rfl)
      · rintro k ((h | h | h | h | h | h | h) | h | h | h)
        · exact Or.inl (Or.inl (Or.inl h))
        · exact Or.inl (Or.inl (Or.inr (Or.inl h)))
        · exact Or.inl (Or.inl (Or.inr (Or.inr (Or.inl h))))
        · simp [Value.ownBlock] at h
          rcases unhide HAT1 with h1 | h1
          · exact Or.inl (Or.inl (Or.inr (Or.inr (Or.inr (Or.inl (by rw [← h]; exact h1))))))
          · exact Or.inr (Or.inr (by omega))
        · simp [Value.ownBlock] at h
          rcases unhide HAT2 with h1 | h1
          · exact Or.inl (Or.inl (Or.inr (Or.inr (Or.inr (Or.inr (Or.inl (by rw [← h]; exact h1)))))))
          · exact Or.inr (Or.inr (by omega))
        · exact Or.inl (Or.inl (Or.inr (Or.inr (Or.inr (Or.inr (Or.inr (Or.inl h)))))))
        · exact Or.inl (Or.inl (Or.inr (Or.inr (Or.inr (Or.inr (Or.inr (Or.inr h)))))))
        · exact Or.inl (Or.inr h)
        · exact Or.inr (Or.inl h)
        · exact Or.inr (Or.inr (hof k h))

end Go.Proofs.Ytjmbcelkhiopeaa

namespace Go.Proofs.Ytjmbcelkhiopeaa
open Go.RowKit Go.Maps
attribute [local go_sem ↓] Go.wp_at_zero Go.wp_at_succ

/-- No two of the writes have their bytes in one block. -/
def Inj (ws : List Wr) : Prop := ∀ (i j : Nat) (x y : Wr), ws[i]? = some x → ws[j]? = some y → i ≠ j → x.blk ≠ y.blk
theorem Inj.nil : Inj [] := fun i _ _ _ h => by simp at h
theorem Inj.snoc {ws : List Wr} (h : Inj ws) (a : Wr) (ha : ∀ y ∈ ws, y.blk ≠ a.blk) : Inj (ws ++ [a]) := by
  intro i j x y hx hy hij
  have key : ∀ (m : Nat) (u : Wr), (ws ++ [a])[m]? = some u → (m < ws.length ∧ ws[m]? = some u) ∨ (m = ws.length ∧ u = a) := by
    intro m u hu
    by_cases hm : m < ws.length
    · rw [List.getElem?_append_left hm] at hu; exact Or.inl ⟨hm, hu⟩
    · rw [List.getElem?_append_right (by omega)] at hu
      obtain ⟨q, hq⟩ : ∃ q, q = m - ws.length := ⟨_, rfl⟩
      rw [← hq] at hu
      rcases q with _ | q
      · simp at hu; exact Or.inr ⟨by omega, hu.symm⟩
      · simp at hu
  rcases key i x hx with ⟨h1, h2⟩ | ⟨h1, rfl⟩ <;> rcases key j y hy with ⟨h3, h4⟩ | ⟨h3, rfl⟩
  · exact h i j x y h2 h4 hij
  · exact ha x (List.mem_of_getElem? h2)
  · exact fun e => ha y (List.mem_of_getElem? h4) e.symm
  · omega

set_option maxRecDepth 100000 in
set_option maxHeartbeats 2000000 in
theorem pending_inj (w : World) (B : Nat) (S : DS) (h : DiskAt w B S) (hws : S.ws.length ≤ 4294967295) :
    Calls Try.prog 18 #[.pointer (some ⟨S.D, 0, none⟩)] w fun e w' => ∃ ws : List Wr, e = .returned (.slice (some ⟨w.heap.size, 0, none⟩) S.ws.length S.ws.length) ∧ PendInv w S S.ws.length ws w' ∧ Inj ws := by
  obtain ⟨Z, hZ, hmk⟩ := run_mk41 S.ws.length hws w
  obtain ⟨ao, wc, hwv⟩ := h.form
  have c3 : w.cell? ⟨S.D, 3, none⟩ = some (.slice ao S.ws.length wc) := by rw [cell_of_blk h.blk, ← hwv]; rfl
  have hDl := lt_of_block h.blk
  have HI0 : Hid (PendInv w S 0 [] (w.alloc (.cells Z 60))) := ⟨(Keeps.refl _ _).alloc _, rfl, rfl, ⟨Z, heap_alloc_new w _, hZ, fun j x hx => by simp at hx⟩, fun x hx => by simp at hx⟩
  have H := hide h
  have HW := hide hwv
  clear h hwv hZ
  go_enter Try.func18, Try.ntmps18
  go_wp2_with fail
  go_loopw [19] (fun i wr => ∃ (k : Nat) (ws : List Wr), k ≤ S.ws.length ∧ i = .int .i64 k ∧ PendInv w S k ws wr ∧ Inj ws) (fun i _ => S.ws.length - (intOf i).toNat)
  case atStart => exact ⟨0, [], Nat.zero_le _, rfl, unhide HI0, Inj.nil⟩
  case round =>
    obtain ⟨k, ws, hk, rfl, hI, hInj⟩ := hrel
    have HJ := hide hInj
    clear hInj
    clear HI0 hmk
    by_cases hlt : k < S.ws.length
    · obtain ⟨x, hx⟩ : ∃ x, S.ws[k]? = some x := ⟨_, List.getElem?_eq_getElem hlt⟩
      have Hx := hide hx
      obtain ⟨g, cap, hv, hg0, hg1, hg2, hg3, q1, q2⟩ := (unhide H).wcell hx
      have e1 := hv.symm.trans (unhide HW)
      simp at e1
      obtain ⟨rfl, rfl⟩ := e1
      obtain ⟨x1, x2, x3, x4⟩ := (unhide H).each x (List.mem_of_getElem? hx)
      have p1 := (hI.keeps.cell (o := k * 2) hg0 id).trans q1
      have p2 := (hI.keeps.cell (o := k * 2 + 1) hg0 id).trans q2
      have px := (hI.keeps.block x.blk (lt_of_block x3) id).trans x3
      obtain ⟨arr, ha, hs, hcc⟩ := hI.arr
      have hpl := lt_of_block ha
      have z0 : wr.cell? ⟨w.heap.size, k * 2, none⟩ = some (arr[k * 2]'(by omega)) := by rw [cell_of_blk ha]; exact Array.getElem?_eq_getElem (by omega)
      have z1 : wr.cell? ⟨w.heap.size, k * 2 + 1, none⟩ = some (arr[k * 2 + 1]'(by omega)) := by rw [cell_of_blk ha]; exact Array.getElem?_eq_getElem (by omega)
      have y0 := frozen_of_blk ha (k * 2)
      have y1 := frozen_of_blk ha (k * 2 + 1)
      generalize arr[k * 2]'(by omega) = u0 at z0
      generalize arr[k * 2 + 1]'(by omega) = u1 at z1
      have hcp := copied_any x.blk 0 S.size S.size x.bytes (wr.alloc (.cells #[.int .i64 x.sec, .slice (some ⟨x.blk, 0, none⟩) S.size S.size] 60)).drew x1 (by simp; exact Nat.lt_succ_of_lt (lt_of_block px)) (by have := (unhide H).size2; omega)
        (fun j y hy => by
          rw [World.cell?_drew, World.cell?_alloc_past _ _ _ (lt_of_block px), cell_of_blk px]
          simp [bs, hy])
      simp only [World.size_drew, World.size_alloc] at hcp
      have HCP := hide hcp
      have HI := hide hI
      have i1 : (k : Int) < (S.ws.length : Int) := by omega
      have i0 : (0 : Int) ≤ (k : Int) := by omega
      clear hx hv q1 q2 hI x1 x2 x3 x4 px ha hs hcc hcp
      go_wp2_with fail
      go_region_held3 (fun w' => w'.cell? ⟨wr.heap.size, 0, none⟩ = some (.int .i64 x.sec) ∧ w'.cell? ⟨wr.heap.size, 1, none⟩ = some (.slice (some ⟨x.blk, 0, none⟩) S.size S.size))
        (first
          | (go_keep; done)
          | (exact ⟨(box_keep wr _ size_two _ _ _ 0).trans rfl, (box_keep wr _ size_two _ _ _ 1).trans rfl⟩))
        (first
          | (go_at_call 41; refine (unhide HCP).mono ?_; rintro e wa ⟨rfl, rfl⟩))
      go_wp2
      go_roundw
      case rel =>
        refine ⟨k + 1, _, by omega, by go_num, (unhide HI).next (N := wr.heap.size + 1) (unhide H) (unhide Hx) (by omega) ?_ ?_ ?_, (unhide HJ).snoc _ (fun y hy e => ?_)⟩
        · exact ((((kD _ _ _ _).trans (kD _ _ _ _)).alloc _).alloc _).drew
        · have := heap_alloc_new (((wr.setCell ⟨w.heap.size, k * 2, none⟩ (.int .i64 x.sec)).setCell ⟨w.heap.size, k * 2 + 1, none⟩ (.slice (some ⟨wr.heap.size + 1, 0, none⟩) S.size S.size)).alloc (.cells #[.int .i64 x.sec, .slice (some ⟨x.blk, 0, none⟩) S.size S.size] 60)) (.cells (bs x.bytes).toArray 5)
          rw [World.size_alloc, World.size_setCell, World.size_setCell] at this
          exact this
        · intro arr ha
          show ((World.alloc _ _)).heap[w.heap.size]? = _
          rw [Below.heap_alloc _ _ _ (by simp; omega), Below.heap_alloc _ _ _ (by simp; omega)]
          exact heap_setCell_at (heap_setCell_at ha _) _
        · have := lt_of_block ((unhide HI).each y hy).2.1
          simp only at e
          omega
      case measure => simp [intOf]; omega
    · obtain rfl : k = S.ws.length := by omega
      have HI := hide hI
      clear hI
      go_wp2
      go_ret
      exact ⟨ws, rfl, unhide HI, unhide HJ⟩

/-- A list of writes that is one's own, bytes and all. -/
structure OwnWr (w : World) (B : Nat) (v : Value) (s : Nat) (ws : List Wr) : Prop where
  row : w.ownsRow B 60 2 v ws.length (wcells s ws)
  each : ∀ x ∈ ws, x.bytes.length = s ∧ w.heap[x.blk]? = some (.cells (bs x.bytes).toArray 5 (0, 0)) ∧ B ≤ x.blk
  inj : Inj ws
  fit : s ≤ 1024

/-- Its blocks. -/
def wrFoot (v : Value) (ws : List Wr) (q : Nat) : Prop := v.ownBlock = some q ∨ ∃ x ∈ ws, x.blk = q

theorem wcells_at {s : Nat} : ∀ {ws : List Wr} {k : Nat} {x : Wr}, ws[k]? = some x → (wcells s ws)[k * 2]? = some (.int .i64 x.sec) ∧ (wcells s ws)[k * 2 + 1]? = some (.slice (some ⟨x.blk, 0, none⟩) s s)
  | y :: ys, 0, x, h => by simp at h; subst h; exact ⟨rfl, rfl⟩
  | y :: ys, k + 1, x, h => by
    simp at h
    have := wcells_at (s := s) h
    have e : wcells s (y :: ys) = [.int .i64 y.sec, .slice (some ⟨y.blk, 0, none⟩) s s] ++ wcells s ys := rfl
    rw [e, List.getElem?_append_right (by simp; omega), List.getElem?_append_right (by simp; omega)]
    have e1 : (k + 1) * 2 - [(Value.int .i64 y.sec), .slice (some ⟨y.blk, 0, none⟩) s s].length = k * 2 := by simp; omega
    have e2 : (k + 1) * 2 + 1 - [(Value.int .i64 y.sec), .slice (some ⟨y.blk, 0, none⟩) s s].length = k * 2 + 1 := by simp; omega
    rw [e1, e2]
    exact this

theorem full_row {w : World} {B g s : Nat} {l : List Int} (h : w.heap[g]? = some (.cells (bs l).toArray 5 (0, 0))) (hl : l.length = s) (hs : s ≤ 1024) (hb : B ≤ g) : w.ownsRow B 5 1 (.slice (some ⟨g, 0, none⟩) s s) s (bs l) := by
  refine ⟨by simp [bs, hl], Or.inr ⟨g, s, _, rfl, hb, h, Nat.le_refl _, by unfold maxLen; omega, by simp [bs, hl], ?_⟩⟩
  rw [List.take_of_length_le (by simp [bs, hl])]

def mrk (z : Int) : List Value := [.int .i64 z, .slice none 0 0]
def mks (z : Int) (k : Nat) : List Value := (List.replicate k (mrk z)).flatten
theorem mks_succ (z : Int) (k : Nat) : mks z (k + 1) = mks z k ++ mrk z := by simp [mks, List.replicate_succ']
theorem mks_length (z : Int) : ∀ k, (mks z k).length = k * 2
  | 0 => rfl
  | k + 1 => by rw [mks_succ, List.length_append, mks_length z k]; simp [mrk]; omega
theorem mks_at (z : Int) : ∀ (k j : Nat), j < k → (mks z k)[j * 2]? = some (.int .i64 z) ∧ (mks z k)[j * 2 + 1]? = some (.slice none 0 0)
  | k + 1, j, h => by
    have hl := mks_length z k
    rw [mks_succ]
    by_cases hj : j < k
    · rw [List.getElem?_append_left (by omega), List.getElem?_append_left (by omega)]
      exact mks_at z k j hj
    · obtain rfl : j = k := by omega
      rw [List.getElem?_append_right (by omega), List.getElem?_append_right (by omega), hl]
      simp [mrk]

theorem mks_set (z : Int) (cs : List Value) (k : Nat) (h : k * 2 + 2 ≤ cs.length) : ((mks z k ++ cs.drop (k * 2)).set (k * 2) (.int .i64 z)).set (k * 2 + 1) (.slice none 0 0) = mks z (k + 1) ++ cs.drop ((k + 1) * 2) := by
  have hl := mks_length z k
  have h1 : cs.drop (k * 2) = cs[k * 2] :: cs[k * 2 + 1] :: cs.drop ((k + 1) * 2) := by
    rw [List.drop_eq_getElem_cons (by omega), List.drop_eq_getElem_cons (by omega)]
    congr 3
    omega
  rw [h1, List.set_append_right _ _ (by omega), List.set_append_right _ _ (by omega), mks_succ, hl]
  have e1 : k * 2 - k * 2 = 0 := by omega
  have e2 : k * 2 + 1 - k * 2 = 1 := by omega
  rw [e1, e2]
  simp [mrk]

theorem marks_row {w : World} {B : Nat} {v : Value} {n : Nat} {z : Int} (h : w.ownsRow B 60 2 v n (mks z n)) : Marks w v n z := by
  obtain ⟨ao, cap, rfl, _⟩ := own_form h
  refine ⟨⟨_, _, rfl⟩, fun h0 => ?_⟩
  obtain ⟨g, c, e, -⟩ := h.form h0
  simp at e
  obtain ⟨rfl, rfl⟩ := e
  refine ⟨g, 0, cap, rfl, fun j hj => ?_⟩
  obtain ⟨h1, h2⟩ := mks_at z n j hj
  have a1 := (row_cell h).2.2 _ _ h1
  have a2 := (row_cell h).2.2 _ _ h2
  simp only [Nat.zero_add]
  exact ⟨a1, a2⟩

/-- One element of a row of two cells is written. -/
theorem row_set2 {w : World} {b : Nat} {e : TypeId} {g n cap : Nat} {xs : List Value} (h : w.ownsRow b e 2 (.slice (some ⟨g, 0, none⟩) n cap) n xs) (i j : Nat) (u v : Value) :
    ((w.setCell ⟨g, i, none⟩ u).setCell ⟨g, j, none⟩ v).ownsRow b e 2 (.slice (some ⟨g, 0, none⟩) n cap) n ((xs.set i u).set j v) := by
  refine ⟨by simpa using h.1, ?_⟩
  rcases h.2 with ⟨h0, _⟩ | ⟨g', cap', cur, hv, hbg, hg, hnc, hcm, hcs, htake⟩
  · cases h0
  · cases hv
    refine Or.inr ⟨g, cap, (cur.setIfInBounds i u).setIfInBounds j v, rfl, hbg, heap_setCell_at (heap_setCell_at hg u) v, hnc, hcm, by simpa using hcs, ?_⟩
    rw [Array.toList_setIfInBounds, Array.toList_setIfInBounds, List.take_set, List.take_set, htake]

end Go.Proofs.Ytjmbcelkhiopeaa
