import Derived.Test.YtcicaifioghciaaGreatDoorOe
import Derived.ArgAppend
import Derived.Deep.DeepAppendRoom
namespace Go.Proofs.YtcicaifioghciaaGreatDoor
open Go.RowKit Go.Maps

theorem own_lt {w : World} {B e z n : Nat} {v : Value} {xs : List Value} (h : w.ownsRow B e z v n xs) {k : Nat} (hk : v.ownBlock = some k) : k < w.heap.size := by
  rcases h.2 with ⟨rfl, _⟩ | ⟨g, cap, cur, rfl, _, hg, _⟩
  · cases hk
  · simp [Value.ownBlock] at hk
    subst hk
    exact lt_of_block hg
/-- A row that was there lies in no block of a row that was born later. -/
theorem sep_new {w w' : World} {B e z n e' z' n' : Nat} {v v' : Value} {xs xs' : List Value} (h : w.ownsRow B e z v n xs) (h' : w'.ownsRow w.heap.size e' z' v' n' xs') (q : Nat) (hv : v.ownBlock = some q) (hv' : v'.ownBlock = some q) : False := by
  have := own_lt h hv
  have := own_geO h' hv'
  omega
theorem own_apart {w : World} {B e size n : Nat} {v : Value} {xs : List Value} {B' e' size' n' : Nat} {v' : Value} {xs' : List Value} (h : w.ownsRow B e size v n xs) (h' : w.ownsRow B' e' size' v' n' xs') (he : e ≠ e') (k : Nat) (hk : v.ownBlock = some k) (hk' : v'.ownBlock = some k) : False := by
  rcases h.2 with ⟨rfl, _⟩ | ⟨g, cap, cur, rfl, _, hg, _⟩
  · cases hk
  · rcases h'.2 with ⟨rfl, _⟩ | ⟨g', cap', cur', rfl, _, hg', _⟩
    · cases hk'
    · simp [Value.ownBlock] at hk hk'
      subst hk
      subst hk'
      rw [hg] at hg'
      simp only [Option.some.injEq, Obj.cells.injEq] at hg'
      exact he hg'.2.1

/-- append onto a row of one's own: in place, or into a new block with all old blocks as they were. -/
theorem append_two {P : Program} (w : World) {ops : Array Oper} {rest : List Oper} {o : Oper} {a : Act} {Q : Exit → Act → World → Prop} (hgd : o.guard = none) (s x : Operand) (t : TypeId)
    (ho : o.op = .call { callee := .builtin .append, args := #[s, x], argTypes := #[t, t] })
    (base : Nat) (e : TypeId) (i : TypeInfo) (z : Value) (size bytes : Nat) (ht : P.underlying t = some (.slice e)) (hi : P.info? e = some i) (hz : i.zero = some z)
    (hsize : i.size = size) (hby : i.bytes = bytes) (hzs : z.cells.size = size) (hsz : 0 < size)
    (v : Value) (n : Nat) (xs : List Value) (hs : a.eval s = v) (hown : w.ownsRow base e size v n xs)
    (ad : Addr) (m c : Nat) (news : List Value) (hx : a.eval x = .slice (some ad) m c) (hl : news.length = m * size) (hnews : ∀ j u, news[j]? = some u → w.cell? (ad.add j) = some u) (h1 : ∀ u ∈ news, u.oneCell' = true)
    (hm : 0 < m) (h63 : n + m ≤ maxLen) (hbytes : (n + m) * bytes ≤ 140737488355328) (hbase : base ≤ w.heap.size)
    (h : ∀ g cap w', w'.ownsRow base e size (.slice (some ⟨g, 0, none⟩) (n + m) cap) (n + m) (xs ++ news) → ((v = .slice (some ⟨g, 0, none⟩) n cap ∧ w.grownBy w' (some g)) ∨ (w.heap.size ≤ g ∧ w.grownBy w' none)) → wpList P ops Q rest (a.put o.dst (.slice (some ⟨g, 0, none⟩) (n + m) cap)) w') : wpList P ops Q (o :: rest) a w := by
  have grows : ∀ v' w', w'.ownsRow w.heap.size e size v' (n + m) (xs ++ news) → w.grownBy w' none → wpList P ops Q rest (a.put o.dst v') w' := by
    intro v' w' h2 h3
    obtain ⟨g, cap, rfl, hg, hlt⟩ := h2.form (by omega)
    exact h g cap w' (ownsRow_low h2 hbase) (Or.inr ⟨hg, h3⟩)
  rcases hown.2 with ⟨rfl, rfl⟩ | ⟨g, cap, cur, rfl, hbg, hg, hnc, hcm, hcs, htake⟩
  · have hx0 : xs = [] := List.eq_nil_of_length_eq_zero (by simpa using hown.1)
    subst hx0
    exact wpList_append_grows w hgd s x t ho e i z size bytes ht hi hz hsize hby hzs hsz none 0 0 [] hs (fun _ => ⟨rfl, rfl⟩) (by simp) (fun _ h => by cases h) ad m c news hx hl hnews h1 (by omega) h63 hbytes grows
  · by_cases hroom : n + m ≤ cap
    · refine wpList_append_own_spare w hgd s x t ho base e i size ht hi hsize g n cap xs hs hown ad m c news hx hl hnews h1 hroom (fun w' h2 h3 => ?_)
      exact h g cap w' h2 (Or.inl ⟨rfl, h3⟩)
    · refine wpList_append_grows w hgd s x t ho e i z size bytes ht hi hz hsize hby hzs hsz (some ⟨g, 0, none⟩) n cap xs hs (fun h => by cases h) hown.1 (fun b hb j u hu => ?_) ad m c news hx hl hnews h1 (by omega) h63 hbytes grows
      cases hb
      have hadd : (⟨g, 0, none⟩ : Addr).add j = ⟨g, j, none⟩ := by unfold Addr.add; split <;> simp_all
      rw [hadd, cell_of_row w g j cur e (0, 0) hg]
      rw [← htake] at hu
      rw [List.getElem?_take] at hu
      split at hu
      · simpa using hu
      · cases hu

/-- A shorter row at the head of a row, in the same block with the same room. -/
theorem own_head {w : World} {B e z n m g cap : Nat} {xs ys : List Value} (h : w.ownsRow B e z (.slice (some ⟨g, 0, none⟩) m cap) m (xs ++ ys)) (hn : xs.length = n * z) (hz : 0 < z) : w.ownsRow B e z (.slice (some ⟨g, 0, none⟩) n cap) n xs := by
  refine ⟨hn, Or.inr ?_⟩
  rcases h.2 with ⟨h0, _⟩ | ⟨g', cap', cur, hv, hbg, hg, hnc, hcm, hcs, htake⟩
  · cases h0
  · cases hv
    have hl := h.1
    rw [List.length_append, hn] at hl
    have hnm : n ≤ m := Nat.le_of_mul_le_mul_right (by omega : n * z ≤ m * z) hz
    refine ⟨g, cap, cur, rfl, hbg, hg, by omega, hcm, hcs, ?_⟩
    have : (cur.toList.take (m * z)).take (n * z) = xs := by rw [htake, ← hn]; exact List.take_left
    rwa [List.take_take, Nat.min_eq_left (by omega)] at this
theorem same_cap {w : World} {B C e z n m g c d : Nat} {xs ys : List Value} (h : w.ownsRow B e z (.slice (some ⟨g, 0, none⟩) n c) n xs) (h' : w.ownsRow C e z (.slice (some ⟨g, 0, none⟩) m d) m ys) (hz : 0 < z) : c = d := by
  rcases h.2 with ⟨h0, _⟩ | ⟨g', cap', cur, hv, _, hg, _, _, hcs, _⟩
  · cases h0
  · rcases h'.2 with ⟨h0, _⟩ | ⟨g2, cap2, cur2, hv2, _, hg2, _, _, hcs2, _⟩
    · cases h0
    · cases hv
      cases hv2
      rw [hg] at hg2
      simp only [Option.some.injEq, Obj.cells.injEq] at hg2
      obtain ⟨rfl, _⟩ := hg2
      exact Nat.eq_of_mul_eq_mul_right hz (hcs.symm.trans hcs2)
/-- A row, and a longer one that was grown out of it: the row stays while the longer one grows on. -/
theorem both_grow {w w' : World} {B C e z n m k g cap : Nat} {vx vm : Value} {xs ys zs : List Value} (hx : w.ownsRow B e z vx n xs) (hm : w.ownsRow C e z vm m (xs ++ ys)) (hz : 0 < z)
    (h' : w'.ownsRow C e z (.slice (some ⟨g, 0, none⟩) k cap) k (xs ++ ys ++ zs)) (hc : (vm = .slice (some ⟨g, 0, none⟩) m cap ∧ w.grownBy w' (some g)) ∨ (w.heap.size ≤ g ∧ w.grownBy w' none)) : w'.ownsRow B e z vx n xs := by
  rcases hc with ⟨rfl, hg⟩ | ⟨_, hg⟩
  · by_cases hb : vx.ownBlock = some g
    · have hb2 := own_geO hx hb
      rcases hx.2 with ⟨rfl, _⟩ | ⟨g1, c1, cur1, rfl, h1, h2, _⟩
      · cases hb
      · simp [Value.ownBlock] at hb
        subst hb
        obtain rfl := same_cap hx hm hz
        have hx1 := hx.1
        rw [List.append_assoc] at h'
        have := own_head h' hx1 hz
        exact ⟨this.1, this.2.imp id fun ⟨g, cap, cur, a1, a2, a3⟩ => ⟨g, cap, cur, a1, by simp only [Value.slice.injEq, Option.some.injEq, Addr.mk.injEq] at a1; omega, a3⟩⟩
    · exact ownsRow_kept hx ((Keeps.refl (fun q => q = g) w).grown hg (fun q e _ => by simpa using e.symm)) (fun q e e2 => hb (by rw [e, e2]))
  · exact ownsRow_kept hx ((Keeps.refl (fun _ => False) w).grown hg (fun q e _ => by cases e)) (fun _ _ => id)
theorem both_set {w w' : World} {B C e z n m g cap : Nat} {vx : Value} {xs ys zs : List Value} (hx : w.ownsRow B e z vx n xs) (hm : w.ownsRow C e z (.slice (some ⟨g, 0, none⟩) m cap) m (xs ++ ys)) (hz : 0 < z)
    (h' : w'.ownsRow C e z (.slice (some ⟨g, 0, none⟩) m cap) m (xs ++ zs)) (hk : Keeps (fun q => q = g) w w') : w'.ownsRow B e z vx n xs := by
  by_cases hb : vx.ownBlock = some g
  · have hb2 := own_geO hx hb
    rcases hx.2 with ⟨rfl, _⟩ | ⟨g1, c1, cur1, rfl, h1, h2, _⟩
    · cases hb
    · simp [Value.ownBlock] at hb
      subst hb
      obtain rfl := same_cap hx hm hz
      have := own_head h' hx.1 hz
      exact ⟨this.1, this.2.imp id fun ⟨g, cap, cur, a1, a2, a3⟩ => ⟨g, cap, cur, a1, by simp only [Value.slice.injEq, Option.some.injEq, Addr.mk.injEq] at a1; omega, a3⟩⟩
  · exact ownsRow_kept hx hk (fun q e e2 => hb (by rw [e, e2]))

/-- A list whose first items are written over. -/
def overL {α : Type} (l : List α) (c : α) (k : Nat) : List α := List.replicate k c ++ l.drop k
theorem overL_zero {α : Type} (l : List α) (c : α) : overL l c 0 = l := by simp [overL]
theorem overL_len {α : Type} {l : List α} {c : α} {k : Nat} (h : k ≤ l.length) : (overL l c k).length = l.length := by simp [overL]; omega
theorem overL_end {α : Type} (l : List α) (c : α) : overL l c l.length = List.replicate l.length c := by simp [overL]
theorem overL_set {α : Type} {l : List α} {c : α} {k : Nat} (h : k < l.length) : (overL l c k).set k c = overL l c (k + 1) := by
  unfold overL
  rw [List.set_append_right _ _ (by simp), List.replicate_succ', List.append_assoc]
  congr 1
  rw [List.length_replicate, Nat.sub_self, List.drop_eq_getElem_cons h]
  rfl
end Go.Proofs.YtcicaifioghciaaGreatDoor
