import Derived.Test.YtcfnlnceoalnoaaDoorVw
namespace Go.Proofs.YtcfnlnceoalnoaaDoor
open Go.RowKit Go.Maps
theorem fldT_isK {S : List FieldA} {i : ValA} (hS : ∀ f ∈ S, isK f.type) (hf : formB i = 0) (hr : rightF S i = true) (h : (opA i.kind).of = 4 ∨ (opA i.kind).gives = 4) : isK (fldT S i) := by
  obtain ⟨n0, hn⟩ := names_ok hf hr h
  have hlt : i.n.toNat < S.length := by omega
  unfold fldT
  rw [List.getElem?_eq_getElem hlt]
  exact hS _ (List.getElem_mem hlt)
theorem behB_isK {S : List FieldA} {i : ValA} {st st' : List Int} (hS : ∀ f ∈ S, isK f.type) (hf : formB i = 0) (hr : rightF S i = true) (hk : ∀ k ∈ st, isK k) (h : behB S i st = some st') : ∀ k ∈ st', isK k := by
  have e : st' = afterB S i st := by
    unfold behB at h
    split at h
    · cases h
    · split at h
      · cases h
      · split at h
        · cases h; rfl
        · cases h
  subst e
  obtain ⟨_, _, _, h4⟩ := op_facts _ (op_cases (formB_zero hf).1)
  intro k hk'
  unfold afterB at hk'
  rcases List.mem_append.1 hk' with q | q
  · exact hk k (List.mem_of_mem_take q)
  · by_cases hg : (opA i.kind).gives ≠ 0
    · rw [if_pos hg, List.mem_singleton] at q
      subst q
      rcases h4 with e | e | e | e | e
      · exact absurd e hg
      · unfold ofF; rw [e]; exact Or.inl rfl
      · unfold ofF; rw [e]; exact Or.inr (Or.inl rfl)
      · unfold ofF; rw [e]; exact Or.inr (Or.inr rfl)
      · unfold ofF; rw [if_pos e]; exact fldT_isK hS hf hr (Or.inr e)
    · rw [if_neg hg] at q
      cases q
theorem schema_isK {S : List FieldA} (h : errS S = 0) : ∀ f ∈ S, isK f.type := by
  intro f hf
  have hs : schemaB S = true := by
    rcases errS_eq S with ⟨q, _⟩ | ⟨_, q⟩
    · exact q
    · rw [h] at q; cases q
  unfold schemaB at hs
  simp only [Bool.and_eq_true, List.all_eq_true] at hs
  have hq := hs.1.1.2 f hf
  unfold fieldOK wideB at hq
  simp only [Bool.and_eq_true, decide_eq_true_iff] at hq
  unfold isK
  have hq2 := hq.2
  repeat' split at hq2
  all_goals omega
/-- The places ahead, as two rows. -/
def rbs (hv : List (Bool × List Int)) : List Value := hv.map fun z => Value.bool z.1
def rss (hv : List (Bool × List Int)) : List Value := hv.map fun z => str (z.2.map letR)
theorem rbs_length (hv : List (Bool × List Int)) : (rbs hv).length = hv.length := by simp [rbs]
theorem rss_length (hv : List (Bool × List Int)) : (rss hv).length = hv.length := by simp [rss]
theorem rbs_get {hv : List (Bool × List Int)} {k : Nat} {z : Bool × List Int} (h : hv[k]? = some z) : (rbs hv)[k]? = some (.bool z.1) := by simp [rbs, h]
theorem rss_get {hv : List (Bool × List Int)} {k : Nat} {z : Bool × List Int} (h : hv[k]? = some z) : (rss hv)[k]? = some (str (z.2.map letR)) := by simp [rss, h]
theorem rbs_set {hv : List (Bool × List Int)} {k : Nat} {z y : Bool × List Int} (h : hv.length = k) : (rbs (hv ++ [z])).set k (.bool y.1) = rbs (hv ++ [y]) := by
  subst h
  simp [rbs]
theorem rss_set {hv : List (Bool × List Int)} {k : Nat} {z y : Bool × List Int} (h : hv.length = k) : (rss (hv ++ [z])).set k (str (y.2.map letR)) = rss (hv ++ [y]) := by
  subst h
  simp [rss]
/-- Small stacks of kinds; and the instruction at each place reached does. -/
structure GoodH (S : List FieldA) (l : List ValA) (hv : List (Bool × List Int)) : Prop where
  small : ∀ (k : Nat) (z : Bool × List Int), hv[k]? = some z → z.2.length ≤ 16 ∧ ∀ k ∈ z.2, isK k
  beh : ∀ (k : Nat) (st : List Int), hv[k]? = some (true, st) → ∃ x st', l[k]? = some x ∧ behB S x st = some st'
theorem GoodH.snoc {S : List FieldA} {l : List ValA} {hv : List (Bool × List Int)} {z : Bool × List Int} (h : GoodH S l hv) (hz : z.2.length ≤ 16 ∧ ∀ k ∈ z.2, isK k) (hb : ∀ st, z = (true, st) → ∃ x st', l[hv.length]? = some x ∧ behB S x st = some st') : GoodH S l (hv ++ [z]) := by
  constructor
  · intro k y hy
    by_cases hk : k < hv.length
    · rw [List.getElem?_append_left hk] at hy; exact h.small k y hy
    · rw [List.getElem?_append_right (by omega)] at hy
      cases hj : k - hv.length with
      | zero => rw [hj] at hy; simp at hy; subst hy; exact hz
      | succ j => rw [hj] at hy; simp at hy
  · intro k st hy
    by_cases hk : k < hv.length
    · rw [List.getElem?_append_left hk] at hy; exact h.beh k st hy
    · rw [List.getElem?_append_right (by omega)] at hy
      cases hj : k - hv.length with
      | zero =>
        rw [hj] at hy
        simp at hy
        have := hb st hy
        rwa [show hv.length = k by omega] at this
      | succ j => rw [hj] at hy; simp at hy
/-- One instruction's turn at a place that is pulled. -/
theorem pullB_off {S : List FieldA} {l : List ValA} {hv : List (Bool × List Int)} {p k : Nat} {z : Bool × List Int} {st : List Int} (h : pullB S l hv p k = some z) (hk : hv[k]? = some (false, st)) : pullB S l hv p (k + 1) = some z := by
  rw [pullB, h]
  have : bringsB S l hv k p = none := by unfold bringsB; rw [hk]
  rw [this]
theorem pullB_by {S : List FieldA} {l : List ValA} {hv : List (Bool × List Int)} {p k : Nat} {z : Bool × List Int} {st : List Int} {x : ValA} (h : pullB S l hv p k = some z) (hk : hv[k]? = some (true, st)) (hx : l[k]? = some x) (hl : leadsB k x p = false) : pullB S l hv p (k + 1) = some z := by
  rw [pullB, h]
  have : bringsB S l hv k p = none := by unfold bringsB; rw [hk, hx]; simp [hl]
  rw [this]
theorem pullB_on {S : List FieldA} {l : List ValA} {hv : List (Bool × List Int)} {p k : Nat} {z : Bool × List Int} {st st' : List Int} {x : ValA} (h : pullB S l hv p k = some z) (hk : hv[k]? = some (true, st)) (hx : l[k]? = some x) (hl : leadsB k x p = true) (hb : behB S x st = some st') : pullB S l hv p (k + 1) = if z.1 = true ∧ z.2 ≠ st' then none else some (true, st') := by
  rw [pullB, h]
  have : bringsB S l hv k p = some st' := by unfold bringsB; rw [hk, hx]; simp [hl, hb]
  rw [this]
theorem pullB_none {S : List FieldA} {l : List ValA} {hv : List (Bool × List Int)} {p : Nat} : ∀ {n k : Nat}, pullB S l hv p k = none → pullB S l hv p (k + n) = none
  | 0, _, h => h
  | n + 1, k, h => by rw [show k + (n + 1) = (k + n) + 1 by omega, pullB, pullB_none h]
/-- What stacks answers. -/
def Stacked (w : World) (vb vs : Value) (bad : Int) : Option (List (Bool × List Int)) × Nat × Int → Prop
  | (none, k, _) => vb = .slice none 0 0 ∧ vs = .slice none 0 0 ∧ bad = (k : Int)
  | (some hv, _, _) => bad = -1 ∧ w.ownsRow 0 4 1 vb hv.length (rbs hv) ∧ w.ownsRow 0 9 1 vs hv.length (rss hv)
theorem pullA_at {S : List FieldA} {l : List ValA} {k : Nat} {x : ValA} {hv : List (Bool × List Int)} (h : l[k]? = some x) : pullA S l k (l.drop k) hv = match pullB S l hv k k with
    | none => (none, k, 112)
    | some z => if z.1 = true ∧ behB S x z.2 = none then (none, k, 112) else pullA S l (k + 1) (l.drop (k + 1)) (hv ++ [z]) := by
  obtain ⟨hk, hx⟩ := List.getElem?_eq_some_iff.1 h
  rw [List.drop_eq_getElem_cons hk, hx, pullA_cons]
  cases pullB S l hv k k <;> rfl
theorem pullA_bad {S : List FieldA} {l : List ValA} {k : Nat} {hv : List (Bool × List Int)} (hk : k ≤ l.length) (h : pullB S l hv k k = none) : pullA S l k (l.drop k) hv = (none, k, 112) := by
  by_cases hlt : k < l.length
  · rw [pullA_at (List.getElem?_eq_getElem hlt), h]
  · obtain rfl : k = l.length := by omega
    rw [List.drop_length, pullA_nil, h]

end Go.Proofs.YtcfnlnceoalnoaaDoor
namespace Go.Proofs.YtcfnlnceoalnoaaDoor
open Go.RowKit Go.Maps
theorem Tryd.info4 : (Tryd.prog.info? 4).map (fun i => (i.zero, i.size, i.bytes)) = some (some (.bool false), 1, 1) := by kernel_rfl
theorem Tryd.info9s : (Tryd.prog.info? 9).map (fun i => (i.zero, i.size, i.bytes)) = some (some (.string ⟨#[]⟩), 1, 16) := by kernel_rfl
def rowsP (hv : List (Bool × List Int)) : List (Bool × List Int) := if hv = [] then [(true, [])] else hv
theorem rowsP_of {hv : List (Bool × List Int)} (h : hv ≠ []) : rowsP hv = hv := if_neg h
/-- Two rows of one's own. -/
structure RowsAt (B : Nat) (w : World) (vr vh : Value) (N : Nat) (hv : List (Bool × List Int)) : Prop where
  len : hv.length = N
  bs : w.ownsRow B 4 1 vr N (rbs hv)
  ss : w.ownsRow B 9 1 vh N (rss hv)
theorem rows_start (w : World) : RowsAt w.heap.size ((w.alloc (.cells #[.bool true] 4)).alloc (.cells #[.string ⟨#[]⟩] 9)) (.slice (some ⟨w.heap.size, 0, none⟩) 1 1) (.slice (some ⟨w.heap.size + 1, 0, none⟩) 1 1) 1 (rowsP []) := by
  refine ⟨rfl, ?_, ?_⟩
  · exact (World.ownsRow_lit (base := w.heap.size) (e := 4) (size := 1) w #[.bool true] 1 (Nat.le_refl _) (by unfold maxLen; omega) rfl).alloc _
  · have := World.ownsRow_lit (base := w.heap.size) (e := 9) (size := 1) (w.alloc (.cells #[.bool true] 4)) #[.string ⟨#[]⟩] 1 (by simp) (by unfold maxLen; omega) rfl
    rw [World.size_alloc] at this
    exact this
theorem RowsAt.keepF {B : Nat} {w w' : World} {vr vh : Value} {N : Nat} {hv : List (Bool × List Int)} (h : RowsAt B w vr vh N hv) (hk : Keeps (fun _ => False) w w') : RowsAt B w' vr vh N hv :=
  ⟨h.len, ownsRow_kept h.bs hk (fun _ _ => id), ownsRow_kept h.ss hk (fun _ _ => id)⟩
theorem RowsAt.form {B : Nat} {w : World} {vr vh : Value} {N : Nat} {hv : List (Bool × List Int)} (h : RowsAt B w vr vh N hv) (hN : 0 < N) : ∃ g1 c1 g2 c2, vr = .slice (some ⟨g1, 0, none⟩) N c1 ∧ vh = .slice (some ⟨g2, 0, none⟩) N c2 := by
  obtain ⟨g1, c1, e1, _⟩ := (World.ownsRow.form h.bs hN)
  obtain ⟨g2, c2, e2, _⟩ := (World.ownsRow.form h.ss hN)
  exact ⟨g1, c1, g2, c2, e1, e2⟩
theorem RowsAt.lt {B : Nat} {w : World} {g1 c1 g2 c2 : Nat} {N : Nat} {hv : List (Bool × List Int)} (h : RowsAt B w (.slice (some ⟨g1, 0, none⟩) N c1) (.slice (some ⟨g2, 0, none⟩) N c2) N hv) : (B ≤ g1 ∧ g1 < w.heap.size) ∧ (B ≤ g2 ∧ g2 < w.heap.size) ∧ g1 ≠ g2 := by
  refine ⟨h.bs.lt g1 rfl, h.ss.lt g2 rfl, ?_⟩
  rcases h.bs.2 with ⟨h', _⟩ | ⟨g', cap', cur, h', _, hg, _⟩
  · simp at h'
  · simp only [Value.slice.injEq, Option.some.injEq, Addr.mk.injEq, and_true, true_and] at h'
    obtain ⟨rfl, rfl⟩ := h'
    intro e
    exact ownsRow_ne h.ss hg (by decide) (by rw [e]; rfl)
theorem RowsAt.cell {B : Nat} {w : World} {g1 c1 g2 c2 : Nat} {N : Nat} {hv : List (Bool × List Int)} (h : RowsAt B w (.slice (some ⟨g1, 0, none⟩) N c1) (.slice (some ⟨g2, 0, none⟩) N c2) N hv) {k : Nat} {z : Bool × List Int} (hz : hv[k]? = some z) :
    w.cell? ⟨g1, k, none⟩ = some (.bool z.1) ∧ w.cell? ⟨g2, k, none⟩ = some (str (z.2.map letR)) := by
  have hk : k < N * 1 := by rw [← h.len, Nat.mul_one]; exact (List.getElem?_eq_some_iff.1 hz).1
  exact ⟨(h.bs.cellAt k hk).trans (rbs_get hz), (h.ss.cellAt k hk).trans (rss_get hz)⟩
theorem RowsAt.frozen {B : Nat} {w : World} {g1 c1 g2 c2 : Nat} {N : Nat} {hv : List (Bool × List Int)} (h : RowsAt B w (.slice (some ⟨g1, 0, none⟩) N c1) (.slice (some ⟨g2, 0, none⟩) N c2) N hv) (k : Nat) :
    w.frozen? ⟨g1, k, none⟩ = false ∧ w.frozen? ⟨g2, k, none⟩ = false := ⟨h.bs.frozenAt k, h.ss.frozenAt k⟩
theorem keeps_two (w : World) (g1 g2 o : Nat) (x y : Value) : Keeps (fun q => q = g1 ∨ q = g2) w ((w.setCell ⟨g1, o, none⟩ x).setCell ⟨g2, o, none⟩ y) :=
  Keeps.setCell (F := fun q => q = g1 ∨ q = g2) (p := ⟨g2, o, none⟩) (Keeps.setCell (F := fun q => q = g1 ∨ q = g2) (p := ⟨g1, o, none⟩) (Keeps.refl _ w) (fun _ => Or.inl rfl) x) (fun _ => Or.inr rfl) y
theorem RowsAt.put {B : Nat} {w : World} {g1 c1 g2 c2 : Nat} {N : Nat} {hv : List (Bool × List Int)} {z : Bool × List Int} (h : RowsAt B w (.slice (some ⟨g1, 0, none⟩) N c1) (.slice (some ⟨g2, 0, none⟩) N c2) N (hv ++ [z])) {p : Nat} (hp : hv.length = p) (st : List Int) :
    RowsAt B ((w.setCell ⟨g1, p, none⟩ (.bool true)).setCell ⟨g2, p, none⟩ (str (st.map letR))) (.slice (some ⟨g1, 0, none⟩) N c1) (.slice (some ⟨g2, 0, none⟩) N c2) N (hv ++ [(true, st)]) := by
  obtain ⟨_, _, hne⟩ := h.lt
  have h1 := (h.bs.stored p (.bool true)).1
  rw [rbs_set (y := (true, st)) hp] at h1
  have k1 : Keeps (fun q => q = g1) w (w.setCell ⟨g1, p, none⟩ (.bool true)) := Keeps.setCell (F := fun q => q = g1) (p := ⟨g1, p, none⟩) (Keeps.refl _ w) (fun _ => rfl) _
  have h2 := ownsRow_kept h.ss k1 (fun q e hq => hne (by simp [Value.ownBlock] at e; omega))
  have h3 := (h2.stored p (str (st.map letR))).1
  rw [rss_set (y := (true, st)) hp] at h3
  have k2 : Keeps (fun q => q = g2) (w.setCell ⟨g1, p, none⟩ (.bool true)) ((w.setCell ⟨g1, p, none⟩ (.bool true)).setCell ⟨g2, p, none⟩ (str (st.map letR))) := Keeps.setCell (F := fun q => q = g2) (p := ⟨g2, p, none⟩) (Keeps.refl _ _) (fun _ => rfl) _
  exact ⟨by simpa using h.len, ownsRow_kept h1 k2 (fun q e hq => hne (by simp [Value.ownBlock] at e; omega)), h3⟩
theorem owns_apart {w : World} {B C e f s r n m : Nat} {v u : Value} {xs ys : List Value} (h : w.ownsRow B e s v n xs) (k : w.ownsRow C f r u m ys) (hne : e ≠ f) : v.ownBlock = none ∨ v.ownBlock ≠ u.ownBlock := by
  rcases h.2 with ⟨h', _⟩ | ⟨g', cap', cur, h', _, hg, _⟩
  · left; rw [h']; rfl
  · right
    rw [h']
    intro q
    exact ownsRow_ne k hg hne q.symm
theorem rows_more {B : Nat} {w w1 w2 : World} {vr vh v1 v2 : Value} {p : Nat} {hv : List (Bool × List Int)} {o1 o2 : Obj} (h : RowsAt B w vr vh p hv) (h1 : w1.ownsRow B 4 1 v1 (p + 1) (rbs hv ++ [.bool false])) (g1 : (w.alloc o1).grownBy w1 vr.ownBlock) (h2 : w2.ownsRow B 9 1 v2 (p + 1) (rss hv ++ [.string ⟨#[]⟩])) (g2 : (w1.alloc o2).grownBy w2 vh.ownBlock) :
    RowsAt B w2 v1 v2 (p + 1) (hv ++ [(false, [])]) := by
  have hs1 : w1.ownsRow B 9 1 vh p (rss hv) := (h.ss.alloc o1).kept g1 (owns_apart h.ss h.bs (by decide))
  refine ⟨by simp [h.len], ?_, ?_⟩
  · have := (h1.alloc o2).kept g2 (owns_apart h1 hs1 (by decide))
    simpa [rbs] using this
  · simpa [rss, str] using h2
theorem good_nil (S : List FieldA) (l : List ValA) : GoodH S l [] := ⟨fun k z h => by simp at h, fun k st h => by simp at h⟩

end Go.Proofs.YtcfnlnceoalnoaaDoor
