import Derived.Test.YtklkhegeeglfbaaGreatDoorJzaa
import Derived.Test.YtklkhegeeglfbaaGreatDoorJzab
import Derived.Test.YtklkhegeeglfbaaGreatDoorJe
import Derived.Test.YtklkhegeeglfbaaGreatDoorJf
namespace Go.Proofs.YtklkhegeeglfbaaGreatDoor
open Go.RowKit Go.Maps

theorem headN_8 {l : List FieldA} {r : List ValA} (hl : l.length ≤ 8) (hr : r.length = l.length) : headN (bitsOf (l.zip r)) < 256 := by
  have h1 := headN_lt (bitsOf (l.zip r))
  have h2 : (bitsOf (l.zip r)).length ≤ 8 := by rw [bitsOf_length l r hr]; exact Nat.le_trans (opts_le l) hl
  have := pow2_le h2
  omega
theorem decP_of_enc {l : List FieldA} {r : List ValA} (hs : schemaB l = true) (he : errR l r = 0) (hI : InR r) : (encB l r).length ≥ headB l ∧ decP l (head0 l (encB l r)) ((encB l r).drop (headB l)) = some (r, 0, []) := by
  obtain ⟨_, hr, hf⟩ := errR_zero he
  have hl := (schemaB_len hs).2
  have hd := decP_enc l r 0 [] hr hf hI
  rw [Nat.mul_zero, Nat.add_zero, List.append_nil] at hd
  rcases headT_cases l r hr hl with ⟨hH, hT⟩ | ⟨hH, hT⟩
  · have hb0 : bitsOf (l.zip r) = [] := by
      unfold headT at hT
      split at hT
      · cases hT
      · rename_i h; exact List.eq_nil_of_length_eq_zero (by omega)
    have e : encB l r = r.flatMap enc1 := by unfold encB; rw [hT]; rfl
    have h0 : head0 l (encB l r) = headN (bitsOf (l.zip r)) := by unfold head0; rw [hH, hb0]; rfl
    rw [h0, hH, e]
    exact ⟨by omega, hd⟩
  · have e : encB l r = UInt8.ofNat (headN (bitsOf (l.zip r))) :: r.flatMap enc1 := by unfold encB; rw [hT]; rfl
    have h0 : head0 l (encB l r) = headN (bitsOf (l.zip r)) := by
      unfold head0
      rw [hH, e]
      simp only [Nat.zero_lt_one, if_true]
      exact ofNat_lt (headN_8 hl hr)
    rw [h0, hH, e]
    exact ⟨by simp, hd⟩
theorem decodeP_enc {l : List FieldA} {r : List ValA} (hs : schemaB l = true) (he : errR l r = 0) (hI : InR r) : decodeP l (encB l r) = some r := by
  obtain ⟨h1, h2⟩ := decP_of_enc hs he hI
  unfold decodeP
  rw [if_neg (by omega), h2]
  simp
theorem decodeP_some {l : List FieldA} {t : Txt} {r : List ValA} (h : decodeP l t = some r) : headB l ≤ t.length ∧ decP l (head0 l t) (t.drop (headB l)) = some (r, 0, []) := by
  unfold decodeP at h
  split at h
  · cases h
  · rename_i hl
    cases hd : decP l (head0 l t) (t.drop (headB l)) with
    | none => rw [hd] at h; cases h
    | some q =>
      rw [hd] at h
      simp only [Option.bind_some] at h
      split at h
      · rename_i hq
        simp only [Option.some.injEq] at h
        obtain ⟨q1, q2, q3⟩ := q
        simp only at hq h
        refine ⟨by omega, ?_⟩
        rw [hq.1, hq.2, h]
      · cases h
theorem errR_of {l : List FieldA} {r : List ValA} (hs : schemaB l = true) (hr : r.length = l.length) (hf : fitAll l r = true) : errR l r = 0 := by
  unfold errR recB
  rw [hs, if_pos rfl, decide_eq_true hr, hf]
  rfl
theorem decodeP_sound {l : List FieldA} {t : Txt} {r : List ValA} (hs : schemaB l = true) (h : decodeP l t = some r) : errR l r = 0 ∧ InR r ∧ encB l r = t := by
  obtain ⟨hH, hd⟩ := decodeP_some h
  obtain ⟨h1, h2, h3, h4, h5⟩ := decP_sound l _ _ r 0 [] (schemaB_ok hs) hd
  rw [Nat.mul_zero, Nat.add_zero] at h5
  rw [List.append_nil] at h4
  refine ⟨errR_of hs h1 h2, h3, ?_⟩
  unfold encB
  rcases headT_cases l r h1 (schemaB_len hs).2 with ⟨hh, hT⟩ | ⟨hh, hT⟩
  · rw [hT, ← h4, hh]
    rfl
  · rw [hT, ← h5]
    rw [hh] at hH h4
    cases t with
    | nil => simp at hH
    | cons c t' =>
      have : head0 l (c :: t') = c.toNat := by unfold head0; rw [hh]; rfl
      rw [this, ofNat_toNat, ← h4]
      rfl
theorem head0_app {l : List FieldA} {t x : Txt} (h : headB l ≤ t.length) : head0 l (t ++ x) = head0 l t := by
  unfold head0
  split
  · rename_i hp
    cases t with
    | nil => simp at h; omega
    | cons c t => rfl
  · rfl
theorem decodeP_more {l : List FieldA} {r : List ValA} (hs : schemaB l = true) (he : errR l r = 0) (hI : InR r) (x : UInt8) : decodeP l (encB l r ++ [x]) = none := by
  obtain ⟨h1, h2⟩ := decP_of_enc hs he hI
  have h3 := decP_app _ _ _ _ _ _ [x] h2
  unfold decodeP
  rw [if_neg (by rw [List.length_append]; omega), head0_app h1, List.drop_append_of_le_length h1, h3]
  simp
theorem decodeP_less {l : List FieldA} {r : List ValA} (hs : schemaB l = true) (he : errR l r = 0) (hI : InR r) {n : Nat} (hn : n < (encB l r).length) : decodeP l ((encB l r).take n) = none := by
  obtain ⟨h1, h2⟩ := decP_of_enc hs he hI
  cases hd : decodeP l ((encB l r).take n) with
  | none => rfl
  | some r' =>
    exfalso
    obtain ⟨hH, hd'⟩ := decodeP_some hd
    have h3 := decP_app _ _ _ _ _ _ ((encB l r).drop n) hd'
    have e1 : head0 l ((encB l r).take n) = head0 l (encB l r) := by
      have := head0_app (l := l) (t := (encB l r).take n) (x := (encB l r).drop n) hH
      rw [List.take_append_drop] at this
      exact this.symm
    rw [e1, ← List.drop_append_of_le_length hH, List.take_append_drop, h2] at h3
    simp only [Option.some.injEq, Prod.mk.injEq, List.nil_append] at h3
    have := congrArg List.length h3.2.2
    simp at this
    omega

/-- Schemas as Shaped makes them. -/
structure ShapeOK (L : List FieldA) (W : Int) : Prop where
  len : L.length ≤ 8
  fld : ∀ (j : Nat) (f : FieldA), L[j]? = some f → f.name = [102, UInt8.ofNat (97 + j)] ∧ (f.type = 1 ∨ f.type = 2 ∨ f.type = 3)
  wid : W = 1 + wides L
  le : W ≤ 64
theorem shapeF_type (n : Int) (j : Nat) : (shapeF n j).type = 1 ∨ (shapeF n j).type = 2 ∨ (shapeF n j).type = 3 := by
  unfold shapeF
  simp only
  omega
theorem shapedGo_ok : ∀ (ns : List Int) (L : List FieldA) (W : Int), ShapeOK L W → ∃ W', ShapeOK (shapedGo ns L W) W'
  | [], L, W, h => ⟨W, h⟩
  | n :: r, L, W, h => by
    rw [shapedGo]
    split
    · exact ⟨W, h⟩
    · rename_i h8
      split
      · rename_i hw
        refine shapedGo_ok r _ _ ⟨by simp; omega, ?_, ?_, hw⟩
        · intro j f hf
          by_cases hj : j < L.length
          · rw [List.getElem?_append_left hj] at hf
            exact h.fld j f hf
          · rw [List.getElem?_append_right (by omega)] at hf
            have hj2 : j = L.length := by
              have := get_lt hf
              simp at this
              omega
            subst hj2
            simp at hf
            subst hf
            exact ⟨rfl, shapeF_type n _⟩
        · rw [h.wid, wides_snoc]
          omega
      · exact shapedGo_ok r L W h
theorem shapedB_ok (ns : List Int) : ∃ W, ShapeOK (shapedGo ns [] 1) W := shapedGo_ok ns [] 1 ⟨by simp, by simp, by simp [wides], by omega⟩
theorem name_ok (j : Nat) (hj : j < 8) : nameB [102, UInt8.ofNat (97 + j)] = true := by
  have : ∀ j : Fin 8, nameB [102, UInt8.ofNat (97 + j.1)] = true := by decide +kernel
  exact this ⟨j, hj⟩
theorem schemaB_shape {L : List FieldA} {W : Int} (h : ShapeOK L W) (h0 : L ≠ []) : schemaB L = true := by
  have h1 : 1 ≤ L.length := by
    cases L with
    | nil => exact absurd rfl h0
    | cons a b => simp
  have hnd : (L.map FieldA.name).Nodup := by
    rw [List.nodup_iff_pairwise_ne, List.pairwise_iff_getElem]
    intro i j hi hj hij
    simp only [List.length_map] at hi hj
    have hli := h.len
    have e1 := (h.fld i L[i] (List.getElem?_eq_getElem hi)).1
    have e2 := (h.fld j L[j] (List.getElem?_eq_getElem hj)).1
    simp only [List.getElem_map]
    rw [e1, e2]
    intro e
    simp only [List.cons.injEq, and_true, true_and] at e
    have := congrArg UInt8.toNat e
    rw [ofNat_lt (by omega), ofNat_lt (by omega)] at this
    omega
  have hok : L.all fieldOK = true := by
    rw [List.all_eq_true]
    intro f hf
    obtain ⟨j, hj⟩ := List.getElem?_of_mem hf
    have hjl := get_lt hj
    have hl := h.len
    obtain ⟨e1, e2⟩ := h.fld j f hj
    unfold fieldOK
    rw [e1, name_ok j (by omega)]
    rcases e2 with e2 | e2 | e2 <;> rw [e2] <;> rfl
  rw [schemaB_end h1 h.len hok hnd]
  refine decide_eq_true ?_
  have hh : headB L ≤ 1 := by
    have h1 := opts_le L
    have h2 := h.len
    unfold headB
    omega
  have := h.wid
  have := h.le
  unfold widthB
  omega
theorem schemaB_shaped (ns : List Int) : schemaB (shapedB ns) = true := by
  unfold shapedB
  split
  · decide +kernel
  · rename_i h
    obtain ⟨W, hW⟩ := shapedB_ok ns
    exact schemaB_shape hW h

theorem fittedB_fits {f : FieldA} (hf : f.type = 1 ∨ f.type = 2 ∨ f.type = 3) (x : ValA) : fitsB f (fittedB f x) = true := by
  unfold fittedB
  split
  · rename_i h
    simp [fitsB, h.1]
  · rcases hf with h | h | h
    · simp [fitsB, h]
    · have : x.n % 2 = 0 ∨ x.n % 2 = 1 := by omega
      rcases this with e | e <;> simp [fitsB, h, e]
    · simp [fitsB, h]; omega
theorem fittedTo_get {l : List FieldA} {vs : List ValA} : ∀ (k : Nat), k ≤ l.length → ∀ (j : Nat) (f : FieldA), j < k → l[j]? = some f → (fittedTo l vs k)[j]? = some (fittedB f (valAt vs j))
  | 0, _, j, f, hj, _ => by omega
  | k + 1, hk, j, f, hj, hf => by
    obtain ⟨g, hg⟩ : ∃ g, l[k]? = some g := ⟨_, List.getElem?_eq_getElem (by omega)⟩
    rw [fittedTo_snoc hg]
    have hlen := fittedTo_length l vs k (by omega)
    by_cases h : j < k
    · rw [List.getElem?_append_left (by omega)]
      exact fittedTo_get k (by omega) j f h hf
    · have : j = k := by omega
      subst this
      rw [List.getElem?_append_right (by omega), hlen]
      rw [hg] at hf
      simp at hf
      simp [hf]
theorem FittedB_length (l : List FieldA) (vs : List ValA) : (FittedB l vs).length = l.length := fittedTo_length l vs l.length (Nat.le_refl _)
theorem FittedB_fits {l : List FieldA} (hs : schemaB l = true) (vs : List ValA) : errR l (FittedB l vs) = 0 := by
  refine errR_of hs (FittedB_length l vs) ?_
  unfold fitAll
  rw [List.all_eq_true]
  intro p hp
  obtain ⟨j, hj⟩ := List.getElem?_of_mem hp
  rw [List.getElem?_zip_eq_some] at hj
  obtain ⟨h1, h2⟩ := hj
  have h3 := fittedTo_get (vs := vs) l.length (Nat.le_refl _) j p.1 (get_lt h1) h1
  unfold FittedB at h2
  rw [h3] at h2
  simp only [Option.some.injEq] at h2
  rw [← h2]
  exact fittedB_fits (type_of (List.all_eq_true.1 (schemaB_ok hs) p.1 (List.mem_of_getElem? h1))) _
theorem valAt_in {vs : List ValA} (hI : InR vs) (k : Nat) : -9223372036854775808 ≤ (valAt vs k).n ∧ (valAt vs k).n ≤ 9223372036854775807 := by
  unfold valAt
  cases h : vs[k]? with
  | none => simp [zeroVal]
  | some x => exact hI x (List.mem_of_getElem? h)
theorem FittedB_in {l : List FieldA} {vs : List ValA} (hI : InR vs) : InR (FittedB l vs) := by
  intro y hy
  obtain ⟨j, hj⟩ := List.getElem?_of_mem hy
  have hjl := get_lt hj
  rw [FittedB_length] at hjl
  have h3 := fittedTo_get (vs := vs) l.length (Nat.le_refl _) j l[j] hjl (List.getElem?_eq_getElem hjl)
  unfold FittedB at hj
  rw [h3] at hj
  simp only [Option.some.injEq] at hj
  subst hj
  have := valAt_in hI j
  unfold fittedB
  repeat' split
  all_goals simp only
  all_goals omega

end Go.Proofs.YtklkhegeeglfbaaGreatDoor
namespace Go.Proofs.YtklkhegeeglfbaaGreatDoor
open Go.RowKit Go.Maps

def hexD (n : Nat) : UInt8 := if n < 10 then UInt8.ofNat (48 + n) else UInt8.ofNat (87 + n)
/-- A byte as it stands in a literal. -/
def quote1 (c : UInt8) : Txt := if c = 34 ∨ c = 92 then [92, c] else if 32 ≤ c.toNat ∧ c.toNat ≤ 126 then [c] else [92, 120, hexD (c.toNat / 16), hexD (c.toNat % 16)]
def quoteB (t : Txt) : Txt := 34 :: (t.flatMap quote1 ++ [34])
theorem quote1_le (c : UInt8) : (quote1 c).length ≤ 4 := by unfold quote1; repeat' split
                                                            all_goals simp
def digs : Txt := [48, 49, 50, 51, 52, 53, 54, 55, 56, 57, 97, 98, 99, 100, 101, 102]
theorem digs_at : ∀ n, n < 16 → digs[n]? = some (hexD n) := by decide +kernel
def quoteTo (t : Txt) (k : Nat) : Txt := 34 :: (t.take k).flatMap quote1
theorem quoteTo_snoc {t : Txt} {k : Nat} {c : UInt8} (h : t[k]? = some c) : quoteTo t (k + 1) = quoteTo t k ++ quote1 c := by
  unfold quoteTo
  rw [take_snoc _ _ _ h, List.flatMap_append]
  simp
theorem flat_le4 : ∀ l : Txt, (l.flatMap quote1).length ≤ 4 * l.length
  | [] => by simp
  | c :: r => by
    have h1 := flat_le4 r
    have h2 := quote1_le c
    simp only [List.flatMap_cons, List.length_append, List.length_cons]
    omega
theorem quoteTo_le (t : Txt) : ∀ k, (quoteTo t k).length ≤ 1 + 4 * k := by
  intro k
  unfold quoteTo
  have h := flat_le4 (t.take k)
  rw [List.length_take] at h
  simp only [List.length_cons]
  have : 4 * min k t.length ≤ 4 * k := Nat.mul_le_mul_left _ (Nat.min_le_left _ _)
  omega

/-- One byte more behind a slice that was begun behind W0. -/
theorem wp_app1 {ops : Array Oper} {rest : List Oper} {o : Oper} {a : Act} {Q : Exit → Act → World → Prop} (hgd : o.guard = none) (s x : Operand)
    (ho : o.op = .call { callee := .builtin .append, args := #[s, x], argTypes := #[30, 30] }) {W0 wr : World} {v : Value} {n : Nat} {xs : List Value} {y : Int} (hs : a.eval s = v) (hx : a.eval x = .slice (some ⟨wr.heap.size, 0, none⟩) 1 1)
    (hown : wr.ownsRow W0.heap.size 5 1 v n xs) (hk : Keeps (fun _ => False) W0 wr) (hn : n ≤ 17592186044416)
    (h : ∀ g c w', w'.ownsRow W0.heap.size 5 1 (.slice (some ⟨g, 0, none⟩) (n + 1) c) (n + 1) (xs ++ [.int .u8 y]) → Keeps (fun _ => False) W0 w' → wpList Tryz.prog ops Q rest (a.put o.dst (.slice (some ⟨g, 0, none⟩) (n + 1) c)) w') :
    wpList Tryz.prog ops Q (o :: rest) a (wr.alloc (.cells #[.int .u8 y] 5)) := by
  obtain ⟨i0, hi, hz0, hz1, hz2⟩ := info_parts Tryz.info5
  refine wpList_append_lies _ hgd s x 30 ho W0.heap.size 5 i0 _ 1 1 Tryz.underlying30 hi hz0 hz1 hz2 rfl (by omega) v n xs hs (hown.alloc _) ⟨wr.heap.size, 0, none⟩ 1 1 [.int .u8 y] hx rfl (World.news_of_block (cs := #[.int .u8 y]) (t := 5) (fr := (0, 0)) (heap_alloc_new wr _)) (by simp [Value.oneCell']) (by omega) (by unfold maxLen; omega) (by omega) (by have := hk.size; simp; omega) (wr.heap.size + 1) (by simp) ?_
  intro g c w' h1 h2 h3 h4
  exact h g c w' h1 ((hk.alloc _).grown h2 (fun q e hq => by have := (hown.lt q e).1; omega))

theorem quote1_num (c : UInt8) (n1 n2 : Nat) (h1 : n1 = c.toNat / 16) (h2 : n2 = c.toNat % 16) : quote1 c = if num c = 34 ∨ num c = 92 then [92, c] else if 32 ≤ num c ∧ num c ≤ 126 then [c] else [92, 120, hexD n1, hexD n2] := by
  subst h1 h2
  unfold quote1
  have e34 : (c = 34) ↔ num c = 34 := ⟨fun e => by rw [e]; rfl, fun e => num_inj (a := c) (b := 34) e⟩
  have e92 : (c = 92) ↔ num c = 92 := ⟨fun e => by rw [e]; rfl, fun e => num_inj (a := c) (b := 92) e⟩
  have e3 : (32 ≤ c.toNat ∧ c.toNat ≤ 126) ↔ (32 ≤ num c ∧ num c ≤ 126) := by unfold num; omega
  simp only [e34, e92, e3]
theorem own_str {w5 : World} {B g n c : Nat} {A : Txt} {d : UInt8} {y : Int} (h : w5.ownsRow B 5 1 (.slice (some ⟨g, 0, none⟩) n c) n (bs A ++ [.int .u8 y])) (hd : num d = y) : ∀ j x, (A ++ [d])[j]? = some x → w5.cell? ⟨g, j, none⟩ = some (.int .u8 (num x)) := by
  intro j x hj
  have h1 := h.cells (g := g) rfl j (.int .u8 (num x)) (by
    rw [show bs A ++ [.int .u8 y] = bs (A ++ [d]) by simp [bs, hd], bs_get, hj]; rfl)
  rwa [Addr.add_lit, Nat.zero_add] at h1

theorem conv_own {w5 : World} {B g c : Nat} {A : Txt} {d : UInt8} {y : Int} (h : w5.ownsRow B 5 1 (.slice (some ⟨g, 0, none⟩) (A.length + 1) c) (A.length + 1) (bs A ++ [.int .u8 y])) (hd : num d = y) : (convert 30 9 (.slice (some ⟨g, 0, none⟩) (A.length + 1) c)).run Tryz.prog w5 = .ok (str (A ++ [d])) w5 := by
  have hcv := conv_bytes w5 g c (A ++ [d]) (own_str h hd)
  rwa [show (A ++ [d]).length = A.length + 1 by simp] at hcv
theorem q_fin {t A E : Txt} {k g1 c1 n : Nat} {c : UInt8} {w w5 : World} {xs : List Value} (hA : A = quoteTo t k) (hS : quoteTo t (k + 1) = quoteTo t k ++ quote1 c) (hE : quote1 c = E) (hO : w5.ownsRow w.heap.size 5 1 (.slice (some ⟨g1, 0, none⟩) n c1) n xs) (hn : n = A.length + E.length) (hxs : xs = bs A ++ bs E) :
    ∃ A' : Txt, A' = quoteTo t (k + 1) ∧ n = A'.length ∧ w5.ownsRow w.heap.size 5 1 (.slice (some ⟨g1, 0, none⟩) A'.length c1) A'.length (bs A') := by
  have hl : n = (A ++ E).length := by rw [hn, List.length_append]
  refine ⟨A ++ E, by rw [hS, hE, hA], hl, ?_⟩
  rw [← hl, show bs (A ++ E) = xs by rw [hxs]; simp [bs]]
  exact hO

end Go.Proofs.YtklkhegeeglfbaaGreatDoor
