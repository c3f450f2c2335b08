import Derived.Test.YtabjomgikljdhaaDoorJzab
import Derived.Test.YtabjomgikljdhaaDoorJb
import Derived.Test.YtabjomgikljdhaaDoorJa
namespace Go.Proofs.YtabjomgikljdhaaDoor
open Go.ChangeShapes Go.WideShapes Go.ChangeAt Go.RowKit Go.Deep

theorem flat_at {α : Type} (g : α → List Value) (sz : Nat) (hs : 0 < sz) (hg : ∀ x, (g x).length = sz) : ∀ (l : List α) (j : Nat), (l.flatMap g)[j]? = (l[j / sz]?).bind fun x => (g x)[j % sz]?
  | [], j => by simp
  | y :: r, j => by
    simp only [List.flatMap_cons]
    by_cases h : j < sz
    · rw [List.getElem?_append_left (by rw [hg]; exact h), Nat.div_eq_of_lt h, Nat.mod_eq_of_lt h]
      rfl
    · rw [List.getElem?_append_right (by rw [hg]; omega), hg, flat_at g sz hs hg r (j - sz)]
      have h1 : j / sz = (j - sz) / sz + 1 := by rw [Nat.div_eq j sz, if_pos ⟨hs, by omega⟩]
      have h2 : j % sz = (j - sz) % sz := Nat.mod_eq_sub_mod (by omega)
      rw [h1, h2]
      rfl

instance : Inhabited FieldA := ⟨⟨[], 0, false⟩⟩
instance : Inhabited ValA := ⟨⟨0, 0, []⟩⟩

section
variable {H : Type} {enc : TypeId × Value → H} {W : World} {fuel : Nat}

/-- A slice, opened element by element. -/
theorem rowsOf {α : Type} [Inhabited α] (g : α → List Value) (sz : Nat) (hs : 0 < sz) (hg : ∀ x, (g x).length = sz) {t e : TypeId} (ht : Tryd.prog.underlying t = some (.slice e)) (hc : Tryd.prog.cellsOf e = sz) {Q : α → Prop}
    (el : ∀ (fuel : Nat) (cs : List Value) (x : DataW H × List MemPlace), DataW.trod enc Tryd.prog W 0 (fun _ => true) true fuel e cs = some x → ∃ a, cs = g a ∧ Q a)
    {c : Value} {x : DataW H × List MemPlace} (h : DataW.trod enc Tryd.prog W 0 (fun _ => true) true fuel t [c] = some x) :
    ∃ l : List α, RowAt W c l.length (l.flatMap g) ∧ ∀ a ∈ l, Q a := by
  rcases open_slice ht h with ⟨hcs, _⟩ | ⟨a, len, cap, m, n, D, Pl, hcs, _, hl, hm, hmm, hx, hel⟩
  · simp at hcs
    subst hcs
    exact ⟨[], ⟨⟨_, _, rfl⟩, fun h0 => by simp at h0, fun ao m cap e => by simp at e; omega⟩, fun _ h => by cases h⟩
  · simp at hcs
    subst hcs
    simp at hmm
    rw [hc] at hel
    have hev : ∀ i, i < len → ∃ p : α, (∀ j v, (g p)[j]? = some v → W.cell? ((a.add (i * sz)).add j) = some v) ∧ Q p := by
      intro i hi
      obtain ⟨cs', hcs', htr⟩ := hel i (by omega)
      obtain ⟨p, rfl, hq⟩ := el _ _ _ htr
      obtain ⟨_, _, hcc⟩ := World.cells?_some hcs'
      refine ⟨p, fun j v hv => ?_, hq⟩
      have hj := (List.getElem?_eq_some_iff.1 hv).1
      have := hcc j (by rw [hg] at hj; omega)
      rw [this]
      simpa using hv
    obtain ⟨f, hf⟩ := choose_lt hev
    refine ⟨(List.range len).map f, ⟨⟨_, _, by simp; exact ⟨rfl, rfl⟩⟩, fun h0 => ?_, fun ao m cap' e => by simp at e; omega⟩, ?_⟩
    · simp at h0
      have hg0 : 0 < (g (f 0)).length := by rw [hg]; exact hs
      have hc0 := (hf 0 h0).1 0 _ (List.getElem?_eq_getElem hg0)
      have hspot : a.spot = none := by
        have := World.cell?_spot hc0
        simpa [Addr.add] using this
      obtain ⟨b, off, spot⟩ := a
      simp at hspot
      subst hspot
      refine ⟨b, off, cap, by simp, ?_, fun j v hv => ?_⟩
      · have := World.block_lt_of_cell? W _ hc0
        simpa [Addr.add] using this
      · rw [flat_at g sz hs hg] at hv
        cases hi : ((List.range len).map f)[j / sz]? with
        | none => rw [hi] at hv; cases hv
        | some p =>
          rw [hi] at hv
          have hil : j / sz < len := by
            have := (List.getElem?_eq_some_iff.1 hi).1
            simpa using this
          have hpe : f (j / sz) = p := by simpa [hil] using hi
          have := (hf (j / sz) hil).1 (j % sz) v (by rw [hpe]; exact hv)
          simp only [Addr.add_lit] at this
          rw [show off + j = off + j / sz * sz + j % sz by have := Nat.div_add_mod j sz; rw [Nat.mul_comm] at this; omega]
          exact this
    · intro y hy
      obtain ⟨i, hi, rfl⟩ := List.mem_map.1 hy
      exact (hf i (List.mem_range.1 hi)).2

theorem trod_s3 {P : Program} {t : TypeId} {f0 f1 f2 : Field} {cs : List Value} {x : DataW H × List MemPlace} (ht : P.underlying t = some (.struct #[f0, f1, f2])) (h : DataW.trod enc P W 0 (fun _ => true) true fuel t cs = some x) :
    ∃ (y0 y1 y2 : DataW H × List MemPlace) (n : Nat), x.1 = .agg [y0.1, y1.1, y2.1] ∧ cs.length = P.cellsOf t ∧ DataW.trod enc P W 0 (fun _ => true) true n f0.type ((cs.drop f0.offset).take (P.cellsOf f0.type)) = some y0 ∧
      DataW.trod enc P W 0 (fun _ => true) true n f1.type ((cs.drop f1.offset).take (P.cellsOf f1.type)) = some y1 ∧ DataW.trod enc P W 0 (fun _ => true) true n f2.type ((cs.drop f2.offset).take (P.cellsOf f2.type)) = some y2 := by
  obtain ⟨xs, n, _, rfl, hl, hlen, hf⟩ := DataW.trod_struct ht h
  match xs, hlen with
  | [y0, y1, y2], _ => exact ⟨y0, y1, y2, n, by simp, hl, by simpa using hf 0 f0 rfl, by simpa using hf 1 f1 rfl, by simpa using hf 2 f2 rfl⟩
set_option maxRecDepth 100000 in
theorem val_of {cs : List Value} {x : DataW H × List MemPlace} (h : DataW.trod enc Tryd.prog W 0 (fun _ => true) true fuel 54 cs = some x) : ∃ f : ValA, cs = f.cs ∧ (-9223372036854775808 ≤ f.n ∧ f.n ≤ 9223372036854775807) := by
  obtain ⟨y0, y1, y2, n, hx, hl, h0, h1, h2⟩ := trod_s3 Tryd.underlying54 h
  have hl' : cs.length = 3 := hl.trans e54
  clear hl
  match cs, hl' with
  | [c0, c1, c2], _ =>
    rw [show Tryd.prog.cellsOf _ = 1 from e3] at h0
    rw [show Tryd.prog.cellsOf _ = 1 from e2] at h1
    rw [show Tryd.prog.cellsOf _ = 1 from e9] at h2
    obtain ⟨k, q0, _, _⟩ := DataW.trod_int Tryd.underlying3 h0
    obtain ⟨i, q1, _, hw⟩ := DataW.trod_int Tryd.underlying2 h1
    obtain ⟨s, q2, _, _⟩ := DataW.trod_string Tryd.underlying9 h2
    simp at q0 q1 q2
    exact ⟨⟨k, i, s.data.toList⟩, by rw [q0, q1, q2, str_of]; rfl, i64_hi hw⟩
theorem byte_of {cs : List Value} {x : DataW H × List MemPlace} (h : DataW.trod enc Tryd.prog W 0 (fun _ => true) true fuel 5 cs = some x) : ∃ c : UInt8, cs = [.int .u8 (num c)] ∧ True := by
  obtain ⟨b, rfl, _, hw⟩ := DataW.trod_int Tryd.underlying5 h
  have := u8_in hw
  exact ⟨UInt8.ofNat b.toNat, by rw [num_of _ (by omega), Int.toNat_of_nonneg this.1], trivial⟩
theorem int_of {cs : List Value} {x : DataW H × List MemPlace} (h : DataW.trod enc Tryd.prog W 0 (fun _ => true) true fuel 3 cs = some x) : ∃ c : Int, cs = [.int .i64 c] ∧ True := by
  obtain ⟨b, rfl, _, hw⟩ := DataW.trod_int Tryd.underlying3 h
  exact ⟨b, rfl, trivial⟩
theorem bs_flat : ∀ l : Txt, bs l = l.flatMap (fun c : UInt8 => [Value.int .u8 (num c)])
  | [] => rfl
  | c :: r => by
    have := bs_flat r
    unfold bs at this ⊢
    simp only [List.map_cons, List.flatMap_cons, this]
    rfl

theorem slice_size {t e : TypeId} {B : Nat} {c : Value} {x : DataW H × List MemPlace} (ht : Tryd.prog.underlying t = some (.slice e)) (hb : Tryd.prog.bytesOf e = B) (hB : 0 < B) (h : DataW.trod enc Tryd.prog W 0 (fun _ => true) true fuel t [c] = some x) (hw : ∀ n ∈ x.1.weights Tryd.prog t, n ≤ reachBytes) :
    ∃ a0 len cap, c = .slice a0 len cap ∧ len ≤ 140737488351232 := by
  rcases open_slice ht h with ⟨hcs, _⟩ | ⟨a, l, cp, m, n, D, Pl, hcs, _, hl, hm, hmm, hx, hel⟩
  · simp at hcs
    exact ⟨_, _, _, hcs, by omega⟩
  · simp at hcs
    refine ⟨_, _, _, hcs, ?_⟩
    have := hw _ (by rw [hx]; simp only [DataW.weights, ht]; exact List.mem_cons_self)
    rw [hb] at this
    simp [reachBytes] at this
    have h2 := Nat.le_trans (Nat.le_mul_of_pos_right _ hB) this
    omega

theorem vals_in {c : Value} {x : DataW H × List MemPlace} (h : DataW.trod enc Tryd.prog W 0 (fun _ => true) true fuel 23 [c] = some x) : ∃ l : List ValA, ValsAt W c l ∧ ∀ y ∈ l, -9223372036854775808 ≤ y.n ∧ y.n ≤ 9223372036854775807 :=
  rowsOf ValA.cs 3 (by omega) (fun _ => rfl) Tryd.underlying23 e54 (fun _ _ _ h => val_of h) h
theorem bytes_in {c : Value} {x : DataW H × List MemPlace} (h : DataW.trod enc Tryd.prog W 0 (fun _ => true) true fuel 24 [c] = some x) : ∃ l : Txt, BytesAt W c l := by
  obtain ⟨l, hl, _⟩ := rowsOf (fun c : UInt8 => [Value.int .u8 (num c)]) 1 (by omega) (fun _ => rfl) Tryd.underlying24 e5 (Q := fun _ => True) (fun _ _ _ h => byte_of h) h
  exact ⟨l, by unfold BytesAt; rw [bs_flat]; exact hl⟩
theorem ints_in {c : Value} {x : DataW H × List MemPlace} (h : DataW.trod enc Tryd.prog W 0 (fun _ => true) true fuel 22 [c] = some x) : ∃ l : List Int, RowAt W c l.length (l.map fun n => Value.int .i64 n) := by
  obtain ⟨l, hl, _⟩ := rowsOf (fun c : Int => [Value.int .i64 c]) 1 (by omega) (fun _ => rfl) Tryd.underlying22 e3 (Q := fun _ => True) (fun _ _ _ h => int_of h) h
  refine ⟨l, ?_⟩
  have e : (l.map fun n => Value.int .i64 n) = l.flatMap (fun c : Int => [Value.int .i64 c]) := by
    clear hl
    induction l with
    | nil => rfl
    | cons a r ih => simp [ih]
  rw [e]
  exact hl
end

end Go.Proofs.YtabjomgikljdhaaDoor
namespace Go.Proofs.YtabjomgikljdhaaDoor
open Go.RowKit Go.Maps

def decN (u : Nat) : Txt := if _h : u = 0 then [] else decN (u / 10) ++ [UInt8.ofNat (48 + u % 10)]
def decimal (n : Int) : Txt := if n = 0 then [48] else if n < 0 then 45 :: decN n.natAbs else decN n.natAbs

theorem decN_zero : decN 0 = [] := by unfold decN; simp
theorem decN_pos {u : Nat} (h : 0 < u) : decN u = decN (u / 10) ++ [UInt8.ofNat (48 + u % 10)] := by
  rw [decN, dif_neg (by omega)]
theorem decN_length (k : Nat) : ∀ u, u < 10 ^ k → (decN u).length ≤ k := by
  induction k with
  | zero => intro u h; simp at h; subst h; simp [decN_zero]
  | succ k ih =>
    intro u h
    by_cases h0 : u = 0
    · subst h0; simp [decN_zero]
    · rw [decN_pos (by omega)]
      have := ih (u / 10) (by rw [Nat.pow_succ] at h; omega)
      simp; omega
theorem decN_20 (u : Nat) (h : u ≤ 9223372036854775808) : (decN u).length ≤ 19 := decN_length 19 u (by omega)

theorem conv_bytes (w : World) (b cap : Nat) (l : Txt) (h : ∀ j c, l[j]? = some c → w.cell? ⟨b, j, none⟩ = some (.int .u8 (num c))) :
    (convert 24 9 (.slice (some ⟨b, 0, none⟩) l.length cap)).run Tryd.prog w = .ok (str l) w :=
  run_convert_bytes_back w 24 9 5 ⟨b, 0, none⟩ cap l Tryd.underlying24 Tryd.underlying5 Tryd.underlying9 (fun j hj => by
    have := h j l[j] (List.getElem?_eq_getElem hj)
    rw [Addr.add_lit]
    simpa [num] using this)

theorem add_str (w : World) (a b : Txt) (h : a.length + b.length ≤ 9223372036854775807) : (Op.stringOp .add ⟨a.toArray⟩ ⟨b.toArray⟩).run Tryd.prog w = .ok (str (a ++ b)) w := by
  have ha : (ByteArray.mk a.toArray).size = a.length := rfl
  have hb : (ByteArray.mk b.toArray).size = b.length := rfl
  rw [run_string_add_sum w _ _ (by omega), ByteArray.mk_append_mk]

theorem digit_num (u : Nat) : num (UInt8.ofNat (48 + u % 10)) = 48 + (u : Int) % 10 := by
  unfold num
  rw [UInt8.toNat_ofNat']
  have : u % 10 < 10 := Nat.mod_lt _ (by decide)
  omega
theorem decN_digit {u : Nat} (h : 0 < u) : ∃ c, num c = 48 + (u : Int) % 10 ∧ decN u = decN (u / 10) ++ [c] := ⟨_, digit_num u, decN_pos h⟩

/-- The start of a decimal's loop. -/
def startU (n : Int) : Int := if n < 0 then IntKind.u64.wrap (-IntKind.u64.wrap n) else IntKind.u64.wrap n
theorem startU_eq (n : Int) (h0 : -9223372036854775808 ≤ n) (h1 : n ≤ 9223372036854775807) : startU n = (n.natAbs : Int) := by
  unfold startU
  rw [IntKind.wrap_u64, IntKind.wrap_u64]
  split <;> omega

end Go.Proofs.YtabjomgikljdhaaDoor
namespace Go.Proofs.YtabjomgikljdhaaDoor
open Go.RowKit Go.Maps

/-- The value of a field at a place of some bytes, and the place behind it (-1: the bytes end too early). -/
def readB (f : FieldA) (t : Txt) (a : Nat) : ValA × Int :=
  if f.type = 1 then (⟨1, (readIntB t a).1, []⟩, (readIntB t a).2)
  else match t[a]? with
    | none => (⟨0, 0, []⟩, -1)
    | some c =>
      if f.type = 2 then (⟨2, num c, []⟩, (a + 1 : Nat))
      else if t.length < a + 1 + c.toNat then (⟨0, 0, []⟩, -1)
      else (⟨3, 0, (t.drop (a + 1)).take c.toNat⟩, (a + 1 + c.toNat : Nat))

theorem conv_at (w : World) (b off cap : Nat) (l : Txt) (h : ∀ j c, l[j]? = some c → w.cell? ⟨b, off + j, none⟩ = some (.int .u8 (num c))) :
    (convert 24 9 (.slice (some ⟨b, off, none⟩) l.length cap)).run Tryd.prog w = .ok (str l) w :=
  run_convert_bytes_back w 24 9 5 ⟨b, off, none⟩ cap l Tryd.underlying24 Tryd.underlying5 Tryd.underlying9 (fun j hj => by
    have := h j l[j] (List.getElem?_eq_getElem hj)
    rw [Addr.add_lit]
    simpa [num] using this)

end Go.Proofs.YtabjomgikljdhaaDoor
namespace Go.Proofs.YtabjomgikljdhaaDoor
open Go.RowKit Go.Maps

def hexD (n : Nat) : UInt8 := if n < 10 then UInt8.ofNat (48 + n) else UInt8.ofNat (87 + n)
/-- A byte as it stands in a literal. -/
def quote1 (c : UInt8) : Txt := if c = 34 ∨ c = 92 then [92, c] else if 32 ≤ c.toNat ∧ c.toNat ≤ 126 then [c] else [92, 120, hexD (c.toNat / 16), hexD (c.toNat % 16)]
def quoteB (t : Txt) : Txt := 34 :: (t.flatMap quote1 ++ [34])
theorem quote1_le (c : UInt8) : (quote1 c).length ≤ 4 := by unfold quote1; repeat' split
                                                            all_goals simp
def digs : Txt := [48, 49, 50, 51, 52, 53, 54, 55, 56, 57, 97, 98, 99, 100, 101, 102]
theorem digs_at : ∀ n, n < 16 → digs[n]? = some (hexD n) := by decide +kernel
def quoteTo (t : Txt) (k : Nat) : Txt := 34 :: (t.take k).flatMap quote1
theorem quoteTo_snoc {t : Txt} {k : Nat} {c : UInt8} (h : t[k]? = some c) : quoteTo t (k + 1) = quoteTo t k ++ quote1 c := by
  unfold quoteTo
  rw [take_snoc _ _ _ h, List.flatMap_append]
  simp
theorem flat_le4 : ∀ l : Txt, (l.flatMap quote1).length ≤ 4 * l.length
  | [] => by simp
  | c :: r => by
    have h1 := flat_le4 r
    have h2 := quote1_le c
    simp only [List.flatMap_cons, List.length_append, List.length_cons]
    omega
theorem quoteTo_le (t : Txt) : ∀ k, (quoteTo t k).length ≤ 1 + 4 * k := by
  intro k
  unfold quoteTo
  have h := flat_le4 (t.take k)
  rw [List.length_take] at h
  simp only [List.length_cons]
  have : 4 * min k t.length ≤ 4 * k := Nat.mul_le_mul_left _ (Nat.min_le_left _ _)
  omega

/-- One byte more behind a slice that was begun behind W0. -/
theorem wp_app1 {ops : Array Oper} {rest : List Oper} {o : Oper} {a : Act} {Q : Exit → Act → World → Prop} (hgd : o.guard = none) (s x : Operand)
    (ho : o.op = .call { callee := .builtin .append, args := #[s, x], argTypes := #[24, 24] }) {W0 wr : World} {v : Value} {n : Nat} {xs : List Value} {y : Int} (hs : a.eval s = v) (hx : a.eval x = .slice (some ⟨wr.heap.size, 0, none⟩) 1 1)
    (hown : wr.ownsRow W0.heap.size 5 1 v n xs) (hk : Keeps (fun _ => False) W0 wr) (hn : n ≤ 17592186044416)
    (h : ∀ g c w', w'.ownsRow W0.heap.size 5 1 (.slice (some ⟨g, 0, none⟩) (n + 1) c) (n + 1) (xs ++ [.int .u8 y]) → Keeps (fun _ => False) W0 w' → wpList Tryd.prog ops Q rest (a.put o.dst (.slice (some ⟨g, 0, none⟩) (n + 1) c)) w') :
    wpList Tryd.prog ops Q (o :: rest) a (wr.alloc (.cells #[.int .u8 y] 5)) := by
  obtain ⟨i0, hi, hz0, hz1, hz2⟩ := info_parts Tryd.info5
  refine wpList_append_lies _ hgd s x 24 ho W0.heap.size 5 i0 _ 1 1 Tryd.underlying24 hi hz0 hz1 hz2 rfl (by omega) v n xs hs (hown.alloc _) ⟨wr.heap.size, 0, none⟩ 1 1 [.int .u8 y] hx rfl (World.news_of_block (cs := #[.int .u8 y]) (t := 5) (fr := (0, 0)) (heap_alloc_new wr _)) (by simp [Value.oneCell']) (by omega) (by unfold maxLen; omega) (by omega) (by have := hk.size; simp; omega) (wr.heap.size + 1) (by simp) ?_
  intro g c w' h1 h2 h3 h4
  exact h g c w' h1 ((hk.alloc _).grown h2 (fun q e hq => by have := (hown.lt q e).1; omega))

theorem quote1_num (c : UInt8) (n1 n2 : Nat) (h1 : n1 = c.toNat / 16) (h2 : n2 = c.toNat % 16) : quote1 c = if num c = 34 ∨ num c = 92 then [92, c] else if 32 ≤ num c ∧ num c ≤ 126 then [c] else [92, 120, hexD n1, hexD n2] := by
  subst h1 h2
  unfold quote1
  have e34 : (c = 34) ↔ num c = 34 := ⟨fun e => by rw [e]; rfl, fun e => num_inj (a := c) (b := 34) e⟩
  have e92 : (c = 92) ↔ num c = 92 := ⟨fun e => by rw [e]; rfl, fun e => num_inj (a := c) (b := 92) e⟩
  have e3 : (32 ≤ c.toNat ∧ c.toNat ≤ 126) ↔ (32 ≤ num c ∧ num c ≤ 126) := by unfold num; omega
  simp only [e34, e92, e3]
theorem own_str {w5 : World} {B g n c : Nat} {A : Txt} {d : UInt8} {y : Int} (h : w5.ownsRow B 5 1 (.slice (some ⟨g, 0, none⟩) n c) n (bs A ++ [.int .u8 y])) (hd : num d = y) : ∀ j x, (A ++ [d])[j]? = some x → w5.cell? ⟨g, j, none⟩ = some (.int .u8 (num x)) := by
  intro j x hj
  have h1 := h.cells (g := g) rfl j (.int .u8 (num x)) (by
    rw [show bs A ++ [.int .u8 y] = bs (A ++ [d]) by simp [bs, hd], bs_get, hj]; rfl)
  rwa [Addr.add_lit, Nat.zero_add] at h1

theorem conv_own {w5 : World} {B g c : Nat} {A : Txt} {d : UInt8} {y : Int} (h : w5.ownsRow B 5 1 (.slice (some ⟨g, 0, none⟩) (A.length + 1) c) (A.length + 1) (bs A ++ [.int .u8 y])) (hd : num d = y) : (convert 24 9 (.slice (some ⟨g, 0, none⟩) (A.length + 1) c)).run Tryd.prog w5 = .ok (str (A ++ [d])) w5 := by
  have hcv := conv_bytes w5 g c (A ++ [d]) (own_str h hd)
  rwa [show (A ++ [d]).length = A.length + 1 by simp] at hcv
theorem q_fin {t A E : Txt} {k g1 c1 n : Nat} {c : UInt8} {w w5 : World} {xs : List Value} (hA : A = quoteTo t k) (hS : quoteTo t (k + 1) = quoteTo t k ++ quote1 c) (hE : quote1 c = E) (hO : w5.ownsRow w.heap.size 5 1 (.slice (some ⟨g1, 0, none⟩) n c1) n xs) (hn : n = A.length + E.length) (hxs : xs = bs A ++ bs E) :
    ∃ A' : Txt, A' = quoteTo t (k + 1) ∧ n = A'.length ∧ w5.ownsRow w.heap.size 5 1 (.slice (some ⟨g1, 0, none⟩) A'.length c1) A'.length (bs A') := by
  have hl : n = (A ++ E).length := by rw [hn, List.length_append]
  refine ⟨A ++ E, by rw [hS, hE, hA], hl, ?_⟩
  rw [← hl, show bs (A ++ E) = xs by rw [hxs]; simp [bs]]
  exact hO

end Go.Proofs.YtabjomgikljdhaaDoor
