import Derived.Test.YtcicaifioghciaaGreatDoorOh
namespace Go.Proofs.YtcicaifioghciaaGreatDoor
open Go.RowKit Go.Maps

def mineT : Txt := [109, 105, 110, 101]
def moreY (j : Nat) : List Value := [Value.int .u8 237, .int .u8 236] ++ List.replicate (j - 2) (.int .u8 235)
def moreU (j : Nat) : List Value := [Value.string ⟨#[109, 111, 114, 101]⟩, .string ⟨#[121, 101, 116, 32, 109, 111, 114, 101]⟩] ++ List.replicate (j - 2) (.string ⟨#[102, 97, 114]⟩)
theorem moreY_two : [] ++ [Value.int .u8 237, .int .u8 236] = moreY 2 := rfl
theorem moreU_two : [] ++ [Value.string ⟨#[109, 111, 114, 101]⟩, .string ⟨#[121, 101, 116, 32, 109, 111, 114, 101]⟩] = moreU 2 := rfl
theorem moreY_succ {j : Nat} (h : 2 ≤ j) : moreY j ++ [Value.int .u8 235] = moreY (j + 1) := by
  unfold moreY
  rw [List.append_assoc, show j + 1 - 2 = (j - 2) + 1 by omega, List.replicate_succ']
theorem moreU_succ {j : Nat} (h : 2 ≤ j) : moreU j ++ [Value.string ⟨#[102, 97, 114]⟩] = moreU (j + 1) := by
  unfold moreU
  rw [List.append_assoc, show j + 1 - 2 = (j - 2) + 1 by omega, List.replicate_succ']
theorem bytes_of {w : World} {B n : Nat} {v : Value} {x : Txt} (h : w.ownsRow B 5 1 v n (bs x)) (hn : x.length = n) : BytesAt w v x := by subst hn; exact rowAt_own h
theorem row_at {w : World} {B e m g c j : Nat} {xs ys : List Value} {u : Value} (h : w.ownsRow B e 1 (.slice (some ⟨g, 0, none⟩) m c) m (xs ++ ys)) (hj : (xs ++ ys)[j]? = some u) : w.cell? ⟨g, j, none⟩ = some u := by
  have hl := (List.getElem?_eq_some_iff.1 hj).1
  exact (h.cellAt j (by rw [← h.1]; exact hl)).trans hj
theorem bs_rep {n j : Nat} (h : j < n) : (bs (List.replicate n 238))[j]? = some (.int .u8 238) := by
  rw [bs_get, List.getElem?_replicate, if_pos h]; rfl
theorem strs_rep {n j : Nat} (h : j < n) : ((List.replicate n mineT).map str)[j]? = some (.string ⟨#[109, 105, 110, 101]⟩) := by
  rw [List.getElem?_map, List.getElem?_replicate, if_pos h]; rfl
/-- The three cells of an instruction are there, and may be written. -/
theorem ins_cells {w : World} {B g c n : Nat} {L : List ValA} (h : w.ownsRow B 51 3 (.slice (some ⟨g, 0, none⟩) n c) n (vcs L)) (i : Nat) (hi : i < L.length) :
    (∃ d, w.cell? ⟨g, i * 3, none⟩ = some d) ∧ (∃ d, w.cell? ⟨g, i * 3 + 1, none⟩ = some d) ∧ (∃ d, w.cell? ⟨g, i * 3 + 2, none⟩ = some d) ∧ w.frozen? ⟨g, i * 3, none⟩ = false ∧ w.frozen? ⟨g, i * 3 + 1, none⟩ = false ∧ w.frozen? ⟨g, i * 3 + 2, none⟩ = false := by
  have hl : (vcs L).length = L.length * 3 := vcs_length L
  have hm := h.1
  exact ⟨⟨_, (h.cellAt (i * 3) (by omega)).trans (List.getElem?_eq_getElem (by omega))⟩, ⟨_, (h.cellAt (i * 3 + 1) (by omega)).trans (List.getElem?_eq_getElem (by omega))⟩, ⟨_, (h.cellAt (i * 3 + 2) (by omega)).trans (List.getElem?_eq_getElem (by omega))⟩, h.frozenAt _, h.frozenAt _, h.frozenAt _⟩
theorem ins_set {w : World} {B g c n : Nat} {L L' : List ValA} (h : w.ownsRow B 51 3 (.slice (some ⟨g, 0, none⟩) n c) n (vcs L)) (i : Nat) (x : ValA) (hn : L.length = n) (he : L.set i x = L') :
    (((w.setCell ⟨g, i * 3, none⟩ (.int .i64 x.kind)).setCell ⟨g, i * 3 + 1, none⟩ (.int .i64 x.n)).setCell ⟨g, i * 3 + 2, none⟩ (str x.s)).ownsRow B 51 3 (.slice (some ⟨g, 0, none⟩) n c) n (vcs L') := by
  subst hn
  subst he
  exact own_set3 h i x
theorem Keeps.set3 {F : Nat → Prop} {a b : World} (h : Keeps F a b) (g o1 o2 o3 : Nat) (x y z : Value) (hg : g < a.heap.size → F g) : Keeps F a (((b.setCell ⟨g, o1, none⟩ x).setCell ⟨g, o2, none⟩ y).setCell ⟨g, o3, none⟩ z) :=
  ((h.setCell (p := ⟨g, o1, none⟩) hg x).setCell (p := ⟨g, o2, none⟩) hg y).setCell (p := ⟨g, o3, none⟩) hg z
theorem lit_own {w : World} {e n : Nat} (cs : Array Value) (hn : n ≤ 1000) (hs : cs.size = n) : (w.alloc (.cells cs e)).ownsRow w.heap.size e 1 (.slice (some ⟨w.heap.size, 0, none⟩) n n) n cs.toList :=
  World.ownsRow_lit (base := w.heap.size) (e := e) (size := 1) w cs n (Nat.le_refl _) (by unfold maxLen; omega) (by simpa using hs)
theorem one_y2 : ∀ u ∈ [Value.int .u8 237, .int .u8 236], u.oneCell' = true := by
  intro u hu
  simp only [List.mem_cons, List.not_mem_nil, or_false] at hu
  rcases hu with rfl | rfl <;> rfl
theorem one_y1 : ∀ u ∈ [Value.int .u8 235], u.oneCell' = true := by
  intro u hu
  simp only [List.mem_cons, List.not_mem_nil, or_false] at hu
  subst hu
  rfl
theorem one_u2 : ∀ u ∈ [Value.string ⟨#[109, 111, 114, 101]⟩, .string ⟨#[121, 101, 116, 32, 109, 111, 114, 101]⟩], u.oneCell' = true := by
  intro u hu
  simp only [List.mem_cons, List.not_mem_nil, or_false] at hu
  rcases hu with rfl | rfl <;> rfl
theorem one_u1 : ∀ u ∈ [Value.string ⟨#[102, 97, 114]⟩], u.oneCell' = true := by
  intro u hu
  simp only [List.mem_cons, List.not_mem_nil, or_false] at hu
  subst hu
  rfl
/-- What an append has laid. -/
structure Grew (w w' : World) (B e z : Nat) (v : Value) (n m g cap : Nat) (X Y Z : List Value) : Prop where
  row : w'.ownsRow B e z (.slice (some ⟨g, 0, none⟩) (n + m) cap) (n + m) (X ++ Y ++ Z)
  how : (v = .slice (some ⟨g, 0, none⟩) n cap ∧ w.grownBy w' (some g)) ∨ (w.heap.size ≤ g ∧ w.grownBy w' none)
theorem app_bytes {w : World} {ops : Array Oper} {rest : List Oper} {o : Oper} {a : Act} {Q : Exit → Act → World → Prop} (hgd : o.guard = none) (s x : Operand)
    (ho : o.op = .call { callee := .builtin .append, args := #[s, x], argTypes := #[29, 29] }) (base : Nat) (v : Value) (n : Nat) (X Y : List Value) (hs : a.eval s = v) (hown : w.ownsRow base 5 1 v n (X ++ Y))
    (ad m c C : Nat) (news : List Value) (hx : a.eval x = .slice (some ⟨ad, 0, none⟩) m c) (hx2 : w.ownsRow C 5 1 (.slice (some ⟨ad, 0, none⟩) m c) m news) (h1 : ∀ u ∈ news, u.oneCell' = true) (hm : 0 < m) (hl : n + m ≤ 1000) (hbase : base ≤ w.heap.size)
    (h : ∀ g cap w', Grew w w' base 5 1 v n m g cap X Y news → wpList Tryz.prog ops Q rest (a.put o.dst (.slice (some ⟨g, 0, none⟩) (n + m) cap)) w') : wpList Tryz.prog ops Q (o :: rest) a w :=
  append_bytes hgd s x ho base v n (X ++ Y) hs hown ad m c C news hx hx2 h1 hm hl hbase (fun g cap w' h2 h3 => h g cap w' ⟨h2, h3⟩)
theorem app_strs {w : World} {ops : Array Oper} {rest : List Oper} {o : Oper} {a : Act} {Q : Exit → Act → World → Prop} (hgd : o.guard = none) (s x : Operand)
    (ho : o.op = .call { callee := .builtin .append, args := #[s, x], argTypes := #[33, 33] }) (base : Nat) (v : Value) (n : Nat) (X Y : List Value) (hs : a.eval s = v) (hown : w.ownsRow base 9 1 v n (X ++ Y))
    (ad m c C : Nat) (news : List Value) (hx : a.eval x = .slice (some ⟨ad, 0, none⟩) m c) (hx2 : w.ownsRow C 9 1 (.slice (some ⟨ad, 0, none⟩) m c) m news) (h1 : ∀ u ∈ news, u.oneCell' = true) (hm : 0 < m) (hl : n + m ≤ 4398046511104) (hbase : base ≤ w.heap.size)
    (h : ∀ g cap w', Grew w w' base 9 1 v n m g cap X Y news → wpList Tryz.prog ops Q rest (a.put o.dst (.slice (some ⟨g, 0, none⟩) (n + m) cap)) w') : wpList Tryz.prog ops Q (o :: rest) a w :=
  append_strs hgd s x ho base v n (X ++ Y) hs hown ad m c C news hx hx2 h1 hm hl hbase (fun g cap w' h2 h3 => h g cap w' ⟨h2, h3⟩)
theorem app_made {w : World} {ops : Array Oper} {rest : List Oper} {o : Oper} {a : Act} {Q : Exit → Act → World → Prop} (hgd : o.guard = none) (s x : Operand)
    (ho : o.op = .call { callee := .builtin .append, args := #[s, x], argTypes := #[25, 3] }) (base : Nat) (v : Value) (n : Nat) (X Y : List Value) (hs : a.eval s = v) (hown : w.ownsRow base 51 3 v n (X ++ Y))
    (hx : a.eval x = .int .i64 64) (hn : n ≤ 1000) (hbase : base ≤ w.heap.size)
    (h : ∀ g cap w', Grew w w' base 51 3 v n 64 g cap X Y zeros64 → wpList Tryz.prog ops Q rest (a.put o.dst (.slice (some ⟨g, 0, none⟩) (n + 64) cap)) w') : wpList Tryz.prog ops Q (o :: rest) a w :=
  append_made hgd s x ho base v n (X ++ Y) hs hown hx hn hbase (fun g cap w' h2 h3 => h g cap w' ⟨h2, h3⟩)
end Go.Proofs.YtcicaifioghciaaGreatDoor
