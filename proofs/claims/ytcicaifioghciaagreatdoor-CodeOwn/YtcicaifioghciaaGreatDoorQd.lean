import Derived.Test.YtcicaifioghciaaGreatDoorJzan
import Derived.Lib.ConvBytes
namespace Go.Proofs.YtcicaifioghciaaGreatDoor
open Go.RowKit Go.Maps

def digs : Txt := [48, 49, 50, 51, 52, 53, 54, 55, 56, 57, 97, 98, 99, 100, 101, 102]
theorem digs_at : ∀ n, n < 16 → digs[n]? = some (hexD n) := by decide +kernel
def quoteTo (t : Txt) (k : Nat) : Txt := 34 :: (t.take k).flatMap quote1
theorem quoteTo_snoc {t : Txt} {k : Nat} {c : UInt8} (h : t[k]? = some c) : quoteTo t (k + 1) = quoteTo t k ++ quote1 c := by
  unfold quoteTo
  rw [take_snoc _ _ _ h, List.flatMap_append]
  simp
theorem flat_le4 : ∀ l : Txt, (l.flatMap quote1).length ≤ 4 * l.length
  | [] => by simp
  | c :: r => by
    have h1 := flat_le4 r
    have h2 := quote1_le c
    simp only [List.flatMap_cons, List.length_append, List.length_cons]
    omega
theorem quoteTo_le (t : Txt) : ∀ k, (quoteTo t k).length ≤ 1 + 4 * k := by
  intro k
  unfold quoteTo
  have h := flat_le4 (t.take k)
  rw [List.length_take] at h
  simp only [List.length_cons]
  have : 4 * min k t.length ≤ 4 * k := Nat.mul_le_mul_left _ (Nat.min_le_left _ _)
  omega

/-- One byte more behind a slice that was begun behind W0. -/
theorem wp_app1 {ops : Array Oper} {rest : List Oper} {o : Oper} {a : Act} {Q : Exit → Act → World → Prop} (hgd : o.guard = none) (s x : Operand)
    (ho : o.op = .call { callee := .builtin .append, args := #[s, x], argTypes := #[29, 29] }) {W0 wr : World} {v : Value} {n : Nat} {xs : List Value} {y : Int} (hs : a.eval s = v) (hx : a.eval x = .slice (some ⟨wr.heap.size, 0, none⟩) 1 1)
    (hown : wr.ownsRow W0.heap.size 5 1 v n xs) (hk : Keeps (fun _ => False) W0 wr) (hn : n ≤ 17592186044416)
    (h : ∀ g c w', w'.ownsRow W0.heap.size 5 1 (.slice (some ⟨g, 0, none⟩) (n + 1) c) (n + 1) (xs ++ [.int .u8 y]) → Keeps (fun _ => False) W0 w' → wpList Tryz.prog ops Q rest (a.put o.dst (.slice (some ⟨g, 0, none⟩) (n + 1) c)) w') :
    wpList Tryz.prog ops Q (o :: rest) a (wr.alloc (.cells #[.int .u8 y] 5)) := by
  obtain ⟨i0, hi, hz0, hz1, hz2⟩ := info_parts Tryz.info5
  refine wpList_append_lies _ hgd s x 29 ho W0.heap.size 5 i0 _ 1 1 Tryz.underlying29 hi hz0 hz1 hz2 rfl (by omega) v n xs hs (hown.alloc _) ⟨wr.heap.size, 0, none⟩ 1 1 [.int .u8 y] hx rfl (World.news_of_block (cs := #[.int .u8 y]) (t := 5) (fr := (0, 0)) (heap_alloc_new wr _)) (by simp [Value.oneCell']) (by omega) (by unfold maxLen; omega) (by omega) (by have := hk.size; simp; omega) (wr.heap.size + 1) (by simp) ?_
  intro g c w' h1 h2 h3 h4
  exact h g c w' h1 ((hk.alloc _).grown h2 (fun q e hq => by have := (hown.lt q e).1; omega))

theorem quote1_num (c : UInt8) (n1 n2 : Nat) (h1 : n1 = c.toNat / 16) (h2 : n2 = c.toNat % 16) : quote1 c = if num c = 34 ∨ num c = 92 then [92, c] else if 32 ≤ num c ∧ num c ≤ 126 then [c] else [92, 120, hexD n1, hexD n2] := by
  subst h1 h2
  unfold quote1
  have e34 : (c = 34) ↔ num c = 34 := ⟨fun e => by rw [e]; rfl, fun e => num_inj (a := c) (b := 34) e⟩
  have e92 : (c = 92) ↔ num c = 92 := ⟨fun e => by rw [e]; rfl, fun e => num_inj (a := c) (b := 92) e⟩
  have e3 : (32 ≤ c.toNat ∧ c.toNat ≤ 126) ↔ (32 ≤ num c ∧ num c ≤ 126) := by unfold num; omega
  simp only [e34, e92, e3]
theorem own_str {w5 : World} {B g n c : Nat} {A : Txt} {d : UInt8} {y : Int} (h : w5.ownsRow B 5 1 (.slice (some ⟨g, 0, none⟩) n c) n (bs A ++ [.int .u8 y])) (hd : num d = y) : ∀ j x, (A ++ [d])[j]? = some x → w5.cell? ⟨g, j, none⟩ = some (.int .u8 (num x)) := by
  intro j x hj
  have h1 := h.cells (g := g) rfl j (.int .u8 (num x)) (by
    rw [show bs A ++ [.int .u8 y] = bs (A ++ [d]) by simp [bs, hd], bs_get, hj]; rfl)
  rwa [Addr.add_lit, Nat.zero_add] at h1

theorem conv_own {w5 : World} {B g c : Nat} {A : Txt} {d : UInt8} {y : Int} (h : w5.ownsRow B 5 1 (.slice (some ⟨g, 0, none⟩) (A.length + 1) c) (A.length + 1) (bs A ++ [.int .u8 y])) (hd : num d = y) : (convert 29 9 (.slice (some ⟨g, 0, none⟩) (A.length + 1) c)).run Tryz.prog w5 = .ok (str (A ++ [d])) w5 := by
  have hcv := conv_bytes w5 g c (A ++ [d]) (own_str h hd)
  rwa [show (A ++ [d]).length = A.length + 1 by simp] at hcv
theorem q_fin {t A E : Txt} {k g1 c1 n : Nat} {c : UInt8} {w w5 : World} {xs : List Value} (hA : A = quoteTo t k) (hS : quoteTo t (k + 1) = quoteTo t k ++ quote1 c) (hE : quote1 c = E) (hO : w5.ownsRow w.heap.size 5 1 (.slice (some ⟨g1, 0, none⟩) n c1) n xs) (hn : n = A.length + E.length) (hxs : xs = bs A ++ bs E) :
    ∃ A' : Txt, A' = quoteTo t (k + 1) ∧ n = A'.length ∧ w5.ownsRow w.heap.size 5 1 (.slice (some ⟨g1, 0, none⟩) A'.length c1) A'.length (bs A') := by
  have hl : n = (A ++ E).length := by rw [hn, List.length_append]
  refine ⟨A ++ E, by rw [hS, hE, hA], hl, ?_⟩
  rw [← hl, show bs (A ++ E) = xs by rw [hxs]; simp [bs]]
  exact hO

end Go.Proofs.YtcicaifioghciaaGreatDoor
