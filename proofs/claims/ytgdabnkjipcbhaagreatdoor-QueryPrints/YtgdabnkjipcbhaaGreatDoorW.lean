import Derived.Test.YtgdabnkjipcbhaaGreatDoorJzag
import Derived.Lib.ConvBytes
namespace Go.Proofs.YtgdabnkjipcbhaaGreatDoor
open Go.RowKit Go.Maps

theorem num_of (u : Nat) (h : u < 256) : num (UInt8.ofNat u) = u := by unfold num; rw [UInt8.toNat_ofNat']; omega

theorem own_step {S' : Nat} {v o o' : Value} {S g : Nat} {n c : Nat} (h : o.ownBlock = v.ownBlock ∨ ∀ q, o.ownBlock = some q → S ≤ q) (hat : o.ownBlock = some g ∨ g = S') (hS : S ≤ S') (e : o' = .slice (some ⟨g, 0, none⟩) n c) : o'.ownBlock = v.ownBlock ∨ ∀ q, o'.ownBlock = some q → S ≤ q := by
  subst e
  have e1 : (Value.slice (some ⟨g, 0, none⟩) n c).ownBlock = some g := rfl
  rw [e1]
  rcases hat with hat | rfl
  · rcases h with h | h
    · left; rw [← h, hat]
    · right; intro q hq; simp at hq; subst hq; exact h _ hat
  · right; intro q hq; simp at hq; omega

theorem conv_at (w : World) (b off cap : Nat) (l : Txt) (h : ∀ j c, l[j]? = some c → w.cell? ⟨b, off + j, none⟩ = some (.int .u8 (num c))) :
    (convert 62 9 (.slice (some ⟨b, off, none⟩) l.length cap)).run Tryz.prog w = .ok (str l) w :=
  run_convert_bytes_back w 62 9 5 ⟨b, off, none⟩ cap l Tryz.underlying62 Tryz.underlying5 Tryz.underlying9 (fun j hj => by
    have := h j l[j] (List.getElem?_eq_getElem hj)
    rw [Addr.add_lit]
    simpa [num] using this)

def digs : Txt := [48, 49, 50, 51, 52, 53, 54, 55, 56, 57, 97, 98, 99, 100, 101, 102]
theorem digs_at : ∀ n, n < 16 → digs[n]? = some (hexD n) := by decide +kernel
def quoteTo (t : Txt) (k : Nat) : Txt := 34 :: (t.take k).flatMap quote1
theorem quoteTo_snoc {t : Txt} {k : Nat} {c : UInt8} (h : t[k]? = some c) : quoteTo t (k + 1) = quoteTo t k ++ quote1 c := by
  unfold quoteTo
  rw [take_snoc _ _ _ h, List.flatMap_append]
  simp
theorem flat_le4 : ∀ l : Txt, (l.flatMap quote1).length ≤ 4 * l.length
  | [] => by simp
  | c :: r => by
    have h1 := flat_le4 r
    have h2 := quote1_le c
    simp only [List.flatMap_cons, List.length_append, List.length_cons]
    omega
theorem quoteTo_le (t : Txt) : ∀ k, (quoteTo t k).length ≤ 1 + 4 * k := by
  intro k
  unfold quoteTo
  have h := flat_le4 (t.take k)
  rw [List.length_take] at h
  simp only [List.length_cons]
  have : 4 * min k t.length ≤ 4 * k := Nat.mul_le_mul_left _ (Nat.min_le_left _ _)
  omega

/-- One byte more behind a slice that was begun behind W0. -/
theorem wp_app1 {ops : Array Oper} {rest : List Oper} {o : Oper} {a : Act} {Q : Exit → Act → World → Prop} (hgd : o.guard = none) (s x : Operand)
    (ho : o.op = .call { callee := .builtin .append, args := #[s, x], argTypes := #[62, 62] }) {W0 wr : World} {v : Value} {n : Nat} {xs : List Value} {y : Int} (hs : a.eval s = v) (hx : a.eval x = .slice (some ⟨wr.heap.size, 0, none⟩) 1 1)
    (hown : wr.ownsRow W0.heap.size 5 1 v n xs) (hk : Keeps (fun _ => False) W0 wr) (hn : n ≤ 17592186044416)
    (h : ∀ g c w', w'.ownsRow W0.heap.size 5 1 (.slice (some ⟨g, 0, none⟩) (n + 1) c) (n + 1) (xs ++ [.int .u8 y]) → Keeps (fun _ => False) W0 w' → wpList Tryz.prog ops Q rest (a.put o.dst (.slice (some ⟨g, 0, none⟩) (n + 1) c)) w') :
    wpList Tryz.prog ops Q (o :: rest) a (wr.alloc (.cells #[.int .u8 y] 5)) := by
  obtain ⟨i0, hi, hz0, hz1, hz2⟩ := info_parts Tryz.info5
  refine wpList_append_lies _ hgd s x 62 ho W0.heap.size 5 i0 _ 1 1 Tryz.underlying62 hi hz0 hz1 hz2 rfl (by omega) v n xs hs (hown.alloc _) ⟨wr.heap.size, 0, none⟩ 1 1 [.int .u8 y] hx rfl (World.news_of_block (cs := #[.int .u8 y]) (t := 5) (fr := (0, 0)) (heap_alloc_new wr _)) (by simp [Value.oneCell']) (by omega) (by unfold maxLen; omega) (by omega) (by have := hk.size; simp; omega) (wr.heap.size + 1) (by simp) ?_
  intro g c w' h1 h2 h3 h4
  exact h g c w' h1 ((hk.alloc _).grown h2 (fun q e hq => by have := (hown.lt q e).1; omega))

theorem quote1_num (c : UInt8) (n1 n2 : Nat) (h1 : n1 = c.toNat / 16) (h2 : n2 = c.toNat % 16) : quote1 c = if num c = 34 ∨ num c = 92 then [92, c] else if 32 ≤ num c ∧ num c ≤ 126 then [c] else [92, 120, hexD n1, hexD n2] := by
  subst h1 h2
  unfold quote1
  have e34 : (c = 34) ↔ num c = 34 := ⟨fun e => by rw [e]; rfl, fun e => num_inj (a := c) (b := 34) e⟩
  have e92 : (c = 92) ↔ num c = 92 := ⟨fun e => by rw [e]; rfl, fun e => num_inj (a := c) (b := 92) e⟩
  have e3 : (32 ≤ c.toNat ∧ c.toNat ≤ 126) ↔ (32 ≤ num c ∧ num c ≤ 126) := by unfold num; omega
  simp only [e34, e92, e3]
theorem own_str {w5 : World} {B g n c : Nat} {A : Txt} {d : UInt8} {y : Int} (h : w5.ownsRow B 5 1 (.slice (some ⟨g, 0, none⟩) n c) n (bs A ++ [.int .u8 y])) (hd : num d = y) : ∀ j x, (A ++ [d])[j]? = some x → w5.cell? ⟨g, j, none⟩ = some (.int .u8 (num x)) := by
  intro j x hj
  have h1 := h.cells (g := g) rfl j (.int .u8 (num x)) (by
    rw [show bs A ++ [.int .u8 y] = bs (A ++ [d]) by simp [bs, hd], bs_get, hj]; rfl)
  rwa [Addr.add_lit, Nat.zero_add] at h1

theorem conv_bytes (w : World) (b cap : Nat) (l : Txt) (h : ∀ j c, l[j]? = some c → w.cell? ⟨b, j, none⟩ = some (.int .u8 (num c))) :
    (convert 62 9 (.slice (some ⟨b, 0, none⟩) l.length cap)).run Tryz.prog w = .ok (str l) w :=
  conv_at w b 0 cap l (fun j c hj => by rw [Nat.zero_add]; exact h j c hj)
theorem conv_own {w5 : World} {B g c : Nat} {A : Txt} {d : UInt8} {y : Int} (h : w5.ownsRow B 5 1 (.slice (some ⟨g, 0, none⟩) (A.length + 1) c) (A.length + 1) (bs A ++ [.int .u8 y])) (hd : num d = y) : (convert 62 9 (.slice (some ⟨g, 0, none⟩) (A.length + 1) c)).run Tryz.prog w5 = .ok (str (A ++ [d])) w5 := by
  have hcv := conv_bytes w5 g c (A ++ [d]) (own_str h hd)
  rwa [show (A ++ [d]).length = A.length + 1 by simp] at hcv
theorem q_fin {t A E : Txt} {k g1 c1 n : Nat} {c : UInt8} {w w5 : World} {xs : List Value} (hA : A = quoteTo t k) (hS : quoteTo t (k + 1) = quoteTo t k ++ quote1 c) (hE : quote1 c = E) (hO : w5.ownsRow w.heap.size 5 1 (.slice (some ⟨g1, 0, none⟩) n c1) n xs) (hn : n = A.length + E.length) (hxs : xs = bs A ++ bs E) :
    ∃ A' : Txt, A' = quoteTo t (k + 1) ∧ n = A'.length ∧ w5.ownsRow w.heap.size 5 1 (.slice (some ⟨g1, 0, none⟩) A'.length c1) A'.length (bs A') := by
  have hl : n = (A ++ E).length := by rw [hn, List.length_append]
  refine ⟨A ++ E, by rw [hS, hE, hA], hl, ?_⟩
  rw [← hl, show bs (A ++ E) = xs by rw [hxs]; simp [bs]]
  exact hO

set_option maxRecDepth 100000 in
set_option maxHeartbeats 4000000 in
theorem quote_any (t : Txt) (w : World) (ht : t.length ≤ 1099511627776) :
    Calls Tryz.prog 82 #[str t] w fun e w' => e = .returned (str (quoteB t)) ∧ Keeps (fun _ => False) w w' := by
  obtain ⟨i0, hi, hz0, hz1, hz2⟩ := info_parts Tryz.info5
  have HT := hide ht
  have ht' : t.length ≤ 9223372036854775807 := by omega
  clear ht
  go_enter Tryz.func82, Tryz.ntmps82
  go_wp2
  go_loopw [4, 5] (fun o i wr => ∃ (k : Nat) (A : Txt) (g c : Nat), k ≤ t.length ∧ i = .int .i64 k ∧ Hid (A = quoteTo t k) ∧ o = .slice (some ⟨g, 0, none⟩) A.length c ∧ wr.ownsRow w.heap.size 5 1 (.slice (some ⟨g, 0, none⟩) A.length c) A.length (bs A) ∧ Keeps (fun _ => False) w wr) (fun _ i _ => t.length - (intOf i).toNat)
  case atStart => exact ⟨0, [34], w.heap.size, 1, Nat.zero_le _, rfl, by simp [Hid, quoteTo], rfl, ⟨by simp [bs], Or.inr ⟨w.heap.size, 1, #[.int .u8 34], rfl, Nat.le_refl _, heap_alloc_new w _, by simp, by unfold maxLen; omega, by simp, rfl⟩⟩, (Keeps.refl _ _).alloc _⟩
  case round =>
    obtain ⟨k, A, g0, cp, hk, rfl, HA, rfl, hown, hkp⟩ := hrel
    have HO := hide hown
    have HK := hide hkp
    have hAl : A.length ≤ 4398046511105 := by rw [unhide HA]; have := quoteTo_le t k; have := unhide HT; omega
    have s0 : w.heap.size ≤ wr.heap.size := hkp.size
    clear hown hkp
    cases hx : t[k]? with
    | none =>
      have h1 := get_ge hx
      obtain rfl : k = t.length := by omega
      clear hx h1
      have HQ : Hid (quoteB t = A ++ [34]) := by show _ = _; rw [unhide HA]; unfold quoteB quoteTo; rw [List.take_length]; rfl
      go_wp2_with (at_builtin; refine wp_app1 rfl _ _ rfl rfl rfl (unhide HO) (unhide HK) (by omega) ?_; intro g1 c1 w5 ho5 hk5; have hcv := conv_own (d := 34) ho5 rfl; replace HO := hide ho5; replace HK := hide hk5; clear ho5 hk5)
      go_ret
      exact ⟨by rw [unhide HQ]; rfl, unhide HK⟩
    | some c =>
      have h1 := get_lt hx
      have q := str_at hx
      have e1 : (c.toNat : Int) = num c := rfl
      have hcr := num_range c
      have HS := hide (quoteTo_snoc hx)
      obtain ⟨n1, hn1⟩ : ∃ n1, n1 = c.toNat / 16 := ⟨_, rfl⟩
      obtain ⟨n2, hn2⟩ : ∃ n2, n2 = c.toNat % 16 := ⟨_, rfl⟩
      have hcl := c.toNat_lt
      have r1 : num c / 16 = (n1 : Int) := by unfold num; omega
      have r2 : num c % 16 = (n2 : Int) := by unfold num; omega
      have b1 : n1 < 16 := by omega
      have b2 : n2 < 16 := by omega
      have q1 : ∀ hk, (ByteArray.mk #[48, 49, 50, 51, 52, 53, 54, 55, 56, 57, 97, 98, 99, 100, 101, 102])[n1]'hk = hexD n1 := str_at (digs_at n1 b1)
      have q2 : ∀ hk, (ByteArray.mk #[48, 49, 50, 51, 52, 53, 54, 55, 56, 57, 97, 98, 99, 100, 101, 102])[n2]'hk = hexD n2 := str_at (digs_at n2 b2)
      have HC1 : Hid (quote1 c = if num c = 34 ∨ num c = 92 then [92, c] else if 32 ≤ num c ∧ num c ≤ 126 then [c] else [92, 120, hexD n1, hexD n2]) := quote1_num c n1 n2 hn1 hn2
      have y1 : ((hexD n1).toNat : Int) = num (hexD n1) := rfl
      have y2 : ((hexD n2).toNat : Int) = num (hexD n2) := rfl
      clear hx hn1 hn2 hcl
      go_wp2_with (at_builtin; refine wp_app1 rfl _ _ rfl rfl rfl (unhide HO) (unhide HK) (by omega) ?_; intro g1 c1 w5 ho5 hk5; replace HO := hide ho5; replace HK := hide hk5; clear ho5 hk5)
      · have hc : num c = 34 := by assumption
        go_roundw
        case rel =>
          obtain ⟨A', a1, a2, a3⟩ := q_fin (E := [92, c]) (unhide HA) (unhide HS) (by rw [unhide HC1, if_pos (Or.inl hc)]) (unhide HO) (by simp) (by rw [List.append_assoc]; congr 1; show [_, _] = [_, Value.int .u8 (num c)]; rw [hc]; rfl)
          exact ⟨k + 1, A', g1, c1, by omega, by go_num, a1, by rw [a2], a3, unhide HK⟩
        case measure => simp [intOf]; omega
      · have hd : (num c == 34) = true ∨ (num c == 92) = true := by assumption
        go_roundw
        case rel =>
          obtain ⟨A', a1, a2, a3⟩ := q_fin (E := [92, c]) (unhide HA) (unhide HS) (by rw [unhide HC1, if_pos (by simpa using hd)]) (unhide HO) (by simp) (by rw [List.append_assoc]; congr 1)
          exact ⟨k + 1, A', g1, c1, by omega, by go_num, a1, by rw [a2], a3, unhide HK⟩
        case measure => simp [intOf]; omega
      · have hd : (num c == 34) = false ∧ (num c == 92) = false := by assumption
        have hlo : 32 ≤ num c := by assumption
        have hhi : num c ≤ 126 := by assumption
        go_roundw
        case rel =>
          obtain ⟨A', a1, a2, a3⟩ := q_fin (E := [c]) (unhide HA) (unhide HS) (by rw [unhide HC1, if_neg (by simp at hd; omega), if_pos ⟨hlo, hhi⟩]) (unhide HO) (by simp) rfl
          exact ⟨k + 1, A', g1, c1, by omega, by go_num, a1, by rw [a2], a3, unhide HK⟩
        case measure => simp [intOf]; omega
      all_goals
        have hd : (num c == 34) = false ∧ (num c == 92) = false := by assumption
        have hno : Hid (¬ (32 ≤ num c ∧ num c ≤ 126)) := by show ¬ _; omega
        go_roundw
        case rel =>
          obtain ⟨A', a1, a2, a3⟩ := q_fin (E := [92, 120, hexD n1, hexD n2]) (unhide HA) (unhide HS) (by rw [unhide HC1, if_neg (by simp at hd; omega), if_neg (unhide hno)]) (unhide HO) (by simp) (by simp only [List.append_assoc]; congr 1)
          exact ⟨k + 1, A', g1, c1, by omega, by go_num, a1, by rw [a2], a3, unhide HK⟩
        case measure => simp [intOf]; omega

end Go.Proofs.YtgdabnkjipcbhaaGreatDoor
