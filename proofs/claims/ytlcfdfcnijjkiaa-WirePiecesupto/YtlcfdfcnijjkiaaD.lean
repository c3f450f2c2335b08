import Derived.Test.YtlcfdfcnijjkiaaP
namespace Go.Proofs.Ytlcfdfcnijjkiaa
open Go.RowKit Go.Maps

theorem Try.info27 : (Try.prog.info? 27).map (fun i => (i.zero, i.size, i.bytes)) = some (some (.slice none 0 0), 1, 24) := by kernel_rfl
theorem bs_app (a b : Txt) : bs (a ++ b) = bs a ++ bs b := by simp [bs]
/-- Bytes in a row of one's own. -/
def BtAt (w : World) (base : Nat) (v : Value) (l : Txt) : Prop := w.ownsRow base 5 1 v l.length (bs l)
/-- A list of texts, and one that has grown out of it. -/
structure Itm where
  vx : Value
  X : Txt
  vm : Value
  Y : Txt
/-- A list that has not grown. -/
def lone1 (v : Value) (X : Txt) : Itm := ⟨v, X, v, []⟩
def Itm.has (p : Itm) (b : Nat) : Prop := p.vx.ownBlock = some b ∨ p.vm.ownBlock = some b
def Itm.at_ (p : Itm) (w : World) (B : Nat) : Prop := BtAt w B p.vx p.X ∧ BtAt w B p.vm (p.X ++ p.Y)
def Itm.off (p q : Itm) : Prop := ∀ b, p.has b → ¬ q.has b
theorem Itm.off_symm {p q : Itm} (h : p.off q) : q.off p := fun b hq hp => h b hp hq
theorem Itm.at_.lt {p : Itm} {w : World} {B : Nat} (h : p.at_ w B) {b : Nat} (hb : p.has b) : B ≤ b ∧ b < w.heap.size := by
  rcases hb with e | e
  · exact ⟨own_geO h.1 e, own_lt h.1 e⟩
  · exact ⟨own_geO h.2 e, own_lt h.2 e⟩
theorem Itm.at_.typed {p : Itm} {w : World} {B : Nat} (h : p.at_ w B) {b : Nat} (hb : p.has b) : ∃ c, w.heap[b]? = some (.cells c 5 (0, 0)) := by
  rcases hb with e | e
  · exact (own_typed h.1 e).2
  · exact (own_typed h.2 e).2
theorem Itm.at_.keep {p : Itm} {w w' : World} {B : Nat} {F : Nat → Prop} (h : p.at_ w B) (hk : Keeps F w w') (hF : ∀ b, p.has b → ¬ F b) : p.at_ w' B :=
  ⟨ownsRow_kept h.1 hk (fun q e => hF q (Or.inl e)), ownsRow_kept h.2 hk (fun q e => hF q (Or.inr e))⟩
theorem Itm.at_.low {p : Itm} {w : World} {B C : Nat} (h : p.at_ w B) (hC : C ≤ B) : p.at_ w C := ⟨ownsRow_low h.1 hC, ownsRow_low h.2 hC⟩
theorem lone1_at {w : World} {B : Nat} {v : Value} {X : Txt} (h : BtAt w B v X) : (lone1 v X).at_ w B := ⟨h, by show BtAt w B v (X ++ []); rwa [List.append_nil]⟩
theorem lone1_has {v : Value} {X : Txt} {b : Nat} (h : (lone1 v X).has b) : v.ownBlock = some b := h.elim id id
/-- Lists of texts that share nothing with one another. -/
structure Bag (w : World) (B : Nat) (L : List Itm) : Prop where
  all : ∀ p ∈ L, p.at_ w B
  apart : L.Pairwise Itm.off
section
variable {w w' : World} {B : Nat} {L M : List Itm}
theorem Bag.keep {F : Nat → Prop} (h : Bag w B L) (hk : Keeps F w w') (hF : ∀ p ∈ L, ∀ b, p.has b → ¬ F b) : Bag w' B L :=
  ⟨fun p hp => (h.all p hp).keep hk (hF p hp), h.apart⟩
theorem Bag.keepF (h : Bag w B L) (hk : Keeps (fun _ => False) w w') : Bag w' B L := h.keep hk (fun _ _ _ _ => id)
theorem Bag.perm (h : Bag w B L) (hp : L.Perm M) : Bag w B M :=
  ⟨fun p hm => h.all p (hp.mem_iff.2 hm), (hp.pairwise_iff (fun h => Itm.off_symm h)).1 h.apart⟩
theorem Bag.nil : Bag w B [] := ⟨fun p h => (by cases h), List.Pairwise.nil⟩
theorem Bag.lt (h : Bag w B L) {p : Itm} (hp : p ∈ L) {b : Nat} (hb : p.has b) : B ≤ b ∧ b < w.heap.size := (h.all p hp).lt hb
/-- One more, in new memory. -/
theorem Bag.new {p : Itm} (h : Bag w B L) (hB : B ≤ w.heap.size) (hk : Keeps (fun _ => False) w w') (hp : p.at_ w' w.heap.size) : Bag w' B (p :: L) := by
  refine ⟨fun q hq => ?_, List.Pairwise.cons (fun q hq b hb hqb => ?_) h.apart⟩
  · rcases List.mem_cons.1 hq with rfl | hq
    · exact hp.low hB
    · exact (h.all q hq).keep hk (fun _ _ => id)
  · have h1 := (hp.lt hb).1
    have h2 := (h.lt hq hqb).2
    omega
/-- The first list is written over at one place. -/
theorem Bag.set {g n c j : Nat} {X : Txt} {m : UInt8} (h : Bag w B (lone1 (.slice (some ⟨g, 0, none⟩) n c) X :: L)) : Bag (w.setCell ⟨g, j, none⟩ (.int .u8 (num m))) B (lone1 (.slice (some ⟨g, 0, none⟩) n c) (X.set j m) :: L) := by
  have hh := h.all _ (List.mem_cons_self ..)
  have hk : Keeps (fun q => q = g) w (w.setCell ⟨g, j, none⟩ (.int .u8 (num m))) := keeps_set _ _ _ _
  have h1 : BtAt w B (.slice (some ⟨g, 0, none⟩) n c) X := hh.1
  obtain rfl : n = X.length := by
    rcases h1.2 with ⟨h0, _⟩ | ⟨g', cap, cur, hv, _⟩
    · cases h0
    · simp only [Value.slice.injEq] at hv
      exact hv.2.1
  obtain ⟨h2, h3⟩ := List.pairwise_cons.1 h.apart
  refine ⟨fun q hq => ?_, List.Pairwise.cons (fun q hq b hb => h2 q hq b (lone1_has hb |> Or.inl)) h3⟩
  rcases List.mem_cons.1 hq with rfl | hq
  · refine lone1_at ?_
    have := (World.ownsRow.stored h1 j (.int .u8 (num m))).1
    unfold BtAt
    rw [bs_setL, List.length_set]
    exact this
  · exact (h.all q (List.mem_cons_of_mem _ hq)).keep hk (fun b hb e => h2 q hq b (Or.inl (by rw [e]; rfl)) hb)
theorem grown_at {v : Value} {g n cap : Nat} {H : Nat} (hc : (v = .slice (some ⟨g, 0, none⟩) n cap ∧ w.grownBy w' (some g)) ∨ (H ≤ g ∧ w.grownBy w' none)) : v.ownBlock = some g ∨ H ≤ g := by
  rcases hc with ⟨rfl, _⟩ | ⟨h, _⟩
  · exact Or.inl rfl
  · exact Or.inr h
/-- The first list's longer one grows. -/
theorem Bag.grow {g cap : Nat} {vx vm : Value} {X Y Z : Txt} (h : Bag w B (⟨vx, X, vm, Y⟩ :: L)) (h' : w'.ownsRow B 5 1 (.slice (some ⟨g, 0, none⟩) ((X ++ Y).length + Z.length) cap) ((X ++ Y).length + Z.length) (bs (X ++ Y) ++ bs Z))
    (hc : (vm = .slice (some ⟨g, 0, none⟩) (X ++ Y).length cap ∧ w.grownBy w' (some g)) ∨ (w.heap.size ≤ g ∧ w.grownBy w' none)) : Bag w' B (⟨vx, X, .slice (some ⟨g, 0, none⟩) ((X ++ Y).length + Z.length) cap, Y ++ Z⟩ :: L) := by
  have hh := h.all _ (List.mem_cons_self ..)
  obtain ⟨h2, h3⟩ := List.pairwise_cons.1 h.apart
  have hm : BtAt w B vm (X ++ Y) := hh.2
  have hx : BtAt w B vx X := hh.1
  have hk := grow_keeps hc
  have ha := grown_at hc
  refine ⟨fun q hq => ?_, List.Pairwise.cons (fun q hq b hb hqb => ?_) h3⟩
  · rcases List.mem_cons.1 hq with rfl | hq
    · refine ⟨?_, ?_⟩
      · unfold BtAt at hm
        rw [bs_app] at hm h'
        exact both_grow hx hm (by decide) h' hc
      · show World.ownsRow _ _ _ _ _ _ _
        rw [← List.append_assoc, bs_app (X ++ Y), show ((X ++ Y) ++ Z).length = (X ++ Y).length + Z.length from List.length_append]
        exact h'
    · exact (h.all q (List.mem_cons_of_mem _ hq)).keep hk (fun b hb e => h2 q hq b (Or.inr e) hb)
  · rcases hb with e | e
    · exact h2 q hq b (Or.inl e) hqb
    · simp [Value.ownBlock] at e
      subst e
      rcases ha with ha | ha
      · exact h2 q hq _ (Or.inr ha) hqb
      · have := (h.lt (List.mem_cons_of_mem _ hq) hqb).2
        omega
/-- The first list itself grows. -/
theorem Bag.growSelf {g cap : Nat} {v : Value} {X Z : Txt} (h : Bag w B (lone1 v X :: L)) (h' : w'.ownsRow B 5 1 (.slice (some ⟨g, 0, none⟩) (X.length + Z.length) cap) (X.length + Z.length) (bs X ++ bs Z))
    (hc : (v = .slice (some ⟨g, 0, none⟩) X.length cap ∧ w.grownBy w' (some g)) ∨ (w.heap.size ≤ g ∧ w.grownBy w' none)) : Bag w' B (lone1 (.slice (some ⟨g, 0, none⟩) (X.length + Z.length) cap) (X ++ Z) :: L) := by
  obtain ⟨h2, h3⟩ := List.pairwise_cons.1 h.apart
  have hk := grow_keeps hc
  have ha := grown_at hc
  refine ⟨fun q hq => ?_, List.Pairwise.cons (fun q hq b hb hqb => ?_) h3⟩
  · rcases List.mem_cons.1 hq with rfl | hq
    · refine lone1_at ?_
      show World.ownsRow _ _ _ _ _ _ _
      rw [bs_app, List.length_append]
      exact h'
    · exact (h.all q (List.mem_cons_of_mem _ hq)).keep hk (fun b hb e => h2 q hq b (Or.inl e) hb)
  · have e := lone1_has hb
    simp [Value.ownBlock] at e
    subst e
    rcases ha with ha | ha
    · exact h2 q hq _ (Or.inl ha) hqb
    · have := (h.lt (List.mem_cons_of_mem _ hq) hqb).2
      omega
/-- What is written to a row of lists is none of the texts'. -/
theorem Bag.rowKeep {C n : Nat} {v : Value} {xs : List Value} (h : Bag w B L) (hr : w.ownsRow C 27 1 v n xs) (hk : Keeps (fun q => v.ownBlock = some q) w w') : Bag w' B L :=
  h.keep hk fun p hp b hb e => by
    obtain ⟨c, hc⟩ := (h.all p hp).typed hb
    obtain ⟨_, c2, hc2⟩ := own_typed hr e
    rw [hc] at hc2
    simp at hc2
/-- A row of lists stays where a text's list is written. -/
theorem row_bag {C n : Nat} {v : Value} {xs : List Value} {p : Itm} {F : Nat → Prop} (hr : w.ownsRow C 27 1 v n xs) (h : p.at_ w B) (hk : Keeps F w w') (hF : ∀ q, F q → q < w.heap.size → p.has q) : w'.ownsRow C 27 1 v n xs :=
  ownsRow_kept hr hk fun q e f => by
    obtain ⟨c, hc⟩ := h.typed (hF q f (own_lt hr e))
    obtain ⟨_, c2, hc2⟩ := own_typed hr e
    rw [hc] at hc2
    simp at hc2
end
/-- A row of one's own that grew. -/
structure GrewL (w w' : World) (base e n m : Nat) (v : Value) (g cap : Nat) (xs news : List Value) : Prop where
  own : w'.ownsRow base e 1 (.slice (some ⟨g, 0, none⟩) (n + m) cap) (n + m) (xs ++ news)
  how : (v = .slice (some ⟨g, 0, none⟩) n cap ∧ w.grownBy w' (some g)) ∨ (w.heap.size ≤ g ∧ w.grownBy w' none)
theorem GrewL.keeps {w w' : World} {base e n m g cap : Nat} {v : Value} {xs news : List Value} (h : GrewL w w' base e n m v g cap xs news) : Keeps (fun q => v.ownBlock = some q) w w' := grow_keeps h.how
/-- Bytes appended to bytes. -/
theorem append_bytes {w : World} {ops : Array Oper} {rest : List Oper} {o : Oper} {a : Act} {Q : Exit → Act → World → Prop} (hgd : o.guard = none) (s x : Operand)
    (ho : o.op = .call { callee := .builtin .append, args := #[s, x], argTypes := #[27, 27] }) (base : Nat) (v : Value) (l : Txt) (hs : a.eval s = v) (hown : BtAt w base v l)
    (b off m c : Nat) (news : Txt) (hx : a.eval x = .slice (some ⟨b, off, none⟩) m c) (hln : news.length = m) (hx2 : ∀ j k, news[j]? = some k → w.cell? ⟨b, off + j, none⟩ = some (.int .u8 (num k))) (hm : 0 < m) (hl : l.length + m ≤ 140737488355328) (hbase : base ≤ w.heap.size)
    (h : ∀ g cap w', GrewL w w' base 5 l.length m v g cap (bs l) (bs news) → wpList Try.prog ops Q rest (a.put o.dst (.slice (some ⟨g, 0, none⟩) (l.length + m) cap)) w') : wpList Try.prog ops Q (o :: rest) a w := by
  obtain ⟨i, hi, hz0, hz1, hz2⟩ := info_parts Try.info5
  refine append_two (P := Try.prog) w hgd s x 27 ho base 5 i _ 1 1 Try.underlying27 hi hz0 hz1 hz2 rfl (by omega) v l.length (bs l) hs hown _ m c (bs news) hx (by rw [bs_length]; omega) (fun j u hj => ?_) (fun u hu => ?_) hm (by unfold maxLen; omega) (by omega) hbase (fun g cap w' h1 h2 => h g cap w' ⟨h1, h2⟩)
  · rw [bs_get] at hj
    cases hk : news[j]? with
    | none => rw [hk] at hj; cases hj
    | some k =>
      rw [hk] at hj
      simp at hj
      rw [Addr.add_lit, hx2 j k hk, hj]
  · unfold bs at hu
    obtain ⟨c, _, rfl⟩ := List.mem_map.1 hu
    rfl
/-- A list appended to a row of lists. -/
theorem append_list {w : World} {ops : Array Oper} {rest : List Oper} {o : Oper} {a : Act} {Q : Exit → Act → World → Prop} (hgd : o.guard = none) (s x : Operand)
    (ho : o.op = .call { callee := .builtin .append, args := #[s, x], argTypes := #[22, 22] }) (base : Nat) (v : Value) (n : Nat) (xs : List Value) (hs : a.eval s = v) (hown : w.ownsRow base 27 1 v n xs)
    (ad c : Nat) (u : Value) (hx : a.eval x = .slice (some ⟨ad, 0, none⟩) 1 c) (hx2 : w.cell? ⟨ad, 0, none⟩ = some u) (h1 : u.oneCell' = true) (hl : n + 1 ≤ 4398046511104) (hbase : base ≤ w.heap.size)
    (h : ∀ g cap w', GrewL w w' base 27 n 1 v g cap xs [u] → wpList Try.prog ops Q rest (a.put o.dst (.slice (some ⟨g, 0, none⟩) (n + 1) cap)) w') : wpList Try.prog ops Q (o :: rest) a w := by
  obtain ⟨i, hi, hz0, hz1, hz2⟩ := info_parts Try.info27
  refine append_two (P := Try.prog) w hgd s x 22 ho base 27 i _ 1 24 Try.underlying22 hi hz0 hz1 hz2 rfl (by omega) v n xs hs hown _ 1 c [u] hx rfl (fun j u' hj => ?_) (fun u' hu => ?_) (by omega) (by unfold maxLen; omega) (by omega) hbase (fun g cap w' h1 h2 => h g cap w' ⟨h1, h2⟩)
  · cases j with
    | zero => simp at hj; subst hj; simpa [Addr.add] using hx2
    | succ j => simp at hj
  · simp at hu; subst hu; exact h1
end Go.Proofs.Ytlcfdfcnijjkiaa
