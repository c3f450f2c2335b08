import Derived.Test.YtklkhegeeglfbaaGreatDoorJzaf
namespace Go.Proofs.YtklkhegeeglfbaaGreatDoor
open Go.RowKit Go.Maps

/-- A row of one's own, and one that has grown out of it. -/
structure Rowp where
  e : TypeId
  z : Nat
  n : Nat
  vx : Value
  X : List Value
  k : Nat
  vm : Value
  Y : List Value
/-- A row that has not grown. -/
def solo (e : TypeId) (z n : Nat) (v : Value) (X : List Value) : Rowp := ⟨e, z, n, v, X, 0, v, []⟩
def Rowp.has (p : Rowp) (b : Nat) : Prop := p.vx.ownBlock = some b ∨ p.vm.ownBlock = some b
structure Rowp.at_ (p : Rowp) (w : World) (B : Nat) : Prop where
  pos : 0 < p.z
  x : w.ownsRow B p.e p.z p.vx p.n p.X
  m : w.ownsRow B p.e p.z p.vm (p.n + p.k) (p.X ++ p.Y)
def Rowp.off (p q : Rowp) : Prop := ∀ b, p.has b → ¬ q.has b
theorem Rowp.off_symm {p q : Rowp} (h : p.off q) : q.off p := fun b hq hp => h b hp hq
theorem Rowp.at_.lt {p : Rowp} {w : World} {B : Nat} (h : p.at_ w B) {b : Nat} (hb : p.has b) : B ≤ b ∧ b < w.heap.size := by
  rcases hb with e | e
  · exact ⟨own_geO h.x e, own_lt h.x e⟩
  · exact ⟨own_geO h.m e, own_lt h.m e⟩
theorem Rowp.at_.typed {p : Rowp} {w : World} {B : Nat} (h : p.at_ w B) {b : Nat} (hb : p.has b) : ∃ c, w.heap[b]? = some (.cells c p.e (0, 0)) := by
  rcases hb with e | e
  · exact (own_typed h.x e).2
  · exact (own_typed h.m e).2
theorem Rowp.at_.keep {p : Rowp} {w w' : World} {B : Nat} {F : Nat → Prop} (h : p.at_ w B) (hk : Keeps F w w') (hF : ∀ b, p.has b → ¬ F b) : p.at_ w' B :=
  ⟨h.pos, ownsRow_kept h.x hk (fun q e => hF q (Or.inl e)), ownsRow_kept h.m hk (fun q e => hF q (Or.inr e))⟩
theorem Rowp.at_.low {p : Rowp} {w : World} {B C : Nat} (h : p.at_ w B) (hC : C ≤ B) : p.at_ w C := ⟨h.pos, ownsRow_low h.x hC, ownsRow_low h.m hC⟩
theorem solo_at {w : World} {B : Nat} {e : TypeId} {z n : Nat} {v : Value} {X : List Value} (h : w.ownsRow B e z v n X) (hz : 0 < z) : (solo e z n v X).at_ w B :=
  ⟨hz, h, by show w.ownsRow B e z v n (X ++ []); rwa [List.append_nil]⟩
theorem solo_has {e : TypeId} {z n : Nat} {v : Value} {X : List Value} {b : Nat} (h : (solo e z n v X).has b) : v.ownBlock = some b := h.elim id id
/-- Rows that share nothing with one another. -/
structure Sack (w : World) (B : Nat) (L : List Rowp) : Prop where
  all : ∀ p ∈ L, p.at_ w B
  apart : L.Pairwise Rowp.off
/-- What an append has laid. -/
structure GrewZ (w w' : World) (B : Nat) (e : TypeId) (z n m : Nat) (v : Value) (g cap : Nat) (xs news : List Value) : Prop where
  own : w'.ownsRow B e z (.slice (some ⟨g, 0, none⟩) (n + m) cap) (n + m) (xs ++ news)
  how : (v = .slice (some ⟨g, 0, none⟩) n cap ∧ w.grownBy w' (some g)) ∨ (w.heap.size ≤ g ∧ w.grownBy w' none)
theorem GrewZ.keeps {w w' : World} {B : Nat} {e : TypeId} {z n m g cap : Nat} {v : Value} {xs news : List Value} (h : GrewZ w w' B e z n m v g cap xs news) : Keeps (fun q => v.ownBlock = some q) w w' := grow_keeps h.how
theorem GrewZ.at_ {w w' : World} {B : Nat} {e : TypeId} {z n m g cap : Nat} {v : Value} {xs news : List Value} (h : GrewZ w w' B e z n m v g cap xs news) : v.ownBlock = some g ∨ w.heap.size ≤ g := by
  rcases h.how with ⟨rfl, _⟩ | ⟨h, _⟩
  · exact Or.inl rfl
  · exact Or.inr h
theorem permAt {α : Type} : ∀ {l : List α} {i : Nat} {x : α}, l[i]? = some x → (x :: l.eraseIdx i).Perm l
  | [], i, x, h => by simp at h
  | y :: r, 0, x, h => by
    simp at h
    subst h
    exact List.Perm.refl _
  | y :: r, i + 1, x, h => by
    have := permAt (l := r) (i := i) (x := x) (by simpa using h)
    exact (List.Perm.swap y x _).trans (List.Perm.cons y this)
theorem permSet {α : Type} {l : List α} {i : Nat} (y : α) (h : i < l.length) : (y :: l.eraseIdx i).Perm (l.set i y) := by
  have := permAt (l := l.set i y) (i := i) (x := y) (by rw [List.getElem?_set_self h])
  rwa [List.eraseIdx_set_eq] at this
section
variable {w w' : World} {B : Nat} {L M : List Rowp} {e : TypeId} {z n k m g cap : Nat} {v vx vm : Value} {X X' Y Z : List Value}
theorem Sack.keep {F : Nat → Prop} (h : Sack w B L) (hk : Keeps F w w') (hF : ∀ p ∈ L, ∀ b, p.has b → ¬ F b) : Sack w' B L :=
  ⟨fun p hp => (h.all p hp).keep hk (hF p hp), h.apart⟩
theorem Sack.keepF (h : Sack w B L) (hk : Keeps (fun _ => False) w w') : Sack w' B L := h.keep hk (fun _ _ _ _ => id)
theorem Sack.perm (h : Sack w B L) (hp : L.Perm M) : Sack w B M :=
  ⟨fun p hm => h.all p (hp.mem_iff.2 hm), (hp.pairwise_iff (fun h => Rowp.off_symm h)).1 h.apart⟩
theorem Sack.nil : Sack w B [] := ⟨fun p h => (by cases h), List.Pairwise.nil⟩
theorem Sack.lt (h : Sack w B L) {p : Rowp} (hp : p ∈ L) {b : Nat} (hb : p.has b) : B ≤ b ∧ b < w.heap.size := (h.all p hp).lt hb
theorem Sack.left (h : Sack w B (L ++ M)) : Sack w B L :=
  ⟨fun p hp => h.all p (List.mem_append_left _ hp), (List.pairwise_append.1 h.apart).1⟩
theorem Sack.right (h : Sack w B (L ++ M)) : Sack w B M :=
  ⟨fun p hp => h.all p (List.mem_append_right _ hp), (List.pairwise_append.1 h.apart).2.1⟩
theorem Sack.tail {p : Rowp} (h : Sack w B (p :: L)) : Sack w B L :=
  ⟨fun q hq => h.all q (List.mem_cons_of_mem _ hq), (List.pairwise_cons.1 h.apart).2⟩
/-- One more, in new memory. -/
theorem Sack.new {p : Rowp} (h : Sack w B L) (hB : B ≤ w.heap.size) (hk : Keeps (fun _ => False) w w') (hp : p.at_ w' w.heap.size) : Sack w' B (p :: L) := by
  refine ⟨fun q hq => ?_, List.Pairwise.cons (fun q hq b hb hqb => ?_) h.apart⟩
  · rcases List.mem_cons.1 hq with rfl | hq
    · exact hp.low hB
    · exact (h.all q hq).keep hk (fun _ _ => id)
  · have h1 := (hp.lt hb).1
    have h2 := (h.lt hq hqb).2
    omega
/-- One more that is nowhere. -/
theorem Sack.nowhere (h : Sack w B L) (hz : 0 < z) : Sack w B (solo e z 0 (.slice none 0 0) [] :: L) :=
  ⟨fun q hq => by
    rcases List.mem_cons.1 hq with rfl | hq
    · exact solo_at (World.ownsRow_nil _ _ e z) hz
    · exact h.all q hq, List.Pairwise.cons (fun q _ b hb => by cases solo_has hb) h.apart⟩
/-- The first row is written over. -/
theorem Sack.put (h : Sack w B (solo e z n v X :: L)) (h' : w'.ownsRow B e z v n X') (hk : Keeps (fun q => v.ownBlock = some q) w w') : Sack w' B (solo e z n v X' :: L) := by
  obtain ⟨h2, h3⟩ := List.pairwise_cons.1 h.apart
  refine ⟨fun q hq => ?_, List.Pairwise.cons (fun q hq b hb => h2 q hq b (Or.inl (solo_has hb))) h3⟩
  rcases List.mem_cons.1 hq with rfl | hq
  · exact solo_at h' (h.all _ (List.mem_cons_self ..)).pos
  · exact (h.all q (List.mem_cons_of_mem _ hq)).keep hk (fun b hb f => h2 q hq b (Or.inl f) hb)
/-- The first row's longer one grows. -/
theorem Sack.grow (h : Sack w B (⟨e, z, n, vx, X, k, vm, Y⟩ :: L)) (hG : GrewZ w w' B e z (n + k) m vm g cap (X ++ Y) Z) : Sack w' B (⟨e, z, n, vx, X, k + m, .slice (some ⟨g, 0, none⟩) (n + k + m) cap, Y ++ Z⟩ :: L) := by
  have hh := h.all _ (List.mem_cons_self ..)
  obtain ⟨h2, h3⟩ := List.pairwise_cons.1 h.apart
  have hm : w.ownsRow B e z vm (n + k) (X ++ Y) := hh.m
  have hx : w.ownsRow B e z vx n X := hh.x
  have hk := hG.keeps
  refine ⟨fun q hq => ?_, List.Pairwise.cons (fun q hq b hb hqb => ?_) h3⟩
  · rcases List.mem_cons.1 hq with rfl | hq
    · refine ⟨hh.pos, both_grow hx hm hh.pos hG.own hG.how, ?_⟩
      show w'.ownsRow B e z _ (n + (k + m)) (X ++ (Y ++ Z))
      rw [← Nat.add_assoc, ← List.append_assoc]
      exact hG.own
    · exact (h.all q (List.mem_cons_of_mem _ hq)).keep hk (fun b hb e => h2 q hq b (Or.inr e) hb)
  · rcases hb with e | e
    · exact h2 q hq b (Or.inl e) hqb
    · simp [Value.ownBlock] at e
      subst e
      rcases hG.at_ with ha | ha
      · exact h2 q hq _ (Or.inr ha) hqb
      · have := (h.lt (List.mem_cons_of_mem _ hq) hqb).2
        omega
/-- The first row itself grows. -/
theorem Sack.growSelf (h : Sack w B (solo e z n v X :: L)) (hG : GrewZ w w' B e z n m v g cap X Z) : Sack w' B (solo e z (n + m) (.slice (some ⟨g, 0, none⟩) (n + m) cap) (X ++ Z) :: L) := by
  obtain ⟨h2, h3⟩ := List.pairwise_cons.1 h.apart
  have hk := hG.keeps
  refine ⟨fun q hq => ?_, List.Pairwise.cons (fun q hq b hb hqb => ?_) h3⟩
  · rcases List.mem_cons.1 hq with rfl | hq
    · exact solo_at hG.own (h.all _ (List.mem_cons_self ..)).pos
    · exact (h.all q (List.mem_cons_of_mem _ hq)).keep hk (fun b hb e => h2 q hq b (Or.inl e) hb)
  · have e := solo_has hb
    simp [Value.ownBlock] at e
    subst e
    rcases hG.at_ with ha | ha
    · exact h2 q hq _ (Or.inl ha) hqb
    · have := (h.lt (List.mem_cons_of_mem _ hq) hqb).2
      omega
theorem Sack.putAt {i : Nat} (h : Sack w B L) (hi : L[i]? = some (solo e z n v X)) (h' : w'.ownsRow B e z v n X') (hk : Keeps (fun q => v.ownBlock = some q) w w') : Sack w' B (L.set i (solo e z n v X')) :=
  ((h.perm (permAt hi).symm).put h' hk).perm (permSet _ (get_lt hi))
theorem Sack.growAt {i : Nat} (h : Sack w B L) (hi : L[i]? = some ⟨e, z, n, vx, X, k, vm, Y⟩) (hG : GrewZ w w' B e z (n + k) m vm g cap (X ++ Y) Z) : Sack w' B (L.set i ⟨e, z, n, vx, X, k + m, .slice (some ⟨g, 0, none⟩) (n + k + m) cap, Y ++ Z⟩) :=
  ((h.perm (permAt hi).symm).grow hG).perm (permSet _ (get_lt hi))
theorem Sack.growSelfAt {i : Nat} (h : Sack w B L) (hi : L[i]? = some (solo e z n v X)) (hG : GrewZ w w' B e z n m v g cap X Z) : Sack w' B (L.set i (solo e z (n + m) (.slice (some ⟨g, 0, none⟩) (n + m) cap) (X ++ Z))) :=
  ((h.perm (permAt hi).symm).growSelf hG).perm (permSet _ (get_lt hi))
/-- What is written to a box of another kind is none of the rows'. -/
theorem Sack.box {F : Nat → Prop} {b : Nat} {cs : Array Value} {t : TypeId} (h : Sack w B L) (hb : w.heap[b]? = some (.cells cs t (0, 0))) (ht : ∀ p ∈ L, p.e ≠ t) (hk : Keeps F w w') (hF : ∀ q, F q → q < w.heap.size → q = b) : Sack w' B L :=
  h.keep hk fun p hp q hq f => by
    obtain ⟨c, hc⟩ := (h.all p hp).typed hq
    obtain rfl := hF q f (lt_of_block hc)
    rw [hb] at hc
    simp only [Option.some.injEq, Obj.cells.injEq] at hc
    exact ht p hp hc.2.1.symm
end
end Go.Proofs.YtklkhegeeglfbaaGreatDoor
namespace Go.Proofs.YtklkhegeeglfbaaGreatDoor
open Go.RowKit Go.Maps

def roomT : Txt := [114, 111, 111, 109]
def roomF (i : Nat) : FieldA := ⟨roomT, 100 + (i : Int), false⟩
/-- The first j marks. -/
def roomsF (j : Nat) : List FieldA := (List.range j).map roomF
theorem roomsF_succ (j : Nat) : roomsF (j + 1) = roomsF j ++ [roomF j] := by simp [roomsF, List.range_succ]
theorem roomsF_len (j : Nat) : (roomsF j).length = j := by simp [roomsF]
theorem fcs_app (a b : List FieldA) : fcs (a ++ b) = fcs a ++ fcs b := by simp [fcs]
theorem fcs_ones (l : List FieldA) : ∀ u ∈ fcs l, u.oneCell' = true := by
  intro u hu
  unfold fcs at hu
  obtain ⟨f, _, hf⟩ := List.mem_flatMap.1 hu
  have hf' : u ∈ [str f.name, .int .i64 f.type, .bool f.opt] := hf
  simp only [List.mem_cons, List.not_mem_nil, or_false] at hf'
  rcases hf' with rfl | rfl | rfl <;> rfl
/-- A field appended to a row of one's own. -/
theorem wpList_append_fld {w : World} {ops : Array Oper} {rest : List Oper} {o : Oper} {a : Act} {Q : Exit → Act → World → Prop} (hgd : o.guard = none) (s x : Operand)
    (ho : o.op = .call { callee := .builtin .append, args := #[s, x], argTypes := #[24, 24] }) (base : Nat) (v : Value) (n : Nat) (xs : List Value) (hs : a.eval s = v) (hown : w.ownsRow base 69 3 v n xs)
    (ad c : Nat) (f : FieldA) (hx : a.eval x = .slice (some ⟨ad, 0, none⟩) 1 c) (hu : w.ownsRow 0 69 3 (.slice (some ⟨ad, 0, none⟩) 1 c) 1 (fcs [f])) (hl : n + 1 ≤ 4398046511104) (hbase : base ≤ w.heap.size)
    (h : ∀ v' w', w'.ownsRow base 69 3 v' (n + 1) (xs ++ fcs [f]) → w.grownBy w' v.ownBlock → wpList Tryz.prog ops Q rest (a.put o.dst v') w') : wpList Tryz.prog ops Q (o :: rest) a w :=
  wpList_plain hgd fun _ hK => by
    obtain ⟨i0, hi, hz0, hz1, hz2⟩ := info_parts Tryz.info69
    obtain ⟨v', w', hr, h2, h3, _⟩ := run_append_own_at (P := Tryz.prog) w base 24 o.type 69 i0 _ 3 32 Tryz.underlying24 hi hz0 hz1 hz2 rfl (by omega) v n xs hown ⟨ad, 0, none⟩ 1 c (fcs [f]) (by rw [fcs_length]; rfl) (hu.cells rfl) (fcs_ones [f]) (by unfold maxLen; omega) (by omega) hbase
    unfold Oper.wp execOp
    simp only [ho, resolve, invoke, builtin, Sem.run_bind, Sem.run_pure, Result.andThen_ok, List.map_toArray, List.map_cons, List.map_nil, hs, hx, hr]
    exact hK _ _ (h v' w' h2 h3)
theorem fld_lit (w : World) (a : Txt) (t : Int) (b : Bool) : (w.alloc (.cells #[str a, .int .i64 t, .bool b] 69)).ownsRow 0 69 3 (.slice (some ⟨w.heap.size, 0, none⟩) 1 1) 1 (fcs [⟨a, t, b⟩]) :=
  World.ownsRow_lit (base := 0) (e := 69) (size := 3) w #[str a, .int .i64 t, .bool b] 1 (Nat.zero_le _) (by unfold maxLen; omega) (by simp)
set_option maxRecDepth 100000 in
set_option maxHeartbeats 4000000 in
theorem roomFields_v (S : List FieldA) (v : Value) (w : World) (h : FldsAt w v S) (hn : S.length + 64 ≤ 4398046511104) :
    Calls Tryz.prog 47 #[.agg #[v]] w fun e w' => ∃ g cap, e = .returned (.tuple #[.agg #[.slice (some ⟨g, 0, none⟩) S.length cap], .slice (some ⟨g, 0, none⟩) (S.length + 64) cap]) ∧ w'.ownsRow w.heap.size 69 3 (.slice (some ⟨g, 0, none⟩) (S.length + 64) cap) (S.length + 64) (fcs (S ++ roomsF 64)) ∧ Keeps (fun _ => False) w w' := by
  obtain ⟨so, sc, rfl⟩ := RowAt.form h
  obtain ⟨X, hX⟩ : ∃ X, (w.alloc (.cells #[.slice so S.length sc] 26)).alloc (.cells #[.slice none 0 0] 26) = X := ⟨_, rfl⟩
  have hk1 : Keeps (fun _ => False) w (w.alloc (.cells #[.slice so S.length sc] 26)) := (Keeps.refl _ w).alloc _
  have hk2 : Keeps (fun _ => False) (w.alloc (.cells #[.slice so S.length sc] 26)) X := by rw [← hX]; exact (Keeps.refl _ _).alloc _
  have hq : X.heap[w.heap.size]? = some (.cells #[.slice so S.length sc] 26 (0, 0)) := (hk2.block _ (by simp) id).trans (heap_alloc_new w _)
  have hz : X.heap[w.heap.size + 1]? = some (.cells #[.slice none 0 0] 26 (0, 0)) := by
    have := heap_alloc_new (w.alloc (.cells #[.slice so S.length sc] 26)) (.cells #[.slice none 0 0] 26)
    rw [hX] at this
    simpa using this
  have hxs : w.heap.size + 2 ≤ X.heap.size := by rw [← hX]; simp
  have hkx := hk1.trans hk2
  have HX := hide hX
  have HQ := hide hq
  have HZ := hide hz
  have HKX := hide hkx
  have HL := hide h
  have HNN := hide hn
  clear hk1 hk2 hkx hq hz h hX
  go_enter Tryz.func47, Tryz.ntmps47
  go_wp2_with fail
  rw [unhide HX]
  go_loopw [4, 5] (fun vv i wr => ∃ j : Nat, j ≤ S.length ∧ i = .int .i64 (j : Int) ∧ Hid (wr.ownsRow (w.heap.size + 2) 69 3 vv j (fcs (S.take j))) ∧ Hid (wr.heap[w.heap.size]? = some (.cells #[.slice so S.length sc] 26 (0, 0))) ∧ Hid (wr.heap[w.heap.size + 1]? = some (.cells #[.slice none 0 0] 26 (0, 0))) ∧ Hid (Keeps (fun _ => False) w wr) ∧ w.heap.size + 2 ≤ wr.heap.size) (fun _ i _ => S.length - (intOf i).toNat)
  case atStart => exact ⟨0, Nat.zero_le _, rfl, by show World.ownsRow _ _ _ _ _ _ _; simpa [fcs] using World.ownsRow_nil X (w.heap.size + 2) 69 3, HQ, HZ, HKX, hxs⟩
  case round =>
    clear HQ HZ HKX hxs
    obtain ⟨j, hj, rfl, HO, HQ, HZ, HK, hs⟩ := hrel
    obtain ⟨vo, vc, rfl⟩ := (rowAt_own (unhide HO)).form
    have q0 := (cell_of_blk (unhide HQ) 0).trans (show _ = some (Value.slice so S.length sc) from rfl)
    by_cases hlt : j < S.length
    · obtain ⟨b, off, cap', e, hb, hc⟩ := (unhide HL).cells (by omega)
      simp only [Value.slice.injEq] at e
      obtain ⟨rfl, _, rfl⟩ := e
      obtain ⟨f, hf⟩ : ∃ f, S[j]? = some f := ⟨_, List.getElem?_eq_getElem hlt⟩
      obtain ⟨y0, y1, y2⟩ := hc j f hf
      have y0 := ((unhide HK).cell hb id).trans y0
      have y1 := ((unhide HK).cell hb id).trans y1
      have y2 := ((unhide HK).cell hb id).trans y2
      have HFL := hide (fld_lit wr f.name f.type f.opt)
      have HOA := hide ((unhide HO).alloc (.cells #[str f.name, .int .i64 f.type, .bool f.opt] 69))
      have i1 : (j : Int) < (S.length : Int) := by omega
      have i2 : (0 : Int) ≤ (j : Int) := by omega
      have hl_ : j + 1 ≤ 4398046511104 := by have := unhide HNN; omega
      have hb_ : w.heap.size + 2 ≤ (wr.alloc (.cells #[str f.name, .int .i64 f.type, .bool f.opt] 69)).heap.size := by simp; omega
      clear hc
      go_wp2_with (at_builtin; refine wpList_append_fld rfl _ _ rfl (w.heap.size + 2) _ j _ rfl (unhide HOA) _ 1 ⟨f.name, f.type, f.opt⟩ rfl (unhide HFL) hl_ hb_ ?_)
      intro v5 w5 ho5 hg5
      have hkg : Keeps (fun q => (Value.slice vo j vc).ownBlock = some q) wr w5 := ((Keeps.refl (fun _ => False) wr).alloc (.cells #[str f.name, .int .i64 f.type, .bool f.opt] 69)).any.trans ((Keeps.refl _ _).grown hg5 (fun q e _ => e))
      have hge : ∀ q, (Value.slice vo j vc).ownBlock = some q → w.heap.size + 2 ≤ q := fun q e => own_geO (unhide HO) e
      have HQ5 := hide ((hkg.block _ (lt_of_block (unhide HQ)) (fun e => by have := hge _ e; omega)).trans (unhide HQ))
      have HZ5 := hide ((hkg.block _ (lt_of_block (unhide HZ)) (fun e => by have := hge _ e; omega)).trans (unhide HZ))
      have HK5 := hide (narrowO (unhide HK) hkg (fun q e => by have := hge q e; omega))
      have hs5 : w.heap.size + 2 ≤ w5.heap.size := by have := hkg.size; omega
      have HO5 : Hid (w5.ownsRow (w.heap.size + 2) 69 3 v5 (j + 1) (fcs (S.take (j + 1)))) := by
        show World.ownsRow _ _ _ _ _ _ _
        rw [take_snoc _ _ _ hf, fcs_app]
        exact ho5
      clear ho5 hg5 hkg hge HOA HFL HO HQ HZ HK
      go_wp2_with fail
      go_roundw
      case rel => exact ⟨j + 1, by omega, by go_num, HO5, HQ5, HZ5, HK5, hs5⟩
      case measure => simp [intOf]; omega
    · obtain rfl : j = S.length := by omega
      have i1 : ¬ (S.length : Int) < (S.length : Int) := by omega
      have HO0 : Hid (wr.ownsRow (w.heap.size + 2) 69 3 (.slice vo S.length vc) (S.length + 0) (fcs (S ++ roomsF 0))) := by
        have := unhide HO
        rw [List.take_length] at this
        show World.ownsRow _ _ _ _ _ _ _
        simpa [roomsF] using this
      clear HO hlt hj
      obtain ⟨w3, rfl⟩ : ∃ W, W = wr := ⟨_, rfl⟩
      go_wp2_with fail
      go_loopw [4, 6] (fun vv i wr => ∃ j : Nat, j ≤ 64 ∧ i = .int .i64 (j : Int) ∧ Hid (wr.ownsRow (w.heap.size + 2) 69 3 vv (S.length + j) (fcs (S ++ roomsF j))) ∧ Hid (wr.heap[w.heap.size]? = some (.cells #[.slice so S.length sc] 26 (0, 0))) ∧ Hid (wr.heap[w.heap.size + 1]? = some (.cells #[.slice none 0 0] 26 (0, 0))) ∧ Hid (Keeps (fun _ => False) w wr) ∧ w.heap.size + 2 ≤ wr.heap.size) (fun _ i _ => 64 - (intOf i).toNat)
      case atStart => exact ⟨0, by omega, rfl, HO0, HQ, HZ, HK, hs⟩
      case round =>
        clear HO0 HQ HZ HK hs q0
        obtain ⟨j, hj, rfl, HO, HQ, HZ, HK, hs⟩ := hrel
        obtain ⟨vo, vc, rfl⟩ := (rowAt_own (unhide HO)).form
        by_cases hlt : j < 64
        · have i1 : (j : Int) < 64 := by omega
          have HFL := hide (fld_lit wr roomT (100 + (j : Int)) false)
          have HOA := hide ((unhide HO).alloc (.cells #[str roomT, .int .i64 (100 + (j : Int)), .bool false] 69))
          have hl_ : S.length + j + 1 ≤ 4398046511104 := by have := unhide HNN; omega
          have hb_ : w.heap.size + 2 ≤ (wr.alloc (.cells #[str roomT, .int .i64 (100 + (j : Int)), .bool false] 69)).heap.size := by simp; omega
          go_wp2_with (at_builtin; refine wpList_append_fld rfl _ _ rfl (w.heap.size + 2) _ (S.length + j) _ rfl (unhide HOA) _ 1 ⟨roomT, 100 + (j : Int), false⟩ rfl (unhide HFL) hl_ hb_ ?_)
          intro v5 w5 ho5 hg5
          have hkg : Keeps (fun q => (Value.slice vo (S.length + j) vc).ownBlock = some q) wr w5 := ((Keeps.refl (fun _ => False) wr).alloc (.cells #[str roomT, .int .i64 (100 + (j : Int)), .bool false] 69)).any.trans ((Keeps.refl _ _).grown hg5 (fun q e _ => e))
          have hge : ∀ q, (Value.slice vo (S.length + j) vc).ownBlock = some q → w.heap.size + 2 ≤ q := fun q e => own_geO (unhide HO) e
          have HQ5 := hide ((hkg.block _ (lt_of_block (unhide HQ)) (fun e => by have := hge _ e; omega)).trans (unhide HQ))
          have HZ5 := hide ((hkg.block _ (lt_of_block (unhide HZ)) (fun e => by have := hge _ e; omega)).trans (unhide HZ))
          have HK5 := hide (narrowO (unhide HK) hkg (fun q e => by have := hge q e; omega))
          have hs5 : w.heap.size + 2 ≤ w5.heap.size := by have := hkg.size; omega
          have HO5 : Hid (w5.ownsRow (w.heap.size + 2) 69 3 v5 (S.length + (j + 1)) (fcs (S ++ roomsF (j + 1)))) := by
            show World.ownsRow _ _ _ _ _ _ _
            rw [roomsF_succ, ← List.append_assoc, fcs_app, ← Nat.add_assoc]
            exact ho5
          clear ho5 hg5 hkg hge HOA HFL HO HQ HZ HK
          go_wp2_with fail
          go_roundw
          case rel => exact ⟨j + 1, by omega, by go_num, HO5, HQ5, HZ5, HK5, hs5⟩
          case measure => simp [intOf]; omega
        · obtain rfl : j = 64 := by omega
          obtain ⟨g, rfl, hg, hcap⟩ : ∃ g, vo = some ⟨g, 0, none⟩ ∧ w.heap.size + 2 ≤ g ∧ S.length + 64 ≤ vc := by
            rcases (unhide HO).2 with ⟨_, h0⟩ | ⟨g, cp, cur, a1, a2, a3, a4, _⟩
            · omega
            · simp only [Value.slice.injEq] at a1
              obtain ⟨rfl, _, rfl⟩ := a1
              exact ⟨g, rfl, a2, a4⟩
          have q0 := (cell_of_blk (unhide HQ) 0).trans (show _ = some (Value.slice so S.length sc) from rfl)
          have z0 := (cell_of_blk (unhide HZ) 0).trans (show _ = some (Value.slice none 0 0) from rfl)
          have zf : wr.frozen? ⟨w.heap.size + 1, 0, none⟩ = false := Lib.frozen_of_heap (unhide HZ) 0
          have c1 : (S.length : Int) ≤ (vc : Int) := by omega
          have c2 : S.length ≤ vc := by omega
          have hst := heap_setCell_at (o := 0) (unhide HZ) (.slice (some ⟨g, 0, none⟩) S.length vc)
          have hks := keeps_set wr (w.heap.size + 1) 0 (.slice (some ⟨g, 0, none⟩) S.length vc)
          have HOZ := hide (ownsRow_kept (unhide HO) hks (fun q e => by have := own_geO (unhide HO) e; omega))
          have HKZ := hide (narrowO (unhide HK) hks (fun q e => by omega))
          have HST := hide hst
          clear hst hks HO HQ HZ HK
          go_wp2_with fail
          exact bodyPost_ret (results_cr rfl _ _ (w.heap.size + 1) 26 _ (0, 0) _ _ rfl rfl (unhide HST) Tryz.underlying26 rfl (by kernel_rfl)) rfl ⟨g, vc, rfl, ownsRow_low (unhide HOZ) (by omega), unhide HKZ⟩
set_option maxRecDepth 100000 in
set_option maxHeartbeats 4000000 in
theorem fieldsKept_v (S : List FieldA) (v sv : Value) (w : World) (h : FldsAt w v (S ++ roomsF 64)) (hS : FldsAt w sv S) (hn : S.length + 64 ≤ 4398046511104) :
    Calls Tryz.prog 50 #[v, .agg #[sv]] w fun e w' => e = .returned (.bool true) ∧ Keeps (fun _ => False) w w' := by
  have hlen : (S ++ roomsF 64).length = S.length + 64 := by simp [roomsF]
  obtain ⟨so, sc, rfl⟩ := RowAt.form hS
  obtain ⟨b, off, cap, rfl, hb, hc⟩ := h.cells (by omega)
  rw [hlen]
  have hm : ∀ k f, S[k]? = some f → w.cell? ⟨b, off + k * 3, none⟩ = some (str f.name) ∧ w.cell? ⟨b, off + k * 3 + 1, none⟩ = some (.int .i64 f.type) ∧ w.cell? ⟨b, off + k * 3 + 2, none⟩ = some (.bool f.opt) := fun k f hk =>
    hc k f (by rw [List.getElem?_append_left (List.getElem?_eq_some_iff.1 hk).1]; exact hk)
  have hr : ∀ k, k < 64 → w.cell? ⟨b, off + (S.length + k) * 3, none⟩ = some (.string ⟨#[114, 111, 111, 109]⟩) ∧ w.cell? ⟨b, off + (S.length + k) * 3 + 1, none⟩ = some (.int .i64 (100 + (k : Int))) := fun k hk => by
    have := hc (S.length + k) (roomF k) (by
      rw [List.getElem?_append_right (by omega), Nat.add_sub_cancel_left]
      simp [roomsF, hk])
    exact ⟨this.1, this.2.1⟩
  obtain ⟨HK0, hbs0, hbc⟩ := boxed w #[.slice so S.length sc] 26
  have s0 := hbc 0 (.slice so S.length sc) rfl
  have HM := hide hm
  have HR := hide hr
  have HS := hide hS
  have HNN := hide hn
  have HK := hide HK0
  clear hm hr hS hn hc h hlen hbc HK0
  go_enter Tryz.func50, Tryz.ntmps50
  go_wp2_with fail
  generalize w.alloc (.cells #[.slice so S.length sc] 26) = w1 at *
  go_loopw [6] (fun i wr => ∃ j : Nat, j ≤ S.length ∧ i = .int .i64 (j : Int) ∧ ∃ n, wr = w1.drewN n) (fun i _ => S.length - (intOf i).toNat)
  case atStart => exact ⟨0, Nat.zero_le _, rfl, 0, rfl⟩
  case round =>
    obtain ⟨j, hj, rfl, n, rfl⟩ := hrel
    have hnn := unhide HNN
    by_cases hlt : j < S.length
    · obtain ⟨f, hf⟩ : ∃ f, S[j]? = some f := ⟨_, List.getElem?_eq_getElem hlt⟩
      obtain ⟨b2, o2, c2, e2, hb2, hc2⟩ := (unhide HS).cells (by omega)
      simp only [Value.slice.injEq] at e2
      obtain ⟨rfl, _, rfl⟩ := e2
      obtain ⟨p0, p1, p2⟩ := unhide HM j f hf
      obtain ⟨q0, q1, q2⟩ := hc2 j f hf
      have p0 := ((unhide HK).cell hb id).trans p0
      have p1 := ((unhide HK).cell hb id).trans p1
      have p2 := ((unhide HK).cell hb id).trans p2
      have q0 := ((unhide HK).cell hb2 id).trans q0
      have q1 := ((unhide HK).cell hb2 id).trans q1
      have q2 := ((unhide HK).cell hb2 id).trans q2
      have i1 : (j : Int) < (S.length : Int) := by omega
      have i2 : (0 : Int) ≤ (j : Int) := by omega
      have i3 : (j : Int) < ((S.length + 64 : Nat) : Int) := by omega
      clear hc2 hf
      obtain ⟨fn, ft, fo⟩ := f
      simp only at *
      go_wp2_with fail
      go_quiet (fail)
      go_wp2
      go_roundw
      case rel => exact ⟨j + 1, by omega, by go_num, _, rfl⟩
      case measure => simp [intOf]; omega
    · obtain rfl : j = S.length := by omega
      have i1 : ¬ (S.length : Int) < (S.length : Int) := by omega
      go_wp2_with fail
      go_loopw [7] (fun i wr => ∃ j : Nat, j ≤ 64 ∧ i = .int .i64 (j : Int) ∧ ∃ n, wr = w1.drewN n) (fun i _ => 64 - (intOf i).toNat)
      case atStart => exact ⟨0, Nat.zero_le _, rfl, n, rfl⟩
      case round =>
        obtain ⟨j, hj, rfl, n, rfl⟩ := hrel
        by_cases hlt : j < 64
        · obtain ⟨p0, p1⟩ := unhide HR j hlt
          have p0 := ((unhide HK).cell hb id).trans p0
          have p1 := ((unhide HK).cell hb id).trans p1
          have i1 : (j : Int) < 64 := by omega
          have i2 : (0 : Int) ≤ (S.length : Int) + (j : Int) := by omega
          have i3 : (S.length : Int) + (j : Int) < ((S.length + 64 : Nat) : Int) := by omega
          go_wp2_with fail
          go_roundw
          case rel => exact ⟨j + 1, by omega, by go_num, n, rfl⟩
          case measure => simp [intOf]; omega
        · obtain rfl : j = 64 := by omega
          go_wp2_with fail
          go_ret
          exact ⟨rfl, (unhide HK).drewN _⟩
end Go.Proofs.YtklkhegeeglfbaaGreatDoor
namespace Go.Proofs.YtklkhegeeglfbaaGreatDoor
open Go.RowKit Go.Maps

theorem vcs_app (a b : List ValA) : vcs (a ++ b) = vcs a ++ vcs b := by simp [vcs]
theorem vcs_ones (l : List ValA) : ∀ u ∈ vcs l, u.oneCell' = true := by
  intro u hu
  unfold vcs at hu
  obtain ⟨f, _, hf⟩ := List.mem_flatMap.1 hu
  have hf' : u ∈ [Value.int .i64 f.kind, .int .i64 f.n, str f.s] := hf
  simp only [List.mem_cons, List.not_mem_nil, or_false] at hf'
  rcases hf' with rfl | rfl | rfl <;> rfl
theorem bs_app (a b : Txt) : bs (a ++ b) = bs a ++ bs b := by simp [bs]
theorem bs_ones (l : Txt) : ∀ u ∈ bs l, u.oneCell' = true := by
  intro u hu
  unfold bs at hu
  obtain ⟨c, _, rfl⟩ := List.mem_map.1 hu
  rfl
theorem own_keepF {w w' : World} {B e z n : Nat} {v : Value} {xs : List Value} (h : w.ownsRow B e z v n xs) (hk : Keeps (fun _ => False) w w') : w'.ownsRow B e z v n xs := ownsRow_kept h hk (fun _ _ => id)
theorem own_alloc {w : World} {B e z n : Nat} {v : Value} {xs : List Value} (h : w.ownsRow B e z v n xs) (o : Obj) : (w.alloc o).ownsRow B e z v n xs := own_keepF h ((Keeps.refl _ _).alloc _)
theorem val_lit (w : World) (k n : Int) (s : Txt) : (w.alloc (.cells #[.int .i64 k, .int .i64 n, str s] 40)).ownsRow 0 40 3 (.slice (some ⟨w.heap.size, 0, none⟩) 1 1) 1 (vcs [⟨k, n, s⟩]) :=
  World.ownsRow_lit (base := 0) (e := 40) (size := 3) w #[.int .i64 k, .int .i64 n, str s] 1 (Nat.zero_le _) (by unfold maxLen; omega) (by simp)
theorem byte_lit (w : World) (x : Int) (c : UInt8) (hx : num c = x) : (w.alloc (.cells #[.int .u8 x] 5)).ownsRow 0 5 1 (.slice (some ⟨w.heap.size, 0, none⟩) 1 1) 1 (bs [c]) := by
  subst hx
  exact World.ownsRow_lit (base := 0) (e := 5) (size := 1) w #[.int .u8 (num c)] 1 (Nat.zero_le _) (by unfold maxLen; omega) (by simp)
section
variable {w : World} {ops : Array Oper} {rest : List Oper} {o : Oper} {a : Act} {Q : Exit → Act → World → Prop}
/-- A value appended to a row of one's own. -/
theorem append_val (hgd : o.guard = none) (s x : Operand)
    (ho : o.op = .call { callee := .builtin .append, args := #[s, x], argTypes := #[23, 23] }) (base : Nat) (v : Value) (n : Nat) (xs : List Value) (hs : a.eval s = v) (hown : w.ownsRow base 40 3 v n xs)
    (ad c : Nat) (f : ValA) (hx : a.eval x = .slice (some ⟨ad, 0, none⟩) 1 c) (hu : w.ownsRow 0 40 3 (.slice (some ⟨ad, 0, none⟩) 1 c) 1 (vcs [f])) (hl : n + 1 ≤ 4398046511104) (hbase : base ≤ w.heap.size)
    (h : ∀ g cap w', GrewZ w w' base 40 3 n 1 v g cap xs (vcs [f]) → wpList Tryz.prog ops Q rest (a.put o.dst (.slice (some ⟨g, 0, none⟩) (n + 1) cap)) w') : wpList Tryz.prog ops Q (o :: rest) a w := by
  obtain ⟨i0, hi, hz0, hz1, hz2⟩ := info_parts Tryz.info40
  exact append_two (P := Tryz.prog) w hgd s x 23 ho base 40 i0 _ 3 32 Tryz.underlying23 hi hz0 hz1 hz2 rfl (by omega) v n xs hs hown _ 1 c (vcs [f]) hx (by rw [vcs_length]; rfl) (hu.cells rfl) (vcs_ones [f]) (by omega) (by unfold maxLen; omega) (by omega) hbase (fun g cap w' h1 h2 => h g cap w' ⟨h1, h2⟩)
theorem append_fldZ (hgd : o.guard = none) (s x : Operand)
    (ho : o.op = .call { callee := .builtin .append, args := #[s, x], argTypes := #[24, 24] }) (base : Nat) (v : Value) (n : Nat) (xs : List Value) (hs : a.eval s = v) (hown : w.ownsRow base 69 3 v n xs)
    (ad c : Nat) (f : FieldA) (hx : a.eval x = .slice (some ⟨ad, 0, none⟩) 1 c) (hu : w.ownsRow 0 69 3 (.slice (some ⟨ad, 0, none⟩) 1 c) 1 (fcs [f])) (hl : n + 1 ≤ 4398046511104) (hbase : base ≤ w.heap.size)
    (h : ∀ g cap w', GrewZ w w' base 69 3 n 1 v g cap xs (fcs [f]) → wpList Tryz.prog ops Q rest (a.put o.dst (.slice (some ⟨g, 0, none⟩) (n + 1) cap)) w') : wpList Tryz.prog ops Q (o :: rest) a w := by
  obtain ⟨i0, hi, hz0, hz1, hz2⟩ := info_parts Tryz.info69
  exact append_two (P := Tryz.prog) w hgd s x 24 ho base 69 i0 _ 3 32 Tryz.underlying24 hi hz0 hz1 hz2 rfl (by omega) v n xs hs hown _ 1 c (fcs [f]) hx (by rw [fcs_length]; rfl) (hu.cells rfl) (fcs_ones [f]) (by omega) (by unfold maxLen; omega) (by omega) hbase (fun g cap w' h1 h2 => h g cap w' ⟨h1, h2⟩)
theorem append_byte (hgd : o.guard = none) (s x : Operand)
    (ho : o.op = .call { callee := .builtin .append, args := #[s, x], argTypes := #[30, 30] }) (base : Nat) (v : Value) (n : Nat) (xs : List Value) (hs : a.eval s = v) (hown : w.ownsRow base 5 1 v n xs)
    (ad c : Nat) (f : UInt8) (hx : a.eval x = .slice (some ⟨ad, 0, none⟩) 1 c) (hu : w.ownsRow 0 5 1 (.slice (some ⟨ad, 0, none⟩) 1 c) 1 (bs [f])) (hl : n + 1 ≤ 4398046511104) (hbase : base ≤ w.heap.size)
    (h : ∀ g cap w', GrewZ w w' base 5 1 n 1 v g cap xs (bs [f]) → wpList Tryz.prog ops Q rest (a.put o.dst (.slice (some ⟨g, 0, none⟩) (n + 1) cap)) w') : wpList Tryz.prog ops Q (o :: rest) a w := by
  obtain ⟨i0, hi, hz0, hz1, hz2⟩ := info_parts Tryz.info5
  exact append_two (P := Tryz.prog) w hgd s x 30 ho base 5 i0 _ 1 1 Tryz.underlying30 hi hz0 hz1 hz2 rfl (by omega) v n xs hs hown _ 1 c (bs [f]) hx (by rw [bs_length]; rfl) (hu.cells rfl) (bs_ones [f]) (by omega) (by unfold maxLen; omega) (by omega) hbase (fun g cap w' h1 h2 => h g cap w' ⟨h1, h2⟩)
end
def roomV (i : Nat) : ValA := ⟨8, (i : Int), roomT⟩
def roomsV (j : Nat) : List ValA := (List.range j).map roomV
theorem roomsV_succ (j : Nat) : roomsV (j + 1) = roomsV j ++ [roomV j] := by simp [roomsV, List.range_succ]
theorem roomsV_len (j : Nat) : (roomsV j).length = j := by simp [roomsV]
def roomsB (j : Nat) : Txt := (List.range j).map fun i => UInt8.ofNat (100 + i)
theorem roomsB_succ (j : Nat) : roomsB (j + 1) = roomsB j ++ [UInt8.ofNat (100 + j)] := by simp [roomsB, List.range_succ]
theorem roomsB_len (j : Nat) : (roomsB j).length = j := by simp [roomsB]
theorem roomB_num {k : Nat} (h : k < 64) : num (UInt8.ofNat (100 + k)) = (100 : Int) + k := by
  unfold num
  rw [UInt8.toNat_ofNat']
  omega

set_option maxRecDepth 100000 in
set_option maxHeartbeats 1000000 in
theorem roomVals_v (w : World) (v : Value) (l : List ValA) (hR : ValsAt w v l) (hl : l.length ≤ 1073741824) :
    Calls Tryz.prog 48 #[v] w fun e w' => ∃ g cap, e = .returned (.tuple #[.slice (some ⟨g, 0, none⟩) l.length cap, .slice (some ⟨g, 0, none⟩) (l.length + 64) cap]) ∧ w'.ownsRow w.heap.size 40 3 (.slice (some ⟨g, 0, none⟩) (l.length + 64) cap) (l.length + 64) (vcs (l ++ roomsV 64)) ∧ Keeps (fun _ => False) w w' := by
  obtain ⟨ao, cap, rfl⟩ := RowAt.form hR
  have HC := hide (copyVals_any w _ l hR (by omega))
  have HL := hide hl
  clear hR
  go_enter Tryz.func48, Tryz.ntmps48
  go_wp2_with fail
  refine (unhide HC).mono ?_
  rintro e w1 ⟨v1, rfl, ho1, hk1⟩
  have HO1 : Hid (w1.ownsRow w.heap.size 40 3 v1 (l.length + 0) (vcs (l ++ roomsV 0))) := by show World.ownsRow _ _ _ _ _ _ _; rw [show roomsV 0 = [] from rfl, List.append_nil]; exact ho1
  have HK1 := hide hk1
  clear ho1 hk1
  go_wp2_with fail
  go_loopw [4, 5] (fun o i wr => ∃ k : Nat, k ≤ 64 ∧ i = .int .i64 k ∧ Hid (wr.ownsRow w.heap.size 40 3 o (l.length + k) (vcs (l ++ roomsV k))) ∧ Hid (Keeps (fun _ => False) w wr)) (fun _ i _ => 64 - (intOf i).toNat)
  case atStart => exact ⟨0, by omega, rfl, HO1, HK1⟩
  case round =>
    obtain ⟨k, hk, rfl, HO, HK⟩ := hrel
    by_cases hlt : k < 64
    · have i1 : (k : Int) < 64 := by omega
      have HW : Hid (w.heap.size ≤ wr.heap.size) := (unhide HK).size
      have HFL := hide (val_lit wr 8 (k : Int) roomT)
      go_wp2_with (at_builtin; refine append_val rfl _ _ rfl w.heap.size u4 (l.length + k) _ rfl (own_alloc (unhide HO) _) wr.heap.size 1 ⟨8, (k : Int), roomT⟩ rfl (unhide HFL) (by have := unhide HL; omega) (Nat.le_trans (unhide HW) (by simp)) ?_; intro g cap' w' HG)
      go_roundw
      case rel =>
        refine ⟨k + 1, by omega, by go_num, ?_, narrowO ((unhide HK).trans ((Keeps.refl _ _).alloc _)) HG.keeps (fun q e => own_geO (unhide HO) e)⟩
        show World.ownsRow _ _ _ _ _ _ _
        rw [roomsV_succ, ← List.append_assoc, vcs_app]
        exact HG.own
      case measure => simp [intOf]; omega
    · obtain rfl : k = 64 := by omega
      obtain ⟨g, c, rfl, _, _⟩ := (unhide HO).form (by omega)
      have i0 : (l.length : Int) ≤ (c : Int) := by
        have := (rowAt_own (unhide HO)).room _ _ _ rfl
        omega
      go_wp2_with fail
      go_ret2
      exact ⟨g, c, rfl, unhide HO, unhide HK⟩

set_option maxRecDepth 100000 in
set_option maxHeartbeats 1000000 in
theorem roomBytes_v (w : World) (v : Value) (l : Txt) (hR : BytesAt w v l) (hl : l.length ≤ 1073741824) :
    Calls Tryz.prog 49 #[v] w fun e w' => ∃ g cap, e = .returned (.tuple #[.slice (some ⟨g, 0, none⟩) l.length cap, .slice (some ⟨g, 0, none⟩) (l.length + 64) cap]) ∧ w'.ownsRow w.heap.size 5 1 (.slice (some ⟨g, 0, none⟩) (l.length + 64) cap) (l.length + 64) (bs (l ++ roomsB 64)) ∧ Keeps (fun _ => False) w w' := by
  obtain ⟨ao, cap, rfl⟩ := RowAt.form hR
  have HC := hide (copyBytes_any w _ l hR (by omega))
  have HL := hide hl
  clear hR
  go_enter Tryz.func49, Tryz.ntmps49
  go_wp2_with fail
  refine (unhide HC).mono ?_
  rintro e w1 ⟨v1, rfl, ho1, hk1⟩
  have HO1 : Hid (w1.ownsRow w.heap.size 5 1 v1 (l.length + 0) (bs (l ++ roomsB 0))) := by show World.ownsRow _ _ _ _ _ _ _; rw [show roomsB 0 = [] from rfl, List.append_nil]; exact ho1
  have HK1 := hide hk1
  clear ho1 hk1
  go_wp2_with fail
  go_loopw [4, 5] (fun o i wr => ∃ k : Nat, k ≤ 64 ∧ i = .int .i64 k ∧ Hid (wr.ownsRow w.heap.size 5 1 o (l.length + k) (bs (l ++ roomsB k))) ∧ Hid (Keeps (fun _ => False) w wr)) (fun _ i _ => 64 - (intOf i).toNat)
  case atStart => exact ⟨0, by omega, rfl, HO1, HK1⟩
  case round =>
    obtain ⟨k, hk, rfl, HO, HK⟩ := hrel
    by_cases hlt : k < 64
    · have i1 : (k : Int) < 64 := by omega
      have HW : Hid (w.heap.size ≤ wr.heap.size) := (unhide HK).size
      have HFL := hide (byte_lit wr _ _ (roomB_num hlt))
      go_wp2_with (at_builtin; refine append_byte rfl _ _ rfl w.heap.size u4 (l.length + k) _ rfl (own_alloc (unhide HO) _) wr.heap.size 1 (UInt8.ofNat (100 + k)) rfl (unhide HFL) (by have := unhide HL; omega) (Nat.le_trans (unhide HW) (by simp)) ?_; intro g cap' w' HG)
      go_roundw
      case rel =>
        refine ⟨k + 1, by omega, by go_num, ?_, narrowO ((unhide HK).trans ((Keeps.refl _ _).alloc _)) HG.keeps (fun q e => own_geO (unhide HO) e)⟩
        show World.ownsRow _ _ _ _ _ _ _
        rw [roomsB_succ, ← List.append_assoc, bs_app]
        exact HG.own
      case measure => simp [intOf]; omega
    · obtain rfl : k = 64 := by omega
      obtain ⟨g, c, rfl, _, _⟩ := (unhide HO).form (by omega)
      have i0 : (l.length : Int) ≤ (c : Int) := by
        have := (rowAt_own (unhide HO)).room _ _ _ rfl
        omega
      go_wp2_with fail
      go_ret2
      exact ⟨g, c, rfl, unhide HO, unhide HK⟩
end Go.Proofs.YtklkhegeeglfbaaGreatDoor
