import Derived.Test.YtoempeobaknkcaaGreatDoorJyal
import Derived.Test.YtoempeobaknkcaaGreatDoorJyaq
import Derived.ArgAppend
import Derived.Deep.DeepAppendRoom
import Derived.Laws.IdiomStrings
import Derived.Deep.DeepCutAuto
import Derived.BigRegion
import Derived.RegionTactic
import Derived.ChangeAlike
namespace Go.Proofs.YtoempeobaknkcaaGreatDoor
open Go.RowKit Go.Maps

theorem Tryz.info9 : (Tryz.prog.info? 9).map (fun i => (i.zero, i.size, i.bytes)) = some (some (.string ⟨#[]⟩), 1, 16) := by kernel_rfl
/-- The names of the fields that are meant, as cells. -/
def nmC (l : List Txt) : List Value := l.map str
def pick (S : List FieldA) (p : Txt → Bool) : List Txt := (S.map FieldA.name).filter p
theorem pick_snoc (S : List FieldA) (f : FieldA) (p : Txt → Bool) : pick (S ++ [f]) p = pick S p ++ (if p f.name then [f.name] else []) := by
  unfold pick
  rw [List.map_append, List.filter_append]
  simp [List.filter]
  split <;> simp_all
theorem pick_le (S : List FieldA) (p : Txt → Bool) : (pick S p).length ≤ S.length := by
  unfold pick
  have := List.length_filter_le p (S.map FieldA.name)
  simpa using this
theorem nmC_snoc (l : List Txt) (x : Txt) : nmC (l ++ [x]) = nmC l ++ [str x] := by simp [nmC]
/-- A list of names of one's own. -/
def NmAt (w : World) (base : Nat) (v : Value) (l : List Txt) : Prop := w.ownsRow base 9 1 v l.length (nmC l)

set_option maxRecDepth 100000 in
set_option maxHeartbeats 4000000 in
theorem namesOf_v (S : List FieldA) (hl : S.length ≤ 8) (hn : ∀ f ∈ S, f.name.length ≤ 8) (mb n : Nat) (c : Txt → Nat) (sv : Value) (w : World) (hf : FldsAt w sv S) (hC : Cnt w mb n c) :
    Calls Tryz.prog 35 #[.agg #[sv], .map (some mb)] w fun e w' => ∃ v, e = .returned v ∧ NmAt w' w.heap.size v (pick S (fun s => decide (0 < c s))) ∧ Keeps (fun _ => False) w w' := by
  obtain ⟨i0, hi, hz0, hz1, hz2⟩ := info_parts Tryz.info9
  obtain ⟨ao, cap, rfl⟩ := RowAt.form hf
  have HF := hide hf
  have HC := hide hC
  have HN := hide hn
  obtain ⟨HB, hxb, hxc⟩ := boxedT w #[.slice ao S.length cap] 24
  have c0 := hxc 0 (.slice ao S.length cap) rfl
  have hsz : (w.alloc (.cells #[.slice ao S.length cap] 24)).heap.size = w.heap.size + 1 := by simp
  clear hf hC hn hxc
  go_enter Tryz.func35, Tryz.ntmps35
  go_wp2_with fail
  go_loopw [5, 11] (fun o i wr => ∃ (k : Nat), i = .int .i64 k ∧ k ≤ S.length ∧ NmAt wr w.heap.size o (pick (S.take k) (fun s => decide (0 < c s))) ∧ Keeps (fun _ => False) w wr) (fun _ i _ => S.length - (intOf i).toNat)
  case atStart => exact ⟨0, rfl, Nat.zero_le _, World.ownsRow_nil _ w.heap.size 9 1, unhide HB⟩
  case round =>
    obtain ⟨k, rfl, hk, hown, hkeep⟩ := hrel
    obtain ⟨oo, oc, rfl⟩ := (rowAt_own hown).form
    have HO := hide hown
    have HK := hide hkeep
    cases h : S[k]? with
    | none =>
      have h1 := get_ge h
      obtain rfl : k = S.length := by omega
      have i1 : ¬ (S.length : Int) < (S.length : Int) := by omega
      clear h h1 hown hkeep hk
      go_wp2_with fail
      go_ret
      exact ⟨_, rfl, by have := unhide HO; rwa [List.take_length] at this, unhide HK⟩
    | some f =>
      have h1 := get_lt h
      have hfl := (unhide HN) f (List.mem_of_getElem? h)
      obtain ⟨b, off, c1, e, hbl, hc⟩ := (unhide HF).cells (by omega)
      simp at e
      obtain ⟨rfl, rfl⟩ := e
      have q0 := (hkeep.cell hbl id).trans (hc k f h).1
      have q1 := (hkeep.cell hbl id).trans (hc k f h).2.1
      have q2 := (hkeep.cell hbl id).trans (hc k f h).2.2
      have i1 : (k : Int) < (S.length : Int) := by omega
      have ix0 : (0 : Int) ≤ (k : Int) := by omega
      obtain ⟨HB2, hxb2, hxc2⟩ := boxedT wr #[str f.name, .int .i64 f.type, .bool f.opt] 67
      have y0 := hxc2 0 (str f.name) rfl
      have hlk := (((unhide HC).keep hkeep id).keep (unhide HB2) id).look (nm := f.name) (by omega)
      have HTK := hide (take_snoc _ _ _ h)
      have hm : (pick (S.take k) (fun s => decide (0 < c s))).length ≤ 8 := by have := pick_le (S.take k) (fun s => decide (0 < c s)); simp at this; omega
      have HPS := hide (pick_snoc (S.take k) f (fun s => decide (0 < c s)))
      by_cases hp : 0 < c f.name
      · have hpi : (0 : Int) < (c f.name : Int) := by omega
        have HP := hide hp
        have HNB := hide (heap_alloc_new (wr.alloc (.cells #[str f.name, .int .i64 f.type, .bool f.opt] 67)) (.cells #[str f.name] 9))
        have hs2 : (wr.alloc (.cells #[str f.name, .int .i64 f.type, .bool f.opt] 67)).heap.size = wr.heap.size + 1 := by simp
        rw [hs2] at HNB
        have HOX := hide (ownsRow_kept hown (((Keeps.refl (fun _ => False) wr).alloc (.cells #[str f.name, .int .i64 f.type, .bool f.opt] 67)).alloc (.cells #[str f.name] 9)) (fun _ _ => id))
        have hB0 := hkeep.size
        clear h hc hown hkeep hxc2 hp
        go_wp2_with (at_builtin; refine wpList_append_lies _ rfl _ _ _ rfl w.heap.size 9 i0 _ 1 16 Tryz.underlying29 hi hz0 hz1 hz2 rfl (by omega) (.slice oo _ oc) _ _ rfl (unhide HOX) ⟨wr.heap.size + 1, 0, none⟩ 1 1 [str f.name] rfl rfl (World.news_of_block (cs := #[str f.name]) (t := 9) (fr := (0, 0)) (unhide HNB)) (by simp [Value.oneCell']) (by omega) (by unfold maxLen; omega) (by omega) (by simp; omega) (wr.heap.size + 2) (by simp) ?_; intro g6 c6 w6 hown6 hgrow hat _; have HO6 := hide hown6; have HGR := hide hgrow; clear hown6 hgrow hat)
        go_roundw
        case rel =>
          refine ⟨k + 1, by go_num, by omega, ?_, (((unhide HK).alloc _).alloc _).grown (unhide HGR) (fun q e hq => by have := ((unhide HO).lt q e).1; omega)⟩
          rw [unhide HTK, unhide HPS, if_pos (by simpa using unhide HP)]
          unfold NmAt
          rw [nmC_snoc, List.length_append]
          exact unhide HO6
        case measure => simp [intOf]; omega
      · have hpi : ¬ (0 : Int) < (c f.name : Int) := by omega
        have HP := hide hp
        have HOX := hide (ownsRow_kept hown ((Keeps.refl (fun _ => False) wr).alloc (.cells #[str f.name, .int .i64 f.type, .bool f.opt] 67)) (fun _ _ => id))
        clear h hc hown hkeep hxc2 hp
        go_wp2_with fail
        go_roundw
        case rel =>
          refine ⟨k + 1, by go_num, by omega, ?_, (unhide HK).alloc _⟩
          rw [unhide HTK, unhide HPS, if_neg (by simpa using unhide HP), List.append_nil]
          exact unhide HOX
        case measure => simp [intOf]; omega
end Go.Proofs.YtoempeobaknkcaaGreatDoor
namespace Go.Proofs.YtoempeobaknkcaaGreatDoor
open Go.RowKit Go.Maps

theorem own_apart {w : World} {B e size n : Nat} {v : Value} {xs : List Value} {B' e' size' n' : Nat} {v' : Value} {xs' : List Value} (h : w.ownsRow B e size v n xs) (h' : w.ownsRow B' e' size' v' n' xs') (he : e ≠ e') (k : Nat) (hk : v.ownBlock = some k) (hk' : v'.ownBlock = some k) : False := by
  rcases h.2 with ⟨rfl, _⟩ | ⟨g, cap, cur, rfl, _, hg, _⟩
  · cases hk
  · rcases h'.2 with ⟨rfl, _⟩ | ⟨g', cap', cur', rfl, _, hg', _⟩
    · cases hk'
    · simp [Value.ownBlock] at hk hk'
      subst hk
      subst hk'
      rw [hg] at hg'
      simp only [Option.some.injEq, Obj.cells.injEq] at hg'
      exact he hg'.2.1
/-- append onto a row of one's own: in place, or into a new block with all old blocks as they were. -/
theorem append_two {P : Program} (w : World) {ops : Array Oper} {rest : List Oper} {o : Oper} {a : Act} {Q : Exit → Act → World → Prop} (hgd : o.guard = none) (s x : Operand) (t : TypeId)
    (ho : o.op = .call { callee := .builtin .append, args := #[s, x], argTypes := #[t, t] })
    (base : Nat) (e : TypeId) (i : TypeInfo) (z : Value) (size bytes : Nat) (ht : P.underlying t = some (.slice e)) (hi : P.info? e = some i) (hz : i.zero = some z)
    (hsize : i.size = size) (hby : i.bytes = bytes) (hzs : z.cells.size = size) (hsz : 0 < size)
    (v : Value) (n : Nat) (xs : List Value) (hs : a.eval s = v) (hown : w.ownsRow base e size v n xs)
    (ad : Addr) (m c : Nat) (news : List Value) (hx : a.eval x = .slice (some ad) m c) (hl : news.length = m * size) (hnews : ∀ j u, news[j]? = some u → w.cell? (ad.add j) = some u) (h1 : ∀ u ∈ news, u.oneCell' = true)
    (hm : 0 < m) (h63 : n + m ≤ maxLen) (hbytes : (n + m) * bytes ≤ 140737488355328) (hbase : base ≤ w.heap.size)
    (h : ∀ g cap w', w'.ownsRow base e size (.slice (some ⟨g, 0, none⟩) (n + m) cap) (n + m) (xs ++ news) → ((v = .slice (some ⟨g, 0, none⟩) n cap ∧ w.grownBy w' (some g)) ∨ (w.heap.size ≤ g ∧ w.grownBy w' none)) → wpList P ops Q rest (a.put o.dst (.slice (some ⟨g, 0, none⟩) (n + m) cap)) w') : wpList P ops Q (o :: rest) a w := by
  have grows : ∀ v' w', w'.ownsRow w.heap.size e size v' (n + m) (xs ++ news) → w.grownBy w' none → wpList P ops Q rest (a.put o.dst v') w' := by
    intro v' w' h2 h3
    obtain ⟨g, cap, rfl, hg, hlt⟩ := h2.form (by omega)
    exact h g cap w' (ownsRow_low h2 hbase) (Or.inr ⟨hg, h3⟩)
  rcases hown.2 with ⟨rfl, rfl⟩ | ⟨g, cap, cur, rfl, hbg, hg, hnc, hcm, hcs, htake⟩
  · have hx0 : xs = [] := List.eq_nil_of_length_eq_zero (by simpa using hown.1)
    subst hx0
    exact wpList_append_grows w hgd s x t ho e i z size bytes ht hi hz hsize hby hzs hsz none 0 0 [] hs (fun _ => ⟨rfl, rfl⟩) (by simp) (fun _ h => by cases h) ad m c news hx hl hnews h1 (by omega) h63 hbytes grows
  · by_cases hroom : n + m ≤ cap
    · refine wpList_append_own_spare w hgd s x t ho base e i size ht hi hsize g n cap xs hs hown ad m c news hx hl hnews h1 hroom (fun w' h2 h3 => ?_)
      exact h g cap w' h2 (Or.inl ⟨rfl, h3⟩)
    · refine wpList_append_grows w hgd s x t ho e i z size bytes ht hi hz hsize hby hzs hsz (some ⟨g, 0, none⟩) n cap xs hs (fun h => by cases h) hown.1 (fun b hb j u hu => ?_) ad m c news hx hl hnews h1 (by omega) h63 hbytes grows
      cases hb
      have hadd : (⟨g, 0, none⟩ : Addr).add j = ⟨g, j, none⟩ := by unfold Addr.add; split <;> simp_all
      rw [hadd, cell_of_row w g j cur e (0, 0) hg]
      rw [← htake] at hu
      rw [List.getElem?_take] at hu
      split at hu
      · simpa using hu
      · cases hu
/-- A shorter row at the head of a row, in the same block with the same room. -/
theorem own_head {w : World} {B e z n m g cap : Nat} {xs ys : List Value} (h : w.ownsRow B e z (.slice (some ⟨g, 0, none⟩) m cap) m (xs ++ ys)) (hn : xs.length = n * z) (hz : 0 < z) : w.ownsRow B e z (.slice (some ⟨g, 0, none⟩) n cap) n xs := by
  refine ⟨hn, Or.inr ?_⟩
  rcases h.2 with ⟨h0, _⟩ | ⟨g', cap', cur, hv, hbg, hg, hnc, hcm, hcs, htake⟩
  · cases h0
  · cases hv
    have hl := h.1
    rw [List.length_append, hn] at hl
    have hnm : n ≤ m := Nat.le_of_mul_le_mul_right (by omega : n * z ≤ m * z) hz
    refine ⟨g, cap, cur, rfl, hbg, hg, by omega, hcm, hcs, ?_⟩
    have : (cur.toList.take (m * z)).take (n * z) = xs := by rw [htake, ← hn]; exact List.take_left
    rwa [List.take_take, Nat.min_eq_left (by omega)] at this
theorem same_cap {w : World} {B C e z n m g c d : Nat} {xs ys : List Value} (h : w.ownsRow B e z (.slice (some ⟨g, 0, none⟩) n c) n xs) (h' : w.ownsRow C e z (.slice (some ⟨g, 0, none⟩) m d) m ys) (hz : 0 < z) : c = d := by
  rcases h.2 with ⟨h0, _⟩ | ⟨g', cap', cur, hv, _, hg, _, _, hcs, _⟩
  · cases h0
  · rcases h'.2 with ⟨h0, _⟩ | ⟨g2, cap2, cur2, hv2, _, hg2, _, _, hcs2, _⟩
    · cases h0
    · cases hv
      cases hv2
      rw [hg] at hg2
      simp only [Option.some.injEq, Obj.cells.injEq] at hg2
      obtain ⟨rfl, _⟩ := hg2
      exact Nat.eq_of_mul_eq_mul_right hz (hcs.symm.trans hcs2)
/-- A row, and a longer one that was grown out of it: the row stays while the longer one grows on. -/
theorem both_grow {w w' : World} {B C e z n m k g cap : Nat} {vx vm : Value} {xs ys zs : List Value} (hx : w.ownsRow B e z vx n xs) (hm : w.ownsRow C e z vm m (xs ++ ys)) (hz : 0 < z)
    (h' : w'.ownsRow C e z (.slice (some ⟨g, 0, none⟩) k cap) k (xs ++ ys ++ zs)) (hc : (vm = .slice (some ⟨g, 0, none⟩) m cap ∧ w.grownBy w' (some g)) ∨ (w.heap.size ≤ g ∧ w.grownBy w' none)) : w'.ownsRow B e z vx n xs := by
  rcases hc with ⟨rfl, hg⟩ | ⟨_, hg⟩
  · by_cases hb : vx.ownBlock = some g
    · have hb2 := own_geO hx hb
      rcases hx.2 with ⟨rfl, _⟩ | ⟨g1, c1, cur1, rfl, h1, h2, _⟩
      · cases hb
      · simp [Value.ownBlock] at hb
        subst hb
        obtain rfl := same_cap hx hm hz
        have hx1 := hx.1
        rw [List.append_assoc] at h'
        have := own_head h' hx1 hz
        exact ⟨this.1, this.2.imp id fun ⟨g, cap, cur, a1, a2, a3⟩ => ⟨g, cap, cur, a1, by simp only [Value.slice.injEq, Option.some.injEq, Addr.mk.injEq] at a1; omega, a3⟩⟩
    · exact ownsRow_kept hx ((Keeps.refl (fun q => q = g) w).grown hg (fun q e _ => by simpa using e.symm)) (fun q e e2 => hb (by rw [e, e2]))
  · exact ownsRow_kept hx ((Keeps.refl (fun _ => False) w).grown hg (fun q e _ => by cases e)) (fun _ _ => id)
theorem own_some {w : World} {B e z n m c : Nat} {o : Option Addr} {xs : List Value} (h : w.ownsRow B e z (.slice o n c) m xs) (hn : 0 < n) : ∃ g, o = some ⟨g, 0, none⟩ ∧ n ≤ c := by
  rcases h.2 with ⟨h0, _⟩ | ⟨g, cap, cur, hv, _, _, hnc, _⟩
  · simp only [Value.slice.injEq] at h0; omega
  · simp only [Value.slice.injEq] at hv
    obtain ⟨rfl, rfl, rfl⟩ := hv
    exact ⟨g, rfl, hnc⟩
theorem grow_keeps {w w' : World} {v : Value} {g n cap H : Nat} (hc : (v = .slice (some ⟨g, 0, none⟩) n cap ∧ w.grownBy w' (some g)) ∨ (H ≤ g ∧ w.grownBy w' none)) : Keeps (fun q => v.ownBlock = some q) w w' := by
  rcases hc with ⟨rfl, h⟩ | ⟨_, h⟩
  · exact (Keeps.refl _ _).grown h (fun q e _ => by simpa [Value.ownBlock] using e)
  · exact (Keeps.refl _ _).grown h (fun q e _ => by cases e)
theorem Tryz.info29' : (Tryz.prog.info? 29).map (fun i => (i.zero, i.size, i.bytes)) = some (some (.slice none 0 0), 1, 24) := by kernel_rfl
theorem nmC_app (a b : List Txt) : nmC (a ++ b) = nmC a ++ nmC b := by simp [nmC]
theorem nmC_len (a : List Txt) : (nmC a).length = a.length := by simp [nmC]
theorem nmC_set (l : List Txt) (i : Nat) (c : Txt) : nmC (l.set i c) = (nmC l).set i (str c) := by simp [nmC, List.map_set]

/-- A list of texts, and one that has grown out of it. -/
structure Itm where
  vx : Value
  X : List Txt
  vm : Value
  Y : List Txt
/-- A list that has not grown. -/
def lone1 (v : Value) (X : List Txt) : Itm := ⟨v, X, v, []⟩
def Itm.has (p : Itm) (b : Nat) : Prop := p.vx.ownBlock = some b ∨ p.vm.ownBlock = some b
def Itm.at_ (p : Itm) (w : World) (B : Nat) : Prop := NmAt w B p.vx p.X ∧ NmAt w B p.vm (p.X ++ p.Y)
def Itm.off (p q : Itm) : Prop := ∀ b, p.has b → ¬ q.has b
theorem Itm.off_symm {p q : Itm} (h : p.off q) : q.off p := fun b hq hp => h b hp hq
theorem Itm.at_.lt {p : Itm} {w : World} {B : Nat} (h : p.at_ w B) {b : Nat} (hb : p.has b) : B ≤ b ∧ b < w.heap.size := by
  rcases hb with e | e
  · exact ⟨own_geO h.1 e, own_lt h.1 e⟩
  · exact ⟨own_geO h.2 e, own_lt h.2 e⟩
theorem Itm.at_.typed {p : Itm} {w : World} {B : Nat} (h : p.at_ w B) {b : Nat} (hb : p.has b) : ∃ c, w.heap[b]? = some (.cells c 9 (0, 0)) := by
  rcases hb with e | e
  · exact (own_typed h.1 e).2
  · exact (own_typed h.2 e).2
theorem Itm.at_.keep {p : Itm} {w w' : World} {B : Nat} {F : Nat → Prop} (h : p.at_ w B) (hk : Keeps F w w') (hF : ∀ b, p.has b → ¬ F b) : p.at_ w' B :=
  ⟨ownsRow_kept h.1 hk (fun q e => hF q (Or.inl e)), ownsRow_kept h.2 hk (fun q e => hF q (Or.inr e))⟩
theorem Itm.at_.low {p : Itm} {w : World} {B C : Nat} (h : p.at_ w B) (hC : C ≤ B) : p.at_ w C := ⟨ownsRow_low h.1 hC, ownsRow_low h.2 hC⟩
theorem lone1_at {w : World} {B : Nat} {v : Value} {X : List Txt} (h : NmAt w B v X) : (lone1 v X).at_ w B := ⟨h, by show NmAt w B v (X ++ []); rwa [List.append_nil]⟩
theorem lone1_has {v : Value} {X : List Txt} {b : Nat} (h : (lone1 v X).has b) : v.ownBlock = some b := h.elim id id
/-- Lists of texts that share nothing with one another. -/
structure Bag (w : World) (B : Nat) (L : List Itm) : Prop where
  all : ∀ p ∈ L, p.at_ w B
  apart : L.Pairwise Itm.off
section
variable {w w' : World} {B : Nat} {L M : List Itm}
theorem Bag.keep {F : Nat → Prop} (h : Bag w B L) (hk : Keeps F w w') (hF : ∀ p ∈ L, ∀ b, p.has b → ¬ F b) : Bag w' B L :=
  ⟨fun p hp => (h.all p hp).keep hk (hF p hp), h.apart⟩
theorem Bag.keepF (h : Bag w B L) (hk : Keeps (fun _ => False) w w') : Bag w' B L := h.keep hk (fun _ _ _ _ => id)
theorem Bag.perm (h : Bag w B L) (hp : L.Perm M) : Bag w B M :=
  ⟨fun p hm => h.all p (hp.mem_iff.2 hm), (hp.pairwise_iff (fun h => Itm.off_symm h)).1 h.apart⟩
theorem Bag.nil : Bag w B [] := ⟨fun p h => (by cases h), List.Pairwise.nil⟩
theorem Bag.lt (h : Bag w B L) {p : Itm} (hp : p ∈ L) {b : Nat} (hb : p.has b) : B ≤ b ∧ b < w.heap.size := (h.all p hp).lt hb
/-- One more, in new memory. -/
theorem Bag.new {p : Itm} (h : Bag w B L) (hB : B ≤ w.heap.size) (hk : Keeps (fun _ => False) w w') (hp : p.at_ w' w.heap.size) : Bag w' B (p :: L) := by
  refine ⟨fun q hq => ?_, List.Pairwise.cons (fun q hq b hb hqb => ?_) h.apart⟩
  · rcases List.mem_cons.1 hq with rfl | hq
    · exact hp.low hB
    · exact (h.all q hq).keep hk (fun _ _ => id)
  · have h1 := (hp.lt hb).1
    have h2 := (h.lt hq hqb).2
    omega
/-- The first list is written over at one place. -/
theorem Bag.set {g n c j : Nat} {X : List Txt} {m : Txt} (h : Bag w B (lone1 (.slice (some ⟨g, 0, none⟩) n c) X :: L)) : Bag (w.setCell ⟨g, j, none⟩ (str m)) B (lone1 (.slice (some ⟨g, 0, none⟩) n c) (X.set j m) :: L) := by
  have hh := h.all _ (List.mem_cons_self ..)
  have hk : Keeps (fun q => q = g) w (w.setCell ⟨g, j, none⟩ (str m)) := keeps_set _ _ _ _
  have h1 : NmAt w B (.slice (some ⟨g, 0, none⟩) n c) X := hh.1
  obtain rfl : n = X.length := by
    rcases h1.2 with ⟨h0, _⟩ | ⟨g', cap, cur, hv, _⟩
    · cases h0
    · simp only [Value.slice.injEq] at hv
      exact hv.2.1
  obtain ⟨h2, h3⟩ := List.pairwise_cons.1 h.apart
  refine ⟨fun q hq => ?_, List.Pairwise.cons (fun q hq b hb => h2 q hq b (lone1_has hb |> Or.inl)) h3⟩
  rcases List.mem_cons.1 hq with rfl | hq
  · refine lone1_at ?_
    have := (World.ownsRow.stored h1 j (str m)).1
    unfold NmAt
    rw [nmC_set, List.length_set]
    exact this
  · exact (h.all q (List.mem_cons_of_mem _ hq)).keep hk (fun b hb e => h2 q hq b (Or.inl (by rw [e]; rfl)) hb)
theorem grown_at {v : Value} {g n cap : Nat} {H : Nat} (hc : (v = .slice (some ⟨g, 0, none⟩) n cap ∧ w.grownBy w' (some g)) ∨ (H ≤ g ∧ w.grownBy w' none)) : v.ownBlock = some g ∨ H ≤ g := by
  rcases hc with ⟨rfl, _⟩ | ⟨h, _⟩
  · exact Or.inl rfl
  · exact Or.inr h
/-- The first list's longer one grows. -/
theorem Bag.grow {g cap : Nat} {vx vm : Value} {X Y Z : List Txt} (h : Bag w B (⟨vx, X, vm, Y⟩ :: L)) (h' : w'.ownsRow B 9 1 (.slice (some ⟨g, 0, none⟩) ((X ++ Y).length + Z.length) cap) ((X ++ Y).length + Z.length) (nmC (X ++ Y) ++ nmC Z))
    (hc : (vm = .slice (some ⟨g, 0, none⟩) (X ++ Y).length cap ∧ w.grownBy w' (some g)) ∨ (w.heap.size ≤ g ∧ w.grownBy w' none)) : Bag w' B (⟨vx, X, .slice (some ⟨g, 0, none⟩) ((X ++ Y).length + Z.length) cap, Y ++ Z⟩ :: L) := by
  have hh := h.all _ (List.mem_cons_self ..)
  obtain ⟨h2, h3⟩ := List.pairwise_cons.1 h.apart
  have hm : NmAt w B vm (X ++ Y) := hh.2
  have hx : NmAt w B vx X := hh.1
  have hk := grow_keeps hc
  have ha := grown_at hc
  refine ⟨fun q hq => ?_, List.Pairwise.cons (fun q hq b hb hqb => ?_) h3⟩
  · rcases List.mem_cons.1 hq with rfl | hq
    · refine ⟨?_, ?_⟩
      · unfold NmAt at hm
        rw [nmC_app] at hm h'
        exact both_grow hx hm (by decide) h' hc
      · show World.ownsRow _ _ _ _ _ _ _
        rw [← List.append_assoc, nmC_app (X ++ Y), show ((X ++ Y) ++ Z).length = (X ++ Y).length + Z.length from List.length_append]
        exact h'
    · exact (h.all q (List.mem_cons_of_mem _ hq)).keep hk (fun b hb e => h2 q hq b (Or.inr e) hb)
  · rcases hb with e | e
    · exact h2 q hq b (Or.inl e) hqb
    · simp [Value.ownBlock] at e
      subst e
      rcases ha with ha | ha
      · exact h2 q hq _ (Or.inr ha) hqb
      · have := (h.lt (List.mem_cons_of_mem _ hq) hqb).2
        omega
/-- The first list itself grows. -/
theorem Bag.growSelf {g cap : Nat} {v : Value} {X Z : List Txt} (h : Bag w B (lone1 v X :: L)) (h' : w'.ownsRow B 9 1 (.slice (some ⟨g, 0, none⟩) (X.length + Z.length) cap) (X.length + Z.length) (nmC X ++ nmC Z))
    (hc : (v = .slice (some ⟨g, 0, none⟩) X.length cap ∧ w.grownBy w' (some g)) ∨ (w.heap.size ≤ g ∧ w.grownBy w' none)) : Bag w' B (lone1 (.slice (some ⟨g, 0, none⟩) (X.length + Z.length) cap) (X ++ Z) :: L) := by
  obtain ⟨h2, h3⟩ := List.pairwise_cons.1 h.apart
  have hk := grow_keeps hc
  have ha := grown_at hc
  refine ⟨fun q hq => ?_, List.Pairwise.cons (fun q hq b hb hqb => ?_) h3⟩
  · rcases List.mem_cons.1 hq with rfl | hq
    · refine lone1_at ?_
      show World.ownsRow _ _ _ _ _ _ _
      rw [nmC_app, List.length_append]
      exact h'
    · exact (h.all q (List.mem_cons_of_mem _ hq)).keep hk (fun b hb e => h2 q hq b (Or.inl e) hb)
  · have e := lone1_has hb
    simp [Value.ownBlock] at e
    subst e
    rcases ha with ha | ha
    · exact h2 q hq _ (Or.inl ha) hqb
    · have := (h.lt (List.mem_cons_of_mem _ hq) hqb).2
      omega
/-- What is written to a row of lists is none of the texts'. -/
theorem Bag.rowKeep {C n : Nat} {v : Value} {xs : List Value} (h : Bag w B L) (hr : w.ownsRow C 29 1 v n xs) (hk : Keeps (fun q => v.ownBlock = some q) w w') : Bag w' B L :=
  h.keep hk fun p hp b hb e => by
    obtain ⟨c, hc⟩ := (h.all p hp).typed hb
    obtain ⟨_, c2, hc2⟩ := own_typed hr e
    rw [hc] at hc2
    simp at hc2
/-- A row of lists stays where a text's list is written. -/
theorem row_bag {C n : Nat} {v : Value} {xs : List Value} {p : Itm} {F : Nat → Prop} (hr : w.ownsRow C 29 1 v n xs) (h : p.at_ w B) (hk : Keeps F w w') (hF : ∀ q, F q → q < w.heap.size → p.has q) : w'.ownsRow C 29 1 v n xs :=
  ownsRow_kept hr hk fun q e f => by
    obtain ⟨c, hc⟩ := h.typed (hF q f (own_lt hr e))
    obtain ⟨_, c2, hc2⟩ := own_typed hr e
    rw [hc] at hc2
    simp at hc2
end
/-- A row of one's own that grew. -/
structure GrewL (w w' : World) (base e n m : Nat) (v : Value) (g cap : Nat) (xs news : List Value) : Prop where
  own : w'.ownsRow base e 1 (.slice (some ⟨g, 0, none⟩) (n + m) cap) (n + m) (xs ++ news)
  how : (v = .slice (some ⟨g, 0, none⟩) n cap ∧ w.grownBy w' (some g)) ∨ (w.heap.size ≤ g ∧ w.grownBy w' none)
theorem GrewL.keeps {w w' : World} {base e n m g cap : Nat} {v : Value} {xs news : List Value} (h : GrewL w w' base e n m v g cap xs news) : Keeps (fun q => v.ownBlock = some q) w w' := grow_keeps h.how
/-- A text appended to a list of texts. -/
theorem append_txt {w : World} {ops : Array Oper} {rest : List Oper} {o : Oper} {a : Act} {Q : Exit → Act → World → Prop} (hgd : o.guard = none) (s x : Operand)
    (ho : o.op = .call { callee := .builtin .append, args := #[s, x], argTypes := #[29, 29] }) (base : Nat) (v : Value) (n : Nat) (xs : List Value) (hs : a.eval s = v) (hown : w.ownsRow base 9 1 v n xs)
    (ad c : Nat) (m : Txt) (hx : a.eval x = .slice (some ⟨ad, 0, none⟩) 1 c) (hx2 : w.cell? ⟨ad, 0, none⟩ = some (str m)) (hl : n + 1 ≤ 4398046511104) (hbase : base ≤ w.heap.size)
    (h : ∀ g cap w', GrewL w w' base 9 n 1 v g cap xs [str m] → wpList Tryz.prog ops Q rest (a.put o.dst (.slice (some ⟨g, 0, none⟩) (n + 1) cap)) w') : wpList Tryz.prog ops Q (o :: rest) a w := by
  obtain ⟨i, hi, hz0, hz1, hz2⟩ := info_parts Tryz.info9
  refine append_two (P := Tryz.prog) w hgd s x 29 ho base 9 i _ 1 16 Tryz.underlying29 hi hz0 hz1 hz2 rfl (by omega) v n xs hs hown _ 1 c [str m] hx rfl (fun j u hj => ?_) (fun u hu => ?_) (by omega) (by unfold maxLen; omega) (by omega) hbase (fun g cap w' h1 h2 => h g cap w' ⟨h1, h2⟩)
  · cases j with
    | zero => simp at hj; subst hj; simpa [Addr.add] using hx2
    | succ j => simp at hj
  · simp at hu; subst hu; rfl
/-- Lists appended to a row of lists. -/
theorem append_lists {w : World} {ops : Array Oper} {rest : List Oper} {o : Oper} {a : Act} {Q : Exit → Act → World → Prop} (hgd : o.guard = none) (s x : Operand)
    (ho : o.op = .call { callee := .builtin .append, args := #[s, x], argTypes := #[28, 28] }) (base : Nat) (v : Value) (n : Nat) (xs : List Value) (hs : a.eval s = v) (hown : w.ownsRow base 29 1 v n xs)
    (ad m c : Nat) (news : List Value) (hx : a.eval x = .slice (some ⟨ad, 0, none⟩) m c) (hln : news.length = m) (hx2 : ∀ j u, news[j]? = some u → w.cell? ⟨ad, j, none⟩ = some u) (h1 : ∀ u ∈ news, u.oneCell' = true) (hm : 0 < m) (hl : n + m ≤ 1000) (hbase : base ≤ w.heap.size)
    (h : ∀ g cap w', GrewL w w' base 29 n m v g cap xs news → wpList Tryz.prog ops Q rest (a.put o.dst (.slice (some ⟨g, 0, none⟩) (n + m) cap)) w') : wpList Tryz.prog ops Q (o :: rest) a w := by
  obtain ⟨i, hi, hz0, hz1, hz2⟩ := info_parts Tryz.info29'
  refine append_two (P := Tryz.prog) w hgd s x 28 ho base 29 i _ 1 24 (by kernel_rfl) hi hz0 hz1 hz2 rfl (by omega) v n xs hs hown _ m c news hx (by omega) (fun j u hj => ?_) h1 hm (by unfold maxLen; omega) (by omega) hbase (fun g cap w' h1 h2 => h g cap w' ⟨h1, h2⟩)
  have hadd : (⟨ad, 0, none⟩ : Addr).add j = ⟨ad, j, none⟩ := by unfold Addr.add; split <;> simp_all
  rw [hadd]
  exact hx2 j u hj
end Go.Proofs.YtoempeobaknkcaaGreatDoor
namespace Go.Proofs.YtoempeobaknkcaaGreatDoor
open Go.RowKit Go.Maps

/-- What a call of Fields leaves: these two lists and this error. -/
def FdP (A C : List Txt) (E : Int) (w : World) (e : Ending) (w' : World) : Prop :=
  ∃ rv wv, e = .returned (.tuple #[rv, wv, .int .i64 E]) ∧ NmAt w' w.heap.size rv A ∧ NmAt w' w.heap.size wv C ∧ (∀ q, rv.ownBlock = some q → wv.ownBlock ≠ some q) ∧ Keeps (fun _ => False) w w'
theorem Bag.new2 {w w' : World} {B : Nat} {L : List Itm} {r v : Value} {A C : List Txt} (h : Bag w B L) (hB : B ≤ w.heap.size) (hk : Keeps (fun _ => False) w w') (h1 : NmAt w' w.heap.size r A) (h2 : NmAt w' w.heap.size v C) (hap : ∀ q, r.ownBlock = some q → v.ownBlock ≠ some q) :
    Bag w' B (lone1 r A :: lone1 v C :: L) := by
  have b1 := h.new hB hk (lone1_at h2)
  refine ⟨fun q hq => ?_, List.Pairwise.cons (fun q hq b hb hqb => ?_) b1.apart⟩
  · rcases List.mem_cons.1 hq with rfl | hq
    · exact (lone1_at h1).low hB
    · exact b1.all q hq
  · have hb := lone1_has hb
    rcases List.mem_cons.1 hq with rfl | hq
    · exact hap b hb (lone1_has hqb)
    · have := own_geO h1 hb
      have := (h.lt hq hqb).2
      omega
/-- Lists as they came. -/
def Plain1 (M : List Itm) : Prop := ∀ p ∈ M, p.vm = p.vx ∧ p.Y = [] ∧ p.X.length ≤ 8
theorem one_of {p : Itm} (h1 : p.vm = p.vx) (h2 : p.Y = []) : p = lone1 p.vx p.X := by
  cases p
  simp at h1 h2
  subst h1
  subst h2
  rfl
theorem itm_ones {w : World} {B : Nat} {M : List Itm} (h : Bag w B M) : ∀ u ∈ M.map Itm.vx, u.oneCell' = true := by
  intro u hu
  obtain ⟨p, hp, rfl⟩ := List.mem_map.1 hu
  obtain ⟨o, c, e⟩ := (rowAt_own (h.all p hp).1).form
  rw [e]
  rfl
theorem Bag.grow1 {w w' : World} {B n g cap : Nat} {L : List Itm} {vx vm : Value} {X Y : List Txt} {m : Txt} (h : Bag w B (⟨vx, X, vm, Y⟩ :: L)) (hn : (X ++ Y).length = n) (hg : GrewL w w' B 9 n 1 vm g cap (nmC (X ++ Y)) [str m]) :
    Bag w' B (⟨vx, X, .slice (some ⟨g, 0, none⟩) (n + 1) cap, Y ++ [m]⟩ :: L) := by
  subst hn
  exact h.grow (Z := [m]) hg.own hg.how
theorem plain_form {w : World} {B : Nat} {p : Itm} (h : p.at_ w B) (h1 : p.vm = p.vx) (h2 : p.Y = []) : ∃ o c n X, p = lone1 (.slice o n c) X ∧ X.length = n := by
  obtain ⟨o, c, e⟩ := (rowAt_own h.1).form
  exact ⟨o, c, _, p.X, by rw [← e]; exact one_of h1 h2, rfl⟩
/-- A list whose first items are written over. -/
def overL {α : Type} (l : List α) (c : α) (k : Nat) : List α := List.replicate k c ++ l.drop k
theorem overL_zero {α : Type} (l : List α) (c : α) : overL l c 0 = l := by simp [overL]
theorem overL_len {α : Type} {l : List α} {c : α} {k : Nat} (h : k ≤ l.length) : (overL l c k).length = l.length := by simp [overL]; omega
theorem overL_end {α : Type} (l : List α) (c : α) : overL l c l.length = List.replicate l.length c := by simp [overL]
theorem overL_set {α : Type} {l : List α} {c : α} {k : Nat} (h : k < l.length) : (overL l c k).set k c = overL l c (k + 1) := by
  unfold overL
  rw [List.set_append_right _ _ (by simp), List.replicate_succ', List.append_assoc]
  congr 1
  rw [List.length_replicate, Nat.sub_self, List.drop_eq_getElem_cons h]
  rfl
theorem one_row {w : World} {B n c : Nat} {o : Option Addr} {X : List Txt} (h : (lone1 (.slice o n c) X).at_ w B) (hn : X.length = n) : w.ownsRow B 9 1 (.slice o n c) n (nmC X) := by
  subst hn
  exact h.1
def mT (k : Nat) : Txt := [109, 48 + UInt8.ofNat k]
def gT (k : Nat) : Txt := [103, 48 + UInt8.ofNat k]
theorem ofNat_num {k : Nat} (hk : k < 8) : (48 + (k : Int)) = num ((48 + UInt8.ofNat k)) := by
  match k, hk with
  | 0, _ => rfl
  | 1, _ => rfl
  | 2, _ => rfl
  | 3, _ => rfl
  | 4, _ => rfl
  | 5, _ => rfl
  | 6, _ => rfl
  | 7, _ => rfl
/-- A text of two letters. -/
theorem conv2 (w : World) (g : Nat) (a : UInt8) (k : Nat) (hk : k < 8) (x : Int) (hx : x = num a) (h : w.heap[g]? = some (.cells #[.int .u8 x, .int .u8 (48 + (k : Int))] 5 (0, 0))) :
    (convert 34 9 (.slice (some ⟨g, 0, none⟩) 2 2)).run Tryz.prog w = .ok (.string ⟨#[a, (48 + UInt8.ofNat k)]⟩) w :=
  run_convert_bytes_back w 34 9 5 ⟨g, 0, none⟩ 2 [a, (48 + UInt8.ofNat k)] (by kernel_rfl) (by kernel_rfl) (by kernel_rfl) (fun j hj => by
    rw [Addr.add_lit, Nat.zero_add, cell_of_blk h j]
    match j, hj with
    | 0, _ => simp [hx, num]
    | 1, _ => rw [ofNat_num hk]; simp [num])
/-- Grown, each by its own mark. -/
def Grown (D : List Itm) : Prop := ∀ k p, D[k]? = some p → p.Y = List.replicate 64 (gT k) ∧ p.X.length ≤ 8
/-- Written over, each with its own mark. -/
def Marked (D : List Itm) : Prop := ∀ k p, D[k]? = some p → p.X = List.replicate p.X.length (mT k)
/-- The lists behind it all, one by one. -/
def FinAt (w : World) (V MV : List Value) (i : Nat) : Prop :=
  ∃ vo vc n mg mc, V[i]? = some (.slice vo n vc) ∧ MV[i]? = some (.slice (some ⟨mg, 0, none⟩) (n + 64) mc) ∧ n ≤ 8 ∧ mg < w.heap.size ∧
    (∀ j, j < n → w.cell? ⟨mg, j, none⟩ = some (str (mT i)) ∧ ∃ vg, vo = some ⟨vg, 0, none⟩ ∧ vg < w.heap.size ∧ w.cell? ⟨vg, j, none⟩ = some (str (mT i))) ∧ (∀ j, n ≤ j → j < n + 64 → w.cell? ⟨mg, j, none⟩ = some (str (gT i)))
theorem rep_two {a b : Txt} {n j : Nat} : (j < n → (List.replicate n a ++ List.replicate 64 b)[j]? = some a) ∧ (n ≤ j → j < n + 64 → (List.replicate n a ++ List.replicate 64 b)[j]? = some b) := by
  refine ⟨fun h => ?_, fun h1 h2 => ?_⟩
  · rw [List.getElem?_append_left (by simpa using h)]
    simp [h]
  · rw [List.getElem?_append_right (by simpa using h1)]
    rw [List.getElem?_replicate, if_pos (by simp; omega)]
theorem nmC_at {l : List Txt} {k : Nat} {x : Txt} (h : l[k]? = some x) : (nmC l)[k]? = some (str x) := by simp [nmC, h]
theorem final_at {w : World} {B : Nat} {E : List Itm} (hB : Bag w B E) (hM : Marked E) (hG : Grown E) (i : Nat) (hi : i < E.length) : FinAt w (E.map Itm.vx) (E.map Itm.vm) i := by
  obtain ⟨p, hp⟩ : ∃ p, E[i]? = some p := ⟨_, List.getElem?_eq_getElem hi⟩
  have hat := hB.all p (List.mem_of_getElem? hp)
  have hX := hM i p hp
  obtain ⟨hY, h8⟩ := hG i p hp
  obtain ⟨vx, X, vm, Y⟩ := p
  have h1 : NmAt w B vx X := hat.1
  have h2 : NmAt w B vm (X ++ Y) := hat.2
  change X = List.replicate X.length (mT i) at hX
  change Y = List.replicate 64 (gT i) at hY
  change X.length ≤ 8 at h8
  obtain ⟨vo, vc, rfl⟩ := (rowAt_own h1).form
  obtain ⟨mo, mc, rfl⟩ := (rowAt_own h2).form
  have hl : (X ++ Y).length = X.length + 64 := by rw [List.length_append, hY]; simp
  unfold NmAt at h1 h2
  rw [hl] at h2
  obtain ⟨mg, rfl, _⟩ := own_some h2 (by omega)
  generalize hn : X.length = n at *
  have hXY : X ++ Y = List.replicate n (mT i) ++ List.replicate 64 (gT i) := by rw [hX, hY]
  refine ⟨vo, vc, n, mg, mc, by simp [hp], by rw [List.getElem?_map, hp, ← hl]; rfl, h8, own_lt h2 rfl, fun j hj => ⟨?_, ?_⟩, fun j hj hj2 => ?_⟩
  · refine (h2.cellAt j (by omega)).trans (nmC_at ?_)
    rw [hXY]
    exact rep_two.1 hj
  · obtain ⟨vg, rfl, _⟩ := own_some h1 (by omega)
    refine ⟨vg, rfl, own_lt h1 rfl, (h1.cellAt j (by omega)).trans (nmC_at ?_)⟩
    rw [hX]
    simp [hj]
  · refine (h2.cellAt j (by omega)).trans (nmC_at ?_)
    rw [hXY]
    exact rep_two.2 hj hj2
end Go.Proofs.YtoempeobaknkcaaGreatDoor
