import Derived.Test.YtiinohibmcefkaaGreatDoorJav
namespace Go.Proofs.YtiinohibmcefkaaGreatDoor
open Go.RowKit Go.Maps

theorem eql_nilV (W : World) (ad : Addr) (n cap : Nat) : (binOp .eql 29 (.slice (some ad) n cap) (.slice none 0 0)).run Tryz.prog W = .ok (.bool false) W := by
  simp only [binOp]
  simp [run_equal_slice_nil W 29 41 (some ad) n cap Tryz.underlying29]
theorem owns_empty3 (w : World) : (w.alloc (.cells #[] 41)).ownsRow w.heap.size 41 3 (.slice (some ⟨w.heap.size, 0, none⟩) 0 0) 0 [] :=
  ⟨rfl, Or.inr ⟨w.heap.size, 0, #[], rfl, Nat.le_refl _, heap_alloc_new w (.cells #[] 41), Nat.le_refl _, Nat.zero_le _, rfl, rfl⟩⟩
set_option maxRecDepth 100000 in
theorem clone_v (l : List ValA) (v : Value) (w : World) (h : ValsAt w v l) (h0 : 0 < l.length) (hl : l.length ≤ 1024) :
    Calls Tryz.prog 202 #[v] w fun e w' => ∃ ro rc, e = .returned (.slice ro l.length rc) ∧ w'.ownsRow w.heap.size 41 3 (.slice ro l.length rc) l.length (vcs l) ∧ Keeps (fun _ => False) w w' := by
  obtain ⟨b, off, cap, rfl, _, _⟩ := RowAt.cells h h0
  obtain ⟨HX, hxb, hxc⟩ := boxed w #[] 41
  have HV := hide (h.keepF (unhide HX))
  have HE := hide (owns_empty3 w)
  have hsome : ∀ W : World, (binOp .eql 29 (.slice (some ⟨b, off, none⟩) l.length cap) (.slice none 0 0)).run Tryz.prog W = .ok (.bool false) W := fun W => eql_nilV W ⟨b, off, none⟩ l.length cap
  clear hxc h
  go_enter Tryz.func202, Tryz.ntmps202
  go_wp2_with (at_builtin; refine wpList_appendV_any rfl _ _ rfl w.heap.size (.slice (some ⟨w.heap.size, 0, none⟩) 0 0) 0 [] rfl (unhide HE) (.slice (some ⟨b, off, none⟩) l.length cap) l rfl (unhide HV) (by unfold maxLen; omega) (by omega) (by simp) ?_; intro v2 w2 hown2 hgrow2)
  have hv : w2.ownsRow w.heap.size 41 3 v2 l.length (vcs l) := by
    simp only [Nat.zero_add, List.nil_append] at hown2
    exact hown2
  obtain ⟨ro, rc, rfl⟩ := RowAt.form (rowAt_own hv)
  have HV2 := hide hv
  have HK2 := hide ((unhide HX).grown hgrow2 (fun k e hk => by simp only [Value.ownBlock, Option.some.injEq] at e; omega))
  clear hv hown2 hgrow2
  go_wp2_with fail
  refine bodyPost_ret (v := .slice ro l.length rc) (by simp [results, go_sem]) rfl ?_
  exact ⟨ro, rc, rfl, unhide HV2, unhide HK2⟩
theorem own_zero {w : World} {B e size n : Nat} {v : Value} {xs : List Value} (h : w.ownsRow B e size v n xs) : w.ownsRow 0 e size v n xs := by
  obtain ⟨h1, h2⟩ := h
  refine ⟨h1, h2.imp id ?_⟩
  rintro ⟨g, cap, cur, hv, _, r⟩
  exact ⟨g, cap, cur, hv, Nat.zero_le _, r⟩
/-- A row of one's own behind a pointer. -/
structure RowB (W : World) (R : Nat) (h : Bool) (u : Value) (vals : List ValA) : Prop where
  blk : W.heap[R]? = some (.cells #[.bool h, u] 31 (0, 0))
  own : W.ownsRow 0 41 3 u vals.length (vcs vals)
theorem RowB.ne {W : World} {R : Nat} {h : Bool} {u : Value} {vals : List ValA} (r : RowB W R h u vals) {q : Nat} (e : u.ownBlock = some q) : ¬ q = R := fun hq => ownsRow_ne r.own r.blk (by decide) (by rw [e, hq])
theorem RowB.keepF {W W' : World} {R : Nat} {h : Bool} {u : Value} {vals : List ValA} (r : RowB W R h u vals) (hk : Keeps (fun _ => False) W W') : RowB W' R h u vals :=
  ⟨(hk.block _ (lt_of_block r.blk) id).trans r.blk, ownsRow_kept r.own hk (fun _ _ h => h.elim)⟩
/-- What an act has done to the row. -/
def Acted (W : World) (R : Nat) (u : Value) (r : Bool × List ValA) (e : Ending) (W' : World) : Prop :=
  e = .returned (.tuple #[]) ∧ ∃ u', RowB W' R r.1 u' r.2 ∧ (∀ q, u'.ownBlock = some q → u.ownBlock = some q ∨ W.heap.size ≤ q) ∧ Keeps (fun q => q = R ∨ u.ownBlock = some q) W W'
/-- A function value that changes a row. -/
def ActF (S : List FieldA) (F : Nat → Prop) (w : World) (av : Value) (g : Bool × List ValA → Bool × List ValA) : Prop :=
  ∃ k bnd cap, av = .func (.func k) bnd cap ∧ Enters Tryz.prog k ∧ (∀ r, Rw S r.1 r.2 → Rw S (g r).1 (g r).2) ∧
    ∀ (W : World) (R : Nat) (h : Bool) (u : Value) (vals : List ValA), Keeps F w W → F R → (∀ q, u.ownBlock = some q → F q ∨ w.heap.size ≤ q) → RowB W R h u vals → Rw S h vals →
      Calls Tryz.prog k (bnd ++ #[.pointer (some ⟨R, 0, none⟩)] ++ cap) W (Acted W R u (g (h, vals)))
theorem ActF.keepG {S : List FieldA} {F : Nat → Prop} {w w' : World} {av : Value} {g : Bool × List ValA → Bool × List ValA} (h : ActF S F w av g) (hk : Keeps F w w') : ActF S F w' av g := by
  obtain ⟨k, bnd, cap, e, h1, h2, h3⟩ := h
  exact ⟨k, bnd, cap, e, h1, h2, fun W R b u vals hW hR hu => h3 W R b u vals (hk.trans hW) hR (fun q e => (hu q e).imp id (fun h => Nat.le_trans hk.size h))⟩
theorem ActF.keepF {S : List FieldA} {F : Nat → Prop} {w w' : World} {av : Value} {g : Bool × List ValA → Bool × List ValA} (h : ActF S F w av g) (hk : Keeps (fun _ => False) w w') : ActF S F w' av g := h.keepG hk.any
theorem ActF.mono {S : List FieldA} {F F' : Nat → Prop} {w : World} {av : Value} {g : Bool × List ValA → Bool × List ValA} (h : ActF S F w av g) (hF : ∀ q, F' q → F q) : ActF S F' w av g := by
  obtain ⟨k, bnd, cap, e, h1, h2, h3⟩ := h
  exact ⟨k, bnd, cap, e, h1, h2, fun W R b u vals hW hR hu => h3 W R b u vals (hW.mono (fun q _ h => hF q h)) (hF R hR) (fun q e => (hu q e).imp (hF q) id)⟩
theorem ActF.congr {S : List FieldA} {F : Nat → Prop} {w : World} {av : Value} {g g' : Bool × List ValA → Bool × List ValA} (h : ActF S F w av g) (e : ∀ r, g r = g' r) : ActF S F w av g' := by
  obtain rfl : g = g' := funext e
  exact h
theorem set2b {W : World} {R : Nat} {c0 c1 : Value} {t : TypeId} (h : W.heap[R]? = some (.cells #[c0, c1] t (0, 0))) (x y : Value) : ((W.setCell ⟨R, 0, none⟩ x).setCell ⟨R, 1, none⟩ y).heap[R]? = some (.cells #[x, y] t (0, 0)) := heap_setCell_at (o := 1) (heap_setCell_at (o := 0) h x) y
set_option maxRecDepth 100000 in
theorem remove_v (S : List FieldA) (F : Nat → Prop) (w : World) : ActF S F w (.func (.func 167) #[] #[]) (fun _ => (false, [])) := by
  refine ⟨167, _, _, rfl, enters_of Tryz.func167 (by kernel_rfl) rfl, fun _ _ => gone_rw S, fun W R h u vals hk hR hu hb hr => ?_⟩
  obtain ⟨uo, uc, rfl⟩ := RowAt.form (rowAt_own hb.own)
  have hblk := hb.blk
  have m0 := cell_of_blk hblk 0
  have m1 := cell_of_blk hblk 1
  simp at m0 m1
  have g0 := frozen_of_blk hblk 0
  have g1 := frozen_of_blk hblk 1
  have HB := hide (set2b hblk (.bool false) (.slice none 0 0))
  clear hblk hb hk hu hr
  simp only [Array.empty_append, Array.append_empty]
  go_enter Tryz.func167, Tryz.ntmps167
  go_wp2_with fail
  refine bodyPost_ret (v := .tuple #[]) (by simp [results, go_sem]) rfl ?_
  exact ⟨rfl, _, ⟨unhide HB, World.ownsRow_nil _ 0 41 3⟩, fun q e => by simp [Value.ownBlock] at e, (keeps_set2 _ _ _ _).mono (fun q _ e => Or.inl e)⟩
set_option maxRecDepth 100000 in
theorem create_v (S : List FieldA) (F : Nat → Prop) (w : World) (m mb nn tab : Nat) (zv : Value) (hM : MkAt S F w m mb nn tab zv) (hS : 0 < S.length) (hS8 : S.length ≤ 8) :
    ActF S F w (.func (.func 166) #[.pointer (some ⟨m, 0, none⟩)] #[]) (fun r => if r.1 then r else (true, zeros S)) := by
  refine ⟨166, _, _, rfl, enters_of Tryz.func166 (by kernel_rfl) rfl, fun r hr => by
    show Rw S (if r.1 then r else (true, zeros S)).1 (if r.1 then r else (true, zeros S)).2
    split
    · exact hr
    · exact new_rw S, fun W R h u vals hk hR hu hb hr => ?_⟩
  obtain ⟨uo, uc, rfl⟩ := RowAt.form (rowAt_own hb.own)
  have hblk := hb.blk
  have m0 := cell_of_blk hblk 0
  have m1 := cell_of_blk hblk 1
  simp at m0 m1
  have hMW : MkAt S F W m mb nn tab zv := hM.shift hS hk (fun q h _ => h)
  have c1 := hMW.c1
  obtain ⟨zo, zc, rfl⟩ := RowAt.form hMW.zero
  have HC := hide (clone_v (zeros S) _ W hMW.zero (by rw [zeros_length]; exact hS) (by rw [zeros_length]; omega))
  have HBK := hide hb
  show Calls _ _ _ _ (Acted W R _ (if (h, vals).1 then (h, vals) else (true, zeros S)))
  cases h with
  | true =>
    clear hb hk hu hr hM hMW c1 hblk HC
    simp only [Array.append_empty, if_true]
    go_enter Tryz.func166, Tryz.ntmps166
    go_wp2_with fail
    refine bodyPost_ret (v := .tuple #[]) (by simp [results, go_sem]) rfl ?_
    exact ⟨rfl, _, unhide HBK, fun q e => Or.inl e, Keeps.refl _ _⟩
  | false =>
    have HBL := hide hblk
    have hl := lt_of_block hblk
    clear hb hk hu hr hM hMW hblk HBK
    simp only [Array.append_empty, Bool.false_eq_true, if_false]
    go_enter Tryz.func166, Tryz.ntmps166
    go_wp2_with fail
    refine (unhide HC).mono ?_
    rintro e w1 ⟨ro, rc, rfl, hown, hk1⟩
    have hb1 := (hk1.block _ hl id).trans (unhide HBL)
    have n0 := cell_of_blk hb1 0
    have n1 := cell_of_blk hb1 1
    simp at n0 n1
    have g0 := frozen_of_blk hb1 0
    have g1 := frozen_of_blk hb1 1
    have HB := hide (set2b hb1 (.bool true) (.slice ro (zeros S).length rc))
    have HO := hide hown
    have HK := hide hk1
    have HB1 := hide hb1
    clear hb1 hown hk1 m0 m1
    go_wp2_with fail
    refine bodyPost_ret (v := .tuple #[]) (by simp [results, go_sem]) rfl ?_
    have hne : ∀ q, (Value.slice ro (zeros S).length rc).ownBlock = some q → ¬ q = R := fun q e hq => ownsRow_ne (unhide HO) (unhide HB1) (by decide) (by rw [e, hq])
    refine ⟨rfl, _, ⟨unhide HB, ?_⟩, fun q e => Or.inr ((unhide HO).lt q e).1, (unhide HK).any.trans ((keeps_set2 _ _ _ _).mono (fun q _ e => Or.inl e))⟩
    have h0 : w1.ownsRow 0 41 3 (.slice ro (zeros S).length rc) (zeros S).length (vcs (zeros S)) := own_zero (unhide HO)
    exact ownsRow_kept h0 (keeps_set2 w1 R _ _) hne
end Go.Proofs.YtiinohibmcefkaaGreatDoor
namespace Go.Proofs.YtiinohibmcefkaaGreatDoor
open Go.RowKit Go.Maps

theorem vals_set3 {l : List ValA} {i : Nat} (hi : i < l.length) (x : ValA) {c : Array Value} {n : Nat} (hl : l.length = n) (hc : c.toList.take (n * 3) = vcs l) (hsz : n * 3 ≤ c.size) :
    (((c.setIfInBounds (i * 3) (.int .i64 x.kind)).setIfInBounds (i * 3 + 1) (.int .i64 x.n)).setIfInBounds (i * 3 + 2) (str x.s)).toList.take (n * 3) = vcs (l.set i x) := by
  subst hl
  have hv : ∀ y : ValA, vcs (l.take i ++ y :: l.drop (i + 1)) = vcs (l.take i) ++ (y.cs ++ vcs (l.drop (i + 1))) := fun y => by simp [vcs]
  have e0 : l = l.take i ++ l[i] :: l.drop (i + 1) := by rw [List.getElem_cons_drop, List.take_append_drop]
  have e1 : l.set i x = l.take i ++ x :: l.drop (i + 1) := by rw [List.set_eq_take_append_cons_drop, if_pos hi]
  have hlt : (vcs (l.take i)).length = i * 3 := by rw [vcs_length, List.length_take]; omega
  apply List.ext_getElem?
  intro j
  rw [e1, hv]
  by_cases hj : j < l.length * 3
  · rw [List.getElem?_take_of_lt hj]
    have hold : c.toList[j]? = (vcs l)[j]? := by rw [← hc, List.getElem?_take_of_lt hj]
    rw [e0, hv] at hold
    have hcj : j < c.size := by omega
    simp only [Array.toList_setIfInBounds, List.getElem?_set]
    by_cases h1 : j < i * 3
    · rw [if_neg (by omega), if_neg (by omega), if_neg (by omega), hold, List.getElem?_append_left (by omega), List.getElem?_append_left (by omega)]
    · rw [List.getElem?_append_right (by omega), hlt]
      by_cases h2 : j = i * 3
      · subst h2
        simp [ValA.cs]
        omega
      · by_cases h3 : j = i * 3 + 1
        · subst h3
          simp [ValA.cs, show i * 3 + 1 - i * 3 = 1 by omega]
          omega
        · by_cases h4 : j = i * 3 + 2
          · subst h4
            simp [ValA.cs, show i * 3 + 2 - i * 3 = 2 by omega]
            omega
          · rw [if_neg (by omega), if_neg (by omega), if_neg (by omega), hold, List.getElem?_append_right (by omega), hlt, List.getElem?_append_right (by simp [ValA.cs]; omega), List.getElem?_append_right (by simp [ValA.cs]; omega)]
            simp [ValA.cs]
  · rw [List.getElem?_eq_none (by simp; omega)]
    symm
    apply List.getElem?_eq_none
    rw [← hv, ← e1, vcs_length, List.length_set]
    omega
/-- A value of a row written over. -/
theorem owns_set {w : World} {B n : Nat} {b cap : Nat} {l : List ValA} (h : w.ownsRow B 41 3 (.slice (some ⟨b, 0, none⟩) n cap) n (vcs l)) (hl : l.length = n) {i : Nat} (hi : i < n) (x : ValA) :
    (((w.setCell ⟨b, i * 3, none⟩ (.int .i64 x.kind)).setCell ⟨b, i * 3 + 1, none⟩ (.int .i64 x.n)).setCell ⟨b, i * 3 + 2, none⟩ (str x.s)).ownsRow B 41 3 (.slice (some ⟨b, 0, none⟩) n cap) n (vcs (l.set i x)) := by
  obtain ⟨h1, h2⟩ := h
  refine ⟨by rw [vcs_length, List.length_set, hl], ?_⟩
  rcases h2 with ⟨e, _⟩ | ⟨g, cp, cur, e, hB, hb, hn, hcm, hsz, ht⟩
  · simp at e
  · simp at e
    obtain ⟨rfl, rfl⟩ := e
    exact Or.inr ⟨b, cap, _, rfl, hB, heap_setCell_at (heap_setCell_at (heap_setCell_at hb _) _) _, hn, hcm, by simpa using hsz, vals_set3 (by omega) x hl ht (by omega)⟩
theorem keeps_set3at (w : World) (b i : Nat) (x y z : Value) : Keeps (fun q => q = b) w (((w.setCell ⟨b, i * 3, none⟩ x).setCell ⟨b, i * 3 + 1, none⟩ y).setCell ⟨b, i * 3 + 2, none⟩ z) := ((keeps_set _ _ _ _).trans (keeps_set _ _ _ _)).trans (keeps_set _ _ _ _)
theorem owns_cells {w : World} {B n : Nat} {b cap : Nat} {l : List ValA} (h : w.ownsRow B 41 3 (.slice (some ⟨b, 0, none⟩) n cap) n (vcs l)) : ∃ cur, w.heap[b]? = some (.cells cur 41 (0, 0)) ∧ n * 3 ≤ cur.size := by
  rcases h.2 with ⟨e, _⟩ | ⟨g, cp, cur, e, hB, hb, hn, hcm, hsz, ht⟩
  · simp at e
  · simp at e
    obtain ⟨rfl, rfl⟩ := e
    exact ⟨cur, hb, by omega⟩
theorem owns_zero_off {w : World} {B n : Nat} {v : Value} {l : List ValA} (h : w.ownsRow B 41 3 v n (vcs l)) (hn : 0 < n) : ∃ b cap, v = .slice (some ⟨b, 0, none⟩) n cap := by
  rcases h.2 with ⟨_, e⟩ | ⟨g, cp, cur, e, _⟩
  · omega
  · exact ⟨g, cp, e⟩
end Go.Proofs.YtiinohibmcefkaaGreatDoor
namespace Go.Proofs.YtiinohibmcefkaaGreatDoor
open Go.RowKit Go.Maps

set_option maxRecDepth 100000 in
set_option maxHeartbeats 2000000 in
theorem write1_v (S : List FieldA) (F : Nat → Prop) (w : World) (hS : 0 < S.length) (fv : Value) (f : Bool → List ValA → ValA) (wb pb p : Nat) (hp : p < S.length) (hS8 : S.length ≤ 8) (hA : Wth S F w fv f) (ha : w.cell? ⟨wb, 0, none⟩ = some fv) (hq : w.cell? ⟨pb, 0, none⟩ = some (.int .i64 (p : Int))) (la : wb < w.heap.size) (lp : pb < w.heap.size) (na : ¬ F wb) (np : ¬ F pb) :
    ActF S F w (.func (.func 203) #[] #[.pointer (some ⟨wb, 0, none⟩), .pointer (some ⟨pb, 0, none⟩)]) (fun r => setV r p (f r.1 r.2)) := by
  obtain ⟨k, cap, rfl, ek, hl, hA⟩ := hA
  refine ⟨203, _, _, rfl, enters_of Tryz.func203 (by kernel_rfl) rfl, fun r hr => setV_rw hr _ (hl _ _ hr), fun W R h u vals hk hR hu hb hr => ?_⟩
  show Calls _ _ _ _ (Acted W R u (setV (h, vals) p (f h vals)))
  simp only [Array.empty_append]
  show Calls _ _ #[.pointer (some ⟨R, 0, none⟩), .pointer (some ⟨wb, 0, none⟩), .pointer (some ⟨pb, 0, none⟩)] _ _
  cases h with
  | false =>
    obtain ⟨uo, uc, rfl⟩ := RowAt.form (rowAt_own hb.own)
    have m0 := cell_of_blk hb.blk 0
    simp at m0
    have HB := hide hb
    have hs : setV (false, vals) p (f false vals) = (false, vals) := by simp [setV]
    rw [hs]
    clear hb hk hu hr hA ha hq
    go_enter Tryz.func203, Tryz.ntmps203
    go_wp2_with fail
    refine bodyPost_ret (v := .tuple #[]) (by simp [results, go_sem]) rfl ?_
    exact ⟨rfl, _, unhide HB, fun q e => Or.inl e, Keeps.refl _ _⟩
  | true =>
    have hlen := hr.1 rfl
    obtain ⟨b, cp, rfl⟩ := owns_zero_off hb.own (by omega)
    have hub := hu b rfl
    have hbR : ¬ b = R := hb.ne rfl
    have n1 : ¬ wb = b := fun e => by subst e; rcases hub with h | h; exact na h; omega
    have n2 : ¬ pb = b := fun e => by subst e; rcases hub with h | h; exact np h; omega
    have lR := lt_of_block hb.blk
    have m0 := cell_of_blk hb.blk 0
    have m1 := cell_of_blk hb.blk 1
    simp at m0 m1
    have c0 := (hk.cell la na).trans ha
    have c1 := (hk.cell lp np).trans hq
    have l1 := Nat.lt_of_lt_of_le la hk.size
    have l2 := Nat.lt_of_lt_of_le lp hk.size
    have SB : ∀ w' : World, Keeps (fun q => q = b) W w' → w'.cell? ⟨R, 0, none⟩ = some (.bool true) ∧ w'.cell? ⟨R, 1, none⟩ = some (.slice (some ⟨b, 0, none⟩) vals.length cp) ∧ w'.cell? ⟨wb, 0, none⟩ = some (.func (.func k) #[] cap) ∧ w'.cell? ⟨pb, 0, none⟩ = some (.int .i64 (p : Int)) := fun w' hq => ⟨(hq.cell lR (by omega)).trans m0, (hq.cell lR (by omega)).trans m1, (hq.cell l1 n1).trans c0, (hq.cell l2 n2).trans c1⟩
    have HSB := hide SB
    have s0 := SB W (Keeps.refl _ _)
    have HC := hide (hA W.drew true (.slice (some ⟨b, 0, none⟩) vals.length cp) vals hk.drew ((show ValsAt W _ _ from rowAt_own hb.own).keepF (Keeps.refl _ _).drew) hr)
    have HB := hide hb
    have hs : setV (true, vals) p (f true vals) = (true, vals.set p (f true vals)) := by simp [setV]
    rw [hs]
    have HLEN := hide hlen
    have i1 : (p : Int) < (vals.length : Int) := by omega
    have i0 : (0 : Int) ≤ (p : Int) := by omega
    have hpl : p < vals.length := by omega
    generalize f true vals = B at *
    obtain ⟨Bk, Bn, Bx⟩ := B
    simp only [ValA.v] at HC
    unfold Enters at ek
    clear hb hk hu hr hA ha hq SB hl c0 c1 m1 hlen hs
    go_enter Tryz.func203, Tryz.ntmps203
    go_wp2_with fail
    go_region_held3 (fun w' => w'.cell? ⟨R, 0, none⟩ = some (.bool true) ∧ w'.cell? ⟨R, 1, none⟩ = some (.slice (some ⟨b, 0, none⟩) vals.length cp) ∧ w'.cell? ⟨wb, 0, none⟩ = some (.func (.func k) #[] cap) ∧ w'.cell? ⟨pb, 0, none⟩ = some (.int .i64 (p : Int)))
      (first | with_reducible exact s0 | with_reducible exact r0 | with_reducible exact r1 | with_reducible exact unhide HSB _ (Keeps.refl _ _).drew)
      (first | ((with_reducible refine (unhide HC).mono ?_); rintro e w1 ⟨rfl, hk1⟩; have HK1 := hide ((Keeps.refl (fun _ => False) W).drew.trans hk1); have r0 := unhide HSB _ (unhide HK1).any; have hb1 := (unhide HB).keepF (unhide HK1); obtain ⟨cur, hcb, hcs⟩ := owns_cells hb1.own; have a0 := (cell_of_blk hcb (p * 3)).trans (Array.getElem?_eq_getElem (by omega)); have a1 := (cell_of_blk hcb (p * 3 + 1)).trans (Array.getElem?_eq_getElem (by omega)); have a2 := (cell_of_blk hcb (p * 3 + 2)).trans (Array.getElem?_eq_getElem (by omega)); have g0 := frozen_of_blk hcb (p * 3); have g1 := frozen_of_blk hcb (p * 3 + 1); have g2 := frozen_of_blk hcb (p * 3 + 2); have r1 := unhide HSB _ ((unhide HK1).any.trans (keeps_set3at w1 b p (.int .i64 Bk) (.int .i64 Bn) (str Bx))); have HB1 := hide hb1; clear hb1 hcb hk1))
    go_wp2_with fail
    refine bodyPost_ret (v := .tuple #[]) (by simp [results, go_sem]) rfl ?_
    refine ⟨rfl, .slice (some ⟨b, 0, none⟩) vals.length cp, ⟨?_, ?_⟩, fun q e => Or.inl e, (unhide HK1).any.trans ((keeps_set3at _ _ _ _ _ _).mono (fun q _ e => Or.inr (by rw [e]; rfl)))⟩
    · exact ((keeps_set3at _ _ _ _ _ _).block _ (lt_of_block (unhide HB1).blk) (by omega)).trans (unhide HB1).blk
    · have h := owns_set (unhide HB1).own rfl hpl ⟨Bk, Bn, Bx⟩
      simpa using h
end Go.Proofs.YtiinohibmcefkaaGreatDoor
namespace Go.Proofs.YtiinohibmcefkaaGreatDoor
open Go.RowKit Go.Maps

theorem isTrue_a (a : ValA) (b : Bool) (hb : decide (a.n = 1) = b) (w : World) : Calls Tryz.prog 132 #[.agg #[.int .i64 a.kind, .int .i64 a.n, str a.s]] w fun e w' => e = .returned (.bool b) ∧ Keeps (fun _ => False) w w' := isTrue_w a.kind a.n a.s b hb w
set_option maxRecDepth 100000 in
set_option maxHeartbeats 2000000 in
theorem choose1_v (S : List FieldA) (F : Nat → Prop) (w : World) (fv tv ov : Value) (f : Bool → List ValA → ValA) (g1 g2 : Bool × List ValA → Bool × List ValA) (eb tb ob : Nat) (hA : Wth S F w fv f) (h1 : ActF S F w tv g1) (h2 : ActF S F w ov g2) (ha : w.cell? ⟨eb, 0, none⟩ = some fv) (ht : w.cell? ⟨tb, 0, none⟩ = some tv) (ho : w.cell? ⟨ob, 0, none⟩ = some ov) (la : eb < w.heap.size) (lt : tb < w.heap.size) (lo : ob < w.heap.size) (na : ¬ F eb) (nt : ¬ F tb) (no : ¬ F ob) :
    ActF S F w (.func (.func 205) #[] #[.pointer (some ⟨eb, 0, none⟩), .pointer (some ⟨tb, 0, none⟩), .pointer (some ⟨ob, 0, none⟩)]) (fun r => if (f r.1 r.2).n = 1 then g1 r else g2 r) := by
  obtain ⟨k, cap, rfl, ek, hl, hA⟩ := hA
  obtain ⟨k1, bnd1, cap1, rfl, e1, hw1, h1⟩ := h1
  obtain ⟨k2, bnd2, cap2, rfl, e2, hw2, h2⟩ := h2
  refine ⟨205, _, _, rfl, enters_of Tryz.func205 (by kernel_rfl) rfl, fun r hr => by
    show Rw S (if (f r.1 r.2).n = 1 then g1 r else g2 r).1 (if (f r.1 r.2).n = 1 then g1 r else g2 r).2
    split
    · exact hw1 r hr
    · exact hw2 r hr, fun W R h u vals hk hR hu hb hr => ?_⟩
  show Calls _ _ _ _ (Acted W R u (if (f h vals).n = 1 then g1 (h, vals) else g2 (h, vals)))
  simp only [Array.empty_append]
  show Calls _ _ #[.pointer (some ⟨R, 0, none⟩), .pointer (some ⟨eb, 0, none⟩), .pointer (some ⟨tb, 0, none⟩), .pointer (some ⟨ob, 0, none⟩)] _ _
  obtain ⟨uo, uc, rfl⟩ := RowAt.form (rowAt_own hb.own)
  have lR := lt_of_block hb.blk
  have m0 := cell_of_blk hb.blk 0
  have m1 := cell_of_blk hb.blk 1
  simp at m0 m1
  have c0 := (hk.cell la na).trans ha
  have c1 := (hk.cell lt nt).trans ht
  have c2 := (hk.cell lo no).trans ho
  have l1 := Nat.lt_of_lt_of_le la hk.size
  have l2 := Nat.lt_of_lt_of_le lt hk.size
  have l3 := Nat.lt_of_lt_of_le lo hk.size
  have SB : ∀ w' : World, Keeps (fun _ => False) W w' → w'.cell? ⟨R, 0, none⟩ = some (.bool h) ∧ w'.cell? ⟨R, 1, none⟩ = some (.slice uo vals.length uc) ∧ w'.cell? ⟨eb, 0, none⟩ = some (.func (.func k) #[] cap) ∧ w'.cell? ⟨tb, 0, none⟩ = some (.func (.func k1) bnd1 cap1) ∧ w'.cell? ⟨ob, 0, none⟩ = some (.func (.func k2) bnd2 cap2) := fun w' hq => ⟨(hq.cell lR id).trans m0, (hq.cell lR id).trans m1, (hq.cell l1 id).trans c0, (hq.cell l2 id).trans c1, (hq.cell l3 id).trans c2⟩
  have HSB := hide SB
  have s0 := SB W (Keeps.refl _ _)
  have HC := hide (hA W.drew h (.slice uo vals.length uc) vals hk.drew ((show ValsAt W _ _ from rowAt_own hb.own).keepF (Keeps.refl _ _).drew) hr)
  have HA1 : ∀ W', Keeps (fun _ => False) W W' → Hid (Calls Tryz.prog k1 (bnd1 ++ #[.pointer (some ⟨R, 0, none⟩)] ++ cap1) W' (Acted W' R (.slice uo vals.length uc) (g1 (h, vals)))) := fun W' hq => h1 W' R h _ vals (hk.trans hq.any) hR hu (hb.keepF hq) hr
  have HA2 : ∀ W', Keeps (fun _ => False) W W' → Hid (Calls Tryz.prog k2 (bnd2 ++ #[.pointer (some ⟨R, 0, none⟩)] ++ cap2) W' (Acted W' R (.slice uo vals.length uc) (g2 (h, vals)))) := fun W' hq => h2 W' R h _ vals (hk.trans hq.any) hR hu (hb.keepF hq) hr
  unfold Enters at ek e1 e2
  obtain ⟨d, hd⟩ : ∃ d, decide ((f h vals).n = 1) = d := ⟨_, rfl⟩
  have HI := fun W' => hide (isTrue_a (f h vals) d hd W')
  have hres : (if (f h vals).n = 1 then g1 (h, vals) else g2 (h, vals)) = if d then g1 (h, vals) else g2 (h, vals) := by subst hd; simp
  rw [hres]
  generalize f h vals = B at *
  simp only [ValA.v] at HC
  clear hb hk hu hr hA h1 h2 ha ht ho SB hl c0 c1 c2 m0 m1 hres hw1 hw2 hd
  cases d with
  | true =>
    simp only [if_true]
    go_enter Tryz.func205, Tryz.ntmps205
    go_wp2_with fail
    go_region_held3 (fun w' => w'.cell? ⟨R, 0, none⟩ = some (.bool h) ∧ w'.cell? ⟨R, 1, none⟩ = some (.slice uo vals.length uc) ∧ w'.cell? ⟨eb, 0, none⟩ = some (.func (.func k) #[] cap) ∧ w'.cell? ⟨tb, 0, none⟩ = some (.func (.func k1) bnd1 cap1) ∧ w'.cell? ⟨ob, 0, none⟩ = some (.func (.func k2) bnd2 cap2))
      (first | with_reducible exact s0 | with_reducible exact r0 | with_reducible exact r1 | with_reducible exact unhide HSB _ (Keeps.refl _ _).drew)
      (first
        | ((with_reducible refine (unhide HC).mono ?_); rintro e w1 ⟨rfl, hk1⟩; have HK1 := hide ((Keeps.refl (fun _ => False) W).drew.trans hk1); have r0 := unhide HSB _ (unhide HK1); clear hk1)
        | ((with_reducible refine (unhide (HI w1)).mono ?_); rintro e w2 ⟨rfl, hk2⟩; have HK2 := hide ((unhide HK1).trans hk2); have r1 := unhide HSB _ (unhide HK2); clear hk2))
    go_wp2_with fail
    refine (unhide (HA1 _ (unhide HK2))).mono ?_
    rintro e w3 ⟨rfl, u', hb3, hu3, hk3⟩
    go_wp2_with fail
    refine bodyPost_ret (v := .tuple #[]) (by simp [results, go_sem]) rfl ?_
    exact ⟨rfl, u', hb3, fun q e => (hu3 q e).imp id (fun h => Nat.le_trans (unhide HK2).size h), (unhide HK2).any.trans hk3⟩
  | false =>
    simp only [Bool.false_eq_true, if_false]
    go_enter Tryz.func205, Tryz.ntmps205
    go_wp2_with fail
    go_region_held3 (fun w' => w'.cell? ⟨R, 0, none⟩ = some (.bool h) ∧ w'.cell? ⟨R, 1, none⟩ = some (.slice uo vals.length uc) ∧ w'.cell? ⟨eb, 0, none⟩ = some (.func (.func k) #[] cap) ∧ w'.cell? ⟨tb, 0, none⟩ = some (.func (.func k1) bnd1 cap1) ∧ w'.cell? ⟨ob, 0, none⟩ = some (.func (.func k2) bnd2 cap2))
      (first | with_reducible exact s0 | with_reducible exact r0 | with_reducible exact r1 | with_reducible exact unhide HSB _ (Keeps.refl _ _).drew)
      (first
        | ((with_reducible refine (unhide HC).mono ?_); rintro e w1 ⟨rfl, hk1⟩; have HK1 := hide ((Keeps.refl (fun _ => False) W).drew.trans hk1); have r0 := unhide HSB _ (unhide HK1); clear hk1)
        | ((with_reducible refine (unhide (HI w1)).mono ?_); rintro e w2 ⟨rfl, hk2⟩; have HK2 := hide ((unhide HK1).trans hk2); have r1 := unhide HSB _ (unhide HK2); clear hk2))
    go_wp2_with fail
    refine (unhide (HA2 _ (unhide HK2))).mono ?_
    rintro e w3 ⟨rfl, u', hb3, hu3, hk3⟩
    go_wp2_with fail
    refine bodyPost_ret (v := .tuple #[]) (by simp [results, go_sem]) rfl ?_
    exact ⟨rfl, u', hb3, fun q e => (hu3 q e).imp id (fun h => Nat.le_trans (unhide HK2).size h), (unhide HK2).any.trans hk3⟩
end Go.Proofs.YtiinohibmcefkaaGreatDoor
