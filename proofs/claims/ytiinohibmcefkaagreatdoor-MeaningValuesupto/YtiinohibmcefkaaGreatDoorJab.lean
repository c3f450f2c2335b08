import Derived.Test.YtiinohibmcefkaaGreatDoorJaa
namespace Go.Proofs.YtiinohibmcefkaaGreatDoor
open Go.RowKit Go.Maps

def fcs (l : List FieldA) : List Value := l.flatMap FieldA.cs
def vcs (l : List ValA) : List Value := l.flatMap ValA.cs
theorem flat_get {α : Type} (g : α → List Value) (hg : ∀ x, (g x).length = 3) : ∀ (l : List α) (i : Nat) (x : α) (j : Nat), l[i]? = some x → j < 3 → (l.flatMap g)[i * 3 + j]? = (g x)[j]?
  | [], i, x, j, h, _ => by simp at h
  | y :: r, 0, x, j, h, hj => by
    simp at h; subst h
    simp only [List.flatMap_cons, Nat.zero_mul, Nat.zero_add]
    rw [List.getElem?_append_left (by rw [hg]; exact hj)]
  | y :: r, i + 1, x, j, h, hj => by
    simp only [List.flatMap_cons]
    rw [List.getElem?_append_right (by rw [hg]; omega), hg, show (i + 1) * 3 + j - 3 = i * 3 + j by omega]
    exact flat_get g hg r i x j (by simpa using h) hj
theorem flat_length {α : Type} (g : α → List Value) (hg : ∀ x, (g x).length = 3) : ∀ l : List α, (l.flatMap g).length = l.length * 3
  | [] => rfl
  | x :: r => by simp only [List.flatMap_cons, List.length_append, List.length_cons, hg, flat_length g hg r]; omega
theorem fcs_length (l : List FieldA) : (fcs l).length = l.length * 3 := flat_length _ (fun _ => rfl) l
theorem vcs_length (l : List ValA) : (vcs l).length = l.length * 3 := flat_length _ (fun _ => rfl) l

/-- Fields, values, bytes in a slice. -/
def FldsAt (w : World) (v : Value) (l : List FieldA) : Prop := RowAt w v l.length (fcs l)
def ValsAt (w : World) (v : Value) (l : List ValA) : Prop := RowAt w v l.length (vcs l)
theorem FldsAt.cells {w : World} {v : Value} {l : List FieldA} (h : FldsAt w v l) (h0 : 0 < l.length) :
    ∃ b off cap, v = .slice (some ⟨b, off, none⟩) l.length cap ∧ b < w.heap.size ∧ ∀ i f, l[i]? = some f → w.cell? ⟨b, off + i * 3, none⟩ = some (str f.name) ∧ w.cell? ⟨b, off + i * 3 + 1, none⟩ = some (.int .i64 f.type) ∧ w.cell? ⟨b, off + i * 3 + 2, none⟩ = some (.bool f.opt) := by
  obtain ⟨b, off, cap, e, hb, hc⟩ := RowAt.cells h h0
  refine ⟨b, off, cap, e, hb, fun i f hf => ?_⟩
  have k := fun j hj => flat_get FieldA.cs (fun _ => rfl) l i f j hf hj
  have k0 := hc (i * 3 + 0) (str f.name) (k 0 (by omega))
  have k1 := hc (i * 3 + 1) (.int .i64 f.type) (k 1 (by omega))
  have k2 := hc (i * 3 + 2) (.bool f.opt) (k 2 (by omega))
  exact ⟨k0, k1, k2⟩
theorem ValsAt.cells {w : World} {v : Value} {l : List ValA} (h : ValsAt w v l) (h0 : 0 < l.length) :
    ∃ b off cap, v = .slice (some ⟨b, off, none⟩) l.length cap ∧ b < w.heap.size ∧ ∀ i f, l[i]? = some f → w.cell? ⟨b, off + i * 3, none⟩ = some (.int .i64 f.kind) ∧ w.cell? ⟨b, off + i * 3 + 1, none⟩ = some (.int .i64 f.n) ∧ w.cell? ⟨b, off + i * 3 + 2, none⟩ = some (str f.s) := by
  obtain ⟨b, off, cap, e, hb, hc⟩ := RowAt.cells h h0
  refine ⟨b, off, cap, e, hb, fun i f hf => ?_⟩
  have k := fun j hj => flat_get ValA.cs (fun _ => rfl) l i f j hf hj
  have k0 := hc (i * 3 + 0) (.int .i64 f.kind) (k 0 (by omega))
  have k1 := hc (i * 3 + 1) (.int .i64 f.n) (k 1 (by omega))
  have k2 := hc (i * 3 + 2) (str f.s) (k 2 (by omega))
  exact ⟨k0, k1, k2⟩

/-- How many optional fields there are. -/
def opts (l : List FieldA) : Nat := (l.filter FieldA.opt).length
def headB (l : List FieldA) : Nat := (opts l + 7) / 8
theorem opts_snoc (l : List FieldA) (f : FieldA) : opts (l ++ [f]) = opts l + (if f.opt then 1 else 0) := by
  unfold opts
  rw [List.filter_append, List.length_append]
  cases h : f.opt <;> simp [h]
theorem opts_le (l : List FieldA) : opts l ≤ l.length := List.length_filter_le _ _

theorem FldsAt.keepF {w w' : World} {v : Value} {l : List FieldA} (h : FldsAt w v l) (hk : Keeps (fun _ => False) w w') : FldsAt w' v l := RowAt.keepF h hk
theorem ValsAt.keepF {w w' : World} {v : Value} {l : List ValA} (h : ValsAt w v l) (hk : Keeps (fun _ => False) w w') : ValsAt w' v l := RowAt.keepF h hk
/-- A new block: what holds of it, whatever comes behind. -/
theorem boxed (w : World) (c : Array Value) (t : TypeId) : Hid (Keeps (fun _ => False) w (w.alloc (.cells c t))) ∧ w.heap.size < (w.alloc (.cells c t)).heap.size ∧ ∀ j x, c[j]? = some x → (w.alloc (.cells c t)).cell? ⟨w.heap.size, j, none⟩ = some x :=
  ⟨(Keeps.refl _ _).alloc _, by simp, fun j x hx => by rw [cell_of_blk (heap_alloc_new w _)]; exact hx⟩

set_option maxRecDepth 100000 in
set_option maxHeartbeats 1000000 in
theorem head_any (l : List FieldA) (v : Value) (w : World) (h : FldsAt w v l) (hl : l.length ≤ 1099511627776) :
    Calls Tryz.prog 173 #[.agg #[v]] w fun e w' => e = .returned (.int .i64 (headB l)) ∧ Keeps (fun _ => False) w w' := by
  obtain ⟨ao, cap, rfl⟩ := RowAt.form h
  have HF := hide h
  clear h
  go_enter Tryz.func173, Tryz.ntmps173
  go_wp2
  obtain ⟨HB, hb, hbc⟩ := boxed w #[.slice ao l.length cap] 24
  have hp := hbc 0 (.slice ao l.length cap) rfl
  have HF2 := hide ((unhide HF).keepF (unhide HB))
  clear hbc HF
  generalize w.alloc (.cells #[.slice ao l.length cap] 24) = w2 at *
  generalize w.heap.size = sb at *
  go_loopw [3, 4] (fun n i wr => ∃ k : Nat, k ≤ l.length ∧ i = .int .i64 k ∧ n = .int .i64 (opts (l.take k)) ∧ Keeps (fun _ => False) w2 wr) (fun _ i _ => l.length - (intOf i).toNat)
  case atStart => exact ⟨0, Nat.zero_le _, rfl, rfl, Keeps.refl _ _⟩
  case round =>
    obtain ⟨k, hk, rfl, rfl, hkp⟩ := hrel
    have hp' := (hkp.cell (o := 0) hb id).trans hp
    have HK := hide hkp
    have ho := opts_le (l.take k)
    rw [List.length_take] at ho
    cases h : l[k]? with
    | none =>
      have h1 := get_ge h
      obtain rfl : k = l.length := by omega
      clear hkp h h1
      rw [List.take_length] at *
      go_wp2
      go_ret
      exact ⟨ret_int (by unfold headB; omega), (unhide HB).trans (unhide HK)⟩
    | some f =>
      have h1 := get_lt h
      obtain ⟨b, off, c, e, hbl, hc⟩ := (unhide HF2).cells (by omega)
      simp at e
      obtain ⟨rfl, rfl⟩ := e
      have c2 := (hkp.cell hbl id).trans (hc k f h).2.2
      have HO : Hid (opts (l.take (k + 1)) = opts (l.take k) + (if f.opt then 1 else 0)) := by show _ = _; rw [take_snoc _ _ _ h, opts_snoc]
      generalize opts (l.take k) = o at *
      clear hkp h hc
      cases hfo : f.opt with
      | true =>
        rw [hfo] at c2 HO
        go_wp2
        go_roundw
        case rel => exact ⟨k + 1, by omega, by go_num, by rw [unhide HO]; go_num, unhide HK⟩
        case measure => simp [intOf]; omega
      | false =>
        rw [hfo] at c2 HO
        go_wp2
        go_roundw
        case rel => exact ⟨k + 1, by omega, by go_num, by rw [unhide HO]; go_num, unhide HK⟩
        case measure => simp [intOf]; omega

end Go.Proofs.YtiinohibmcefkaaGreatDoor
namespace Go.Proofs.YtiinohibmcefkaaGreatDoor
open Go.RowKit Go.Maps

theorem Tryz.info41 : (Tryz.prog.info? 41).map (fun i => (i.zero, i.size, i.bytes)) = some (some (.agg #[.int .i64 0, .int .i64 0, .string ⟨#[]⟩]), 3, 32) := by kernel_rfl
theorem Tryz.info47 : (Tryz.prog.info? 47).map (fun i => (i.zero, i.size, i.bytes)) = some (some (.agg #[.string ⟨#[]⟩, .int .i64 0, .bool false]), 3, 32) := by kernel_rfl

end Go.Proofs.YtiinohibmcefkaaGreatDoor
namespace Go.Proofs.YtiinohibmcefkaaGreatDoor
open Go.RowKit Go.Maps

theorem take_succ_eq {α : Type} {a b : List α} {k : Nat} (h : a.take k = b.take k) {x : α} (ha : a[k]? = some x) (hb : b[k]? = some x) : a.take (k + 1) = b.take (k + 1) := by
  rw [take_snoc _ _ _ ha, take_snoc _ _ _ hb, h]
theorem take_end {α : Type} {a b : List α} (hl : a.length = b.length) {k : Nat} (hk : a.length ≤ k) (h : a.take k = b.take k) : a = b := by
  rwa [List.take_of_length_le hk, List.take_of_length_le (by omega)] at h
theorem get_ne {α : Type} {a b : List α} {k : Nat} {x y : α} (ha : a[k]? = some x) (hb : b[k]? = some y) (h : x ≠ y) : a ≠ b := by
  intro e
  rw [e, hb] at ha
  exact h (by simpa using ha.symm)

end Go.Proofs.YtiinohibmcefkaaGreatDoor
namespace Go.Proofs.YtiinohibmcefkaaGreatDoor
open Go.RowKit Go.Maps

set_option maxRecDepth 100000 in
set_option maxHeartbeats 2000000 in
theorem eqSchema_any (w : World) (va vb : Value) (la lb : List FieldA) (ha : FldsAt w va la) (hb : FldsAt w vb lb) (hla : la.length ≤ maxLen) :
    Calls Tryz.prog 55 #[.agg #[va], .agg #[vb]] w fun e w' => e = .returned (.bool (decide (la = lb))) ∧ Keeps (fun _ => False) w w' := by
  obtain ⟨ao, capa, rfl⟩ := RowAt.form ha
  obtain ⟨bo, capb, rfl⟩ := RowAt.form hb
  unfold maxLen at hla
  obtain ⟨H1, h1, hc1⟩ := boxed w #[.slice ao la.length capa] 24
  obtain ⟨H2, h2, hc2⟩ := boxed (w.alloc (.cells #[.slice ao la.length capa] 24)) #[.slice bo lb.length capb] 24
  have hp1 := ((unhide H2).cell (o := 0) h1 id).trans (hc1 0 _ rfl)
  have hp2 := hc2 0 _ rfl
  have h1' := Nat.lt_of_lt_of_le h1 (unhide H2).size
  have HB := hide ((unhide H1).trans (unhide H2))
  have HA := hide (ha.keepF (unhide HB))
  have HBB := hide (hb.keepF (unhide HB))
  have hsz : (w.alloc (.cells #[.slice ao la.length capa] 24)).heap.size = w.heap.size + 1 := by simp
  rw [hsz] at h2 hp2
  clear ha hb hc1 hc2 H1 H2 h1 hsz
  go_enter Tryz.func55, Tryz.ntmps55
  by_cases hlen : la.length = lb.length
  · have hne : ((la.length : Int) != (lb.length : Int)) = false := by simp [hlen]
    have HL := hide hlen
    clear hlen
    go_wp2
    generalize (w.alloc (.cells #[.slice ao la.length capa] 24)).alloc (.cells #[.slice bo lb.length capb] 24) = w2 at *
    generalize w.heap.size = sb at *
    go_loopw [5] (fun i wr => ∃ k : Nat, k ≤ la.length ∧ i = .int .i64 k ∧ Hid (la.take k = lb.take k) ∧ Keeps (fun _ => False) w2 wr) (fun i _ => la.length - (intOf i).toNat)
    case atStart => exact ⟨0, Nat.zero_le _, rfl, rfl, Keeps.refl _ _⟩
    case round =>
      obtain ⟨k, hk, rfl, HT, hkp⟩ := hrel
      have HK := hide hkp
      have p1 := (hkp.cell (o := 0) h1' id).trans hp1
      have p2 := (hkp.cell (o := 0) h2 id).trans hp2
      by_cases hlt : k < la.length
      · have hltb : k < lb.length := by have := unhide HL; omega
        obtain ⟨b, off, c1, e1, hbl, hc⟩ := (unhide HA).cells (by omega)
        obtain ⟨b', off', c2, e2, hbl', hc'⟩ := (unhide HBB).cells (by omega)
        simp at e1 e2
        obtain ⟨rfl, rfl⟩ := e1
        obtain ⟨rfl, rfl⟩ := e2
        obtain ⟨x, hx⟩ : ∃ x, la[k]? = some x := ⟨_, List.getElem?_eq_getElem hlt⟩
        obtain ⟨y, hy⟩ : ∃ y, lb[k]? = some y := ⟨_, List.getElem?_eq_getElem hltb⟩
        have c0 := (hkp.cell hbl id).trans (hc k x hx).1
        have c1 := (hkp.cell hbl id).trans (hc k x hx).2.1
        have c2 := (hkp.cell hbl id).trans (hc k x hx).2.2
        have d0 := (hkp.cell hbl' id).trans (hc' k y hy).1
        have d1 := (hkp.cell hbl' id).trans (hc' k y hy).2.1
        have d2 := (hkp.cell hbl' id).trans (hc' k y hy).2.2
        have z0 : sb < wr.heap.size := Nat.lt_of_lt_of_le h1' (unhide HK).size
        have z1 : b < wr.heap.size := Nat.lt_of_lt_of_le hbl (unhide HK).size
        have z2 : b' < wr.heap.size := Nat.lt_of_lt_of_le hbl' (unhide HK).size
        have z3 : sb + 1 < wr.heap.size := Nat.lt_of_lt_of_le h2 (unhide HK).size
        have i1 : (k : Int) < (la.length : Int) := by omega
        have i2 : (k : Int) < (lb.length : Int) := by omega
        have HX := hide hx
        have HY := hide hy
        clear hc hc' hx hy hkp
        go_wp2
        case roundEnd =>
          rename_i ho
          have HXY : Hid (x = y) := by
            obtain ⟨n1, t1, o1⟩ := x
            obtain ⟨n2, t2, o2⟩ := y
            show _ = _
            simp_all
          go_roundw
          case rel => exact ⟨k + 1, by omega, by go_num, take_succ_eq (unhide HT) (unhide HX) (by rw [unhide HXY]; exact unhide HY), ((unhide HK).alloc _).alloc _⟩
          case measure => simp [intOf]; omega
        all_goals
          rename_i ho
          have HXY : Hid (x ≠ y) := by
            rintro rfl
            simp at ho
          go_ret
          exact ⟨ret_bool (by symm; rw [decide_eq_false_iff_not]; exact get_ne (unhide HX) (unhide HY) (unhide HXY)), (unhide HB).trans (((unhide HK).alloc _).alloc _)⟩
      · have HF := hide (take_end (unhide HL) (by omega) (unhide HT))
        clear hkp
        go_wp2
        go_ret
        exact ⟨ret_bool (by symm; rw [decide_eq_true_iff]; exact unhide HF), (unhide HB).trans (unhide HK)⟩
  · have hne : ((la.length : Int) != (lb.length : Int)) = true := by rw [bne_iff_ne]; omega
    have HL := hide hlen
    clear hlen
    go_wp2
    go_ret
    exact ⟨ret_bool (by symm; rw [decide_eq_false_iff_not]; intro e; exact unhide HL (by rw [e])), unhide HB⟩

end Go.Proofs.YtiinohibmcefkaaGreatDoor
namespace Go.Proofs.YtiinohibmcefkaaGreatDoor
open Go.RowKit Go.Maps

theorem ownsRow_kept {w w' : World} {B e size n : Nat} {v : Value} {xs : List Value} (h : w.ownsRow B e size v n xs) {F : Nat → Prop} (hk : Keeps F w w') (hF : ∀ k, v.ownBlock = some k → ¬ F k) : w'.ownsRow B e size v n xs := by
  obtain ⟨h1, h2⟩ := h
  refine ⟨h1, ?_⟩
  rcases h2 with h2 | ⟨g, cap, cur, hv, hb, hg, rest⟩
  · exact Or.inl h2
  · exact Or.inr ⟨g, cap, cur, hv, hb, by rw [hk.block g (lt_of_block hg) (hF g (by rw [hv]; rfl))]; exact hg, rest⟩
theorem ownsRow_ne {w : World} {B e size n : Nat} {v : Value} {xs : List Value} (h : w.ownsRow B e size v n xs) {k : Nat} {c : Array Value} {t : TypeId} {fr : Nat × Nat} (hb : w.heap[k]? = some (.cells c t fr)) (ht : t ≠ e) : v.ownBlock ≠ some k := by
  rcases h.2 with ⟨hv, _⟩ | ⟨g, cap, cur, hv, _, hg, _⟩
  · rw [hv]; simp [Value.ownBlock]
  · rw [hv]
    simp only [Value.ownBlock, ne_eq, Option.some.injEq]
    rintro rfl
    rw [hb] at hg
    simp at hg
    exact ht hg.2.1
theorem ownsRow_lower {w : World} {B C e size n : Nat} {v : Value} {xs : List Value} (h : w.ownsRow B e size v n xs) (hC : C ≤ B) : w.ownsRow C e size v n xs := by
  obtain ⟨h1, h2⟩ := h
  refine ⟨h1, ?_⟩
  rcases h2 with h2 | ⟨g, cap, cur, hv, hb, rest⟩
  · exact Or.inl h2
  · exact Or.inr ⟨g, cap, cur, hv, Nat.le_trans hC hb, rest⟩
theorem Keeps.narrow {F : Nat → Prop} {a b c : World} (h : Keeps (fun _ => False) a b) (k : Keeps F b c) (hF : ∀ i, F i → a.heap.size ≤ i) : Keeps (fun _ => False) a c :=
  ⟨k.os.trans h.os, k.tape.trans h.tape, k.output.trans h.output, Nat.le_trans h.size k.size, fun i hi _ => (k.block i (Nat.lt_of_lt_of_le hi h.size) (fun f => by have := hF i f; omega)).trans (h.block i hi id)⟩

theorem keeps_set (w : World) (b o : Nat) (u : Value) : Keeps (fun q => q = b) w (w.setCell ⟨b, o, none⟩ u) :=
  (Keeps.refl (fun q => q = b) w).setCell (p := ⟨b, o, none⟩) (fun _ => rfl) u

end Go.Proofs.YtiinohibmcefkaaGreatDoor
namespace Go.Proofs.YtiinohibmcefkaaGreatDoor
open Go.RowKit Go.Maps

def wides (l : List FieldA) : Int := (l.map fun f => wideB f.type).sum
def widthB (l : List FieldA) : Int := headB l + wides l
theorem wides_snoc (l : List FieldA) (f : FieldA) : wides (l ++ [f]) = wides l + wideB f.type := by simp [wides, List.sum_append]
theorem wideB_range (t : Int) : -1 ≤ wideB t ∧ wideB t ≤ 21 := by unfold wideB; repeat' split
                                                                  all_goals omega
theorem wides_range : ∀ l : List FieldA, -(l.length : Int) ≤ wides l ∧ wides l ≤ 21 * (l.length : Int)
  | [] => by simp [wides]
  | f :: r => by
    have h1 := wides_range r
    have h2 := wideB_range f.type
    unfold wides at *
    simp only [List.map_cons, List.sum_cons, List.length_cons]
    omega
theorem headB_le (l : List FieldA) : headB l ≤ l.length := by
  unfold headB
  have := opts_le l
  rcases Nat.eq_zero_or_pos (opts l) with h | h
  · rw [h]; omega
  · omega

set_option maxRecDepth 100000 in
set_option maxHeartbeats 1000000 in
theorem width_any (l : List FieldA) (v : Value) (w : World) (h : FldsAt w v l) (hl : l.length ≤ 8) :
    Calls Tryz.prog 109 #[.agg #[v]] w fun e w' => e = .returned (.int .i64 (widthB l)) ∧ Keeps (fun _ => False) w w' := by
  obtain ⟨ao, cap, rfl⟩ := RowAt.form h
  obtain ⟨HB, hb, hbc⟩ := boxed w #[.slice ao l.length cap] 24
  have hp := hbc 0 (.slice ao l.length cap) rfl
  have hF2 := h.keepF (unhide HB)
  have HH := hide (head_any l _ _ hF2 (by omega))
  have hh := headB_le l
  have HE : Hid (widthB l = headB l + wides l) := rfl
  generalize widthB l = R at *
  generalize headB l = H at *
  have HF2 := hide hF2
  clear hbc h hF2
  go_enter Tryz.func109, Tryz.ntmps109
  go_wp2_with fail
  refine (unhide HH).mono ?_
  rintro e w2 ⟨rfl, hk⟩
  have HF3 := hide ((unhide HF2).keepF hk)
  have HB2 := hide ((unhide HB).trans hk)
  have hb2 : w.heap.size < w2.heap.size := Nat.lt_of_lt_of_le hb hk.size
  have hp2 := (hk.cell hb id).trans hp
  generalize w.alloc (.cells #[.slice ao l.length cap] 24) = w1 at *
  clear HH HF2 HB hk hp hb
  generalize w.heap.size = sb at *
  go_wp2_with fail
  go_loopw [3, 4] (fun n i wr => ∃ k : Nat, k ≤ l.length ∧ i = .int .i64 k ∧ n = .int .i64 (H + wides (l.take k)) ∧ Keeps (fun _ => False) w2 wr) (fun _ i _ => l.length - (intOf i).toNat)
  case atStart => exact ⟨0, Nat.zero_le _, rfl, by simp [wides], Keeps.refl _ _⟩
  case round =>
    obtain ⟨k, hk, rfl, rfl, hkp⟩ := hrel
    have hp' := (hkp.cell (o := 0) hb2 id).trans hp2
    have HK := hide hkp
    have ho := wides_range (l.take k)
    rw [List.length_take] at ho
    cases h : l[k]? with
    | none =>
      have h1 := get_ge h
      obtain rfl : k = l.length := by omega
      clear hkp h h1
      rw [List.take_length] at *
      go_wp2_with fail
      go_ret
      exact ⟨ret_int (unhide HE).symm, (unhide HB2).trans (unhide HK)⟩
    | some f =>
      have h1 := get_lt h
      obtain ⟨b, off, c, e, hbl, hc⟩ := (unhide HF3).cells (by omega)
      simp at e
      obtain ⟨rfl, rfl⟩ := e
      have c1 := (hkp.cell hbl id).trans (hc k f h).2.1
      have HO : Hid (wides (l.take (k + 1)) = wides (l.take k) + wideB f.type) := by show _ = _; rw [take_snoc _ _ _ h, wides_snoc]
      have hwr := wideB_range f.type
      generalize wides (l.take k) = o at *
      clear hkp h hc
      go_wp2_with fail
      refine (wide_any f.type wr).mono ?_
      rintro e w3 ⟨rfl, rfl⟩
      generalize wideB f.type = W at *
      go_wp2_with fail
      go_roundw
      case rel => exact ⟨k + 1, by omega, by go_num, by rw [unhide HO]; go_num, unhide HK⟩
      case measure => simp [intOf]; omega

/-- May a schema be so? -/
def fieldOK (f : FieldA) : Bool := nameB f.name && decide (0 ≤ wideB f.type)
def schemaB (l : List FieldA) : Bool := decide (1 ≤ l.length) && decide (l.length ≤ 8) && l.all fieldOK && decide (l.map FieldA.name).Nodup && decide (widthB l ≤ 64)
def errS (l : List FieldA) : Int := if schemaB l then 0 else 60

end Go.Proofs.YtiinohibmcefkaaGreatDoor
