import Derived.Test.YtafniangljmjeabDoorJa
namespace Go.Proofs.YtafniangljmjeabDoor
open Go.RowKit Go.Maps

theorem Tryd.info5 : (Tryd.prog.info? 5).map (fun i => (i.zero, i.size, i.bytes)) = some (some (.int .u8 0), 1, 1) := by kernel_rfl
theorem Tryd.info129 : (Tryd.prog.info? 129).map (fun i => (i.zero, i.size, i.bytes)) = some (some (.agg #[.int .i64 0, .int .i64 0, .string ⟨#[]⟩]), 3, 32) := by kernel_rfl
theorem Tryd.info45 : (Tryd.prog.info? 45).map (fun i => (i.zero, i.size, i.bytes)) = some (some (.agg #[.string ⟨#[]⟩, .int .i64 0, .bool false]), 3, 32) := by kernel_rfl

theorem BytesAt.cells {w : World} {v : Value} {l : Txt} (h : BytesAt w v l) (h0 : 0 < l.length) :
    ∃ b off cap, v = .slice (some ⟨b, off, none⟩) l.length cap ∧ b < w.heap.size ∧ ∀ i c, l[i]? = some c → w.cell? ⟨b, off + i, none⟩ = some (.int .u8 (num c)) := by
  obtain ⟨b, off, cap, e, hb, hc⟩ := RowAt.cells h h0
  exact ⟨b, off, cap, e, hb, fun i c hi => hc i _ (by rw [bs_get, hi]; rfl)⟩

end Go.Proofs.YtafniangljmjeabDoor
namespace Go.Proofs.YtafniangljmjeabDoor
open Go.RowKit Go.Maps

theorem take_succ_eq {α : Type} {a b : List α} {k : Nat} (h : a.take k = b.take k) {x : α} (ha : a[k]? = some x) (hb : b[k]? = some x) : a.take (k + 1) = b.take (k + 1) := by
  rw [take_snoc _ _ _ ha, take_snoc _ _ _ hb, h]
theorem take_end {α : Type} {a b : List α} (hl : a.length = b.length) {k : Nat} (hk : a.length ≤ k) (h : a.take k = b.take k) : a = b := by
  rwa [List.take_of_length_le hk, List.take_of_length_le (by omega)] at h
theorem get_ne {α : Type} {a b : List α} {k : Nat} {x y : α} (ha : a[k]? = some x) (hb : b[k]? = some y) (h : x ≠ y) : a ≠ b := by
  intro e
  rw [e, hb] at ha
  exact h (by simpa using ha.symm)

end Go.Proofs.YtafniangljmjeabDoor
namespace Go.Proofs.YtafniangljmjeabDoor
open Go.RowKit Go.Maps

set_option maxRecDepth 100000 in
set_option maxHeartbeats 2000000 in
theorem eqSchema_any (w : World) (va vb : Value) (la lb : List FieldA) (ha : FldsAt w va la) (hb : FldsAt w vb lb) (hla : la.length ≤ maxLen) :
    Calls Tryd.prog 11 #[.agg #[va], .agg #[vb]] w fun e w' => e = .returned (.bool (decide (la = lb))) ∧ Keeps (fun _ => False) w w' := by
  obtain ⟨ao, capa, rfl⟩ := RowAt.form ha
  obtain ⟨bo, capb, rfl⟩ := RowAt.form hb
  unfold maxLen at hla
  obtain ⟨H1, h1, hc1⟩ := boxed w #[.slice ao la.length capa] 24
  obtain ⟨H2, h2, hc2⟩ := boxed (w.alloc (.cells #[.slice ao la.length capa] 24)) #[.slice bo lb.length capb] 24
  have hp1 := ((unhide H2).cell (o := 0) h1 id).trans (hc1 0 _ rfl)
  have hp2 := hc2 0 _ rfl
  have h1' := Nat.lt_of_lt_of_le h1 (unhide H2).size
  have HB := hide ((unhide H1).trans (unhide H2))
  have HA := hide (ha.keepF (unhide HB))
  have HBB := hide (hb.keepF (unhide HB))
  have hsz : (w.alloc (.cells #[.slice ao la.length capa] 24)).heap.size = w.heap.size + 1 := by simp
  rw [hsz] at h2 hp2
  clear ha hb hc1 hc2 H1 H2 h1 hsz
  go_enter Tryd.func11, Tryd.ntmps11
  by_cases hlen : la.length = lb.length
  · have hne : ((la.length : Int) != (lb.length : Int)) = false := by simp [hlen]
    have HL := hide hlen
    clear hlen
    go_wp2
    generalize (w.alloc (.cells #[.slice ao la.length capa] 24)).alloc (.cells #[.slice bo lb.length capb] 24) = w2 at *
    generalize w.heap.size = sb at *
    go_loopw [5] (fun i wr => ∃ k : Nat, k ≤ la.length ∧ i = .int .i64 k ∧ Hid (la.take k = lb.take k) ∧ Keeps (fun _ => False) w2 wr) (fun i _ => la.length - (intOf i).toNat)
    case atStart => exact ⟨0, Nat.zero_le _, rfl, rfl, Keeps.refl _ _⟩
    case round =>
      obtain ⟨k, hk, rfl, HT, hkp⟩ := hrel
      have HK := hide hkp
      have p1 := (hkp.cell (o := 0) h1' id).trans hp1
      have p2 := (hkp.cell (o := 0) h2 id).trans hp2
      by_cases hlt : k < la.length
      · have hltb : k < lb.length := by have := unhide HL; omega
        obtain ⟨b, off, c1, e1, hbl, hc⟩ := (unhide HA).cells (by omega)
        obtain ⟨b', off', c2, e2, hbl', hc'⟩ := (unhide HBB).cells (by omega)
        simp at e1 e2
        obtain ⟨rfl, rfl⟩ := e1
        obtain ⟨rfl, rfl⟩ := e2
        obtain ⟨x, hx⟩ : ∃ x, la[k]? = some x := ⟨_, List.getElem?_eq_getElem hlt⟩
        obtain ⟨y, hy⟩ : ∃ y, lb[k]? = some y := ⟨_, List.getElem?_eq_getElem hltb⟩
        have c0 := (hkp.cell hbl id).trans (hc k x hx).1
        have c1 := (hkp.cell hbl id).trans (hc k x hx).2.1
        have c2 := (hkp.cell hbl id).trans (hc k x hx).2.2
        have d0 := (hkp.cell hbl' id).trans (hc' k y hy).1
        have d1 := (hkp.cell hbl' id).trans (hc' k y hy).2.1
        have d2 := (hkp.cell hbl' id).trans (hc' k y hy).2.2
        have z0 : sb < wr.heap.size := Nat.lt_of_lt_of_le h1' (unhide HK).size
        have z1 : b < wr.heap.size := Nat.lt_of_lt_of_le hbl (unhide HK).size
        have z2 : b' < wr.heap.size := Nat.lt_of_lt_of_le hbl' (unhide HK).size
        have z3 : sb + 1 < wr.heap.size := Nat.lt_of_lt_of_le h2 (unhide HK).size
        have i1 : (k : Int) < (la.length : Int) := by omega
        have i2 : (k : Int) < (lb.length : Int) := by omega
        have HX := hide hx
        have HY := hide hy
        clear hc hc' hx hy hkp
        go_wp2
        case roundEnd =>
          rename_i ho
          have HXY : Hid (x = y) := by
            obtain ⟨n1, t1, o1⟩ := x
            obtain ⟨n2, t2, o2⟩ := y
            show _ = _
            simp_all
          go_roundw
          case rel => exact ⟨k + 1, by omega, by go_num, take_succ_eq (unhide HT) (unhide HX) (by rw [unhide HXY]; exact unhide HY), ((unhide HK).alloc _).alloc _⟩
          case measure => simp [intOf]; omega
        all_goals
          rename_i ho
          have HXY : Hid (x ≠ y) := by
            rintro rfl
            simp at ho
          go_ret
          exact ⟨ret_bool (by symm; rw [decide_eq_false_iff_not]; exact get_ne (unhide HX) (unhide HY) (unhide HXY)), (unhide HB).trans (((unhide HK).alloc _).alloc _)⟩
      · have HF := hide (take_end (unhide HL) (by omega) (unhide HT))
        clear hkp
        go_wp2
        go_ret
        exact ⟨ret_bool (by symm; rw [decide_eq_true_iff]; exact unhide HF), (unhide HB).trans (unhide HK)⟩
  · have hne : ((la.length : Int) != (lb.length : Int)) = true := by rw [bne_iff_ne]; omega
    have HL := hide hlen
    clear hlen
    go_wp2
    go_ret
    exact ⟨ret_bool (by symm; rw [decide_eq_false_iff_not]; intro e; exact unhide HL (by rw [e])), unhide HB⟩

end Go.Proofs.YtafniangljmjeabDoor
namespace Go.Proofs.YtafniangljmjeabDoor
open Go.RowKit Go.Maps

theorem ownsRow_kept {w w' : World} {B e size n : Nat} {v : Value} {xs : List Value} (h : w.ownsRow B e size v n xs) {F : Nat → Prop} (hk : Keeps F w w') (hF : ∀ k, v.ownBlock = some k → ¬ F k) : w'.ownsRow B e size v n xs := by
  obtain ⟨h1, h2⟩ := h
  refine ⟨h1, ?_⟩
  rcases h2 with h2 | ⟨g, cap, cur, hv, hb, hg, rest⟩
  · exact Or.inl h2
  · exact Or.inr ⟨g, cap, cur, hv, hb, by rw [hk.block g (lt_of_block hg) (hF g (by rw [hv]; rfl))]; exact hg, rest⟩
theorem ownsRow_ne {w : World} {B e size n : Nat} {v : Value} {xs : List Value} (h : w.ownsRow B e size v n xs) {k : Nat} {c : Array Value} {t : TypeId} {fr : Nat × Nat} (hb : w.heap[k]? = some (.cells c t fr)) (ht : t ≠ e) : v.ownBlock ≠ some k := by
  rcases h.2 with ⟨hv, _⟩ | ⟨g, cap, cur, hv, _, hg, _⟩
  · rw [hv]; simp [Value.ownBlock]
  · rw [hv]
    simp only [Value.ownBlock, ne_eq, Option.some.injEq]
    rintro rfl
    rw [hb] at hg
    simp at hg
    exact ht hg.2.1
theorem ownsRow_lower {w : World} {B C e size n : Nat} {v : Value} {xs : List Value} (h : w.ownsRow B e size v n xs) (hC : C ≤ B) : w.ownsRow C e size v n xs := by
  obtain ⟨h1, h2⟩ := h
  refine ⟨h1, ?_⟩
  rcases h2 with h2 | ⟨g, cap, cur, hv, hb, rest⟩
  · exact Or.inl h2
  · exact Or.inr ⟨g, cap, cur, hv, Nat.le_trans hC hb, rest⟩
theorem Keeps.narrow {F : Nat → Prop} {a b c : World} (h : Keeps (fun _ => False) a b) (k : Keeps F b c) (hF : ∀ i, F i → a.heap.size ≤ i) : Keeps (fun _ => False) a c :=
  ⟨k.os.trans h.os, k.tape.trans h.tape, k.output.trans h.output, Nat.le_trans h.size k.size, fun i hi _ => (k.block i (Nat.lt_of_lt_of_le hi h.size) (fun f => by have := hF i f; omega)).trans (h.block i hi id)⟩

theorem keeps_set (w : World) (b o : Nat) (u : Value) : Keeps (fun q => q = b) w (w.setCell ⟨b, o, none⟩ u) :=
  (Keeps.refl (fun q => q = b) w).setCell (p := ⟨b, o, none⟩) (fun _ => rfl) u

end Go.Proofs.YtafniangljmjeabDoor
namespace Go.Proofs.YtafniangljmjeabDoor
open Go.RowKit Go.Maps

/-- The groups of a number. -/
def groups (u : Nat) : Txt := if _h : u < 128 then [UInt8.ofNat u] else UInt8.ofNat (u % 128 + 128) :: groups (u / 128)
theorem groups_small {u : Nat} (h : u < 128) : groups u = [UInt8.ofNat u] := by rw [groups, dif_pos h]
theorem groups_big {u : Nat} (h : 128 ≤ u) : groups u = UInt8.ofNat (u % 128 + 128) :: groups (u / 128) := by rw [groups, dif_neg (by omega)]
theorem groups_length (k : Nat) : ∀ u, u < 128 ^ (k + 1) → (groups u).length ≤ k + 1 := by
  induction k with
  | zero => intro u h; rw [groups_small (by simpa using h)]; simp
  | succ k ih =>
    intro u h
    by_cases h0 : u < 128
    · rw [groups_small h0]; simp
    · rw [groups_big (by omega)]
      have := ih (u / 128) (by rw [Nat.pow_succ] at h; omega)
      simp; omega
theorem groups_10 (u : Nat) (h : u ≤ 18446744073709551615) : (groups u).length ≤ 10 := groups_length 9 u (by omega)
theorem num_of (u : Nat) (h : u < 256) : num (UInt8.ofNat u) = u := by unfold num; rw [UInt8.toNat_ofNat']; omega

/-- A slice that is appended to: its own block is the old one, or a new one. -/
theorem own_step {S' : Nat} {v o o' : Value} {S g : Nat} {n c : Nat} (h : o.ownBlock = v.ownBlock ∨ ∀ q, o.ownBlock = some q → S ≤ q) (hat : o.ownBlock = some g ∨ g = S') (hS : S ≤ S') (e : o' = .slice (some ⟨g, 0, none⟩) n c) : o'.ownBlock = v.ownBlock ∨ ∀ q, o'.ownBlock = some q → S ≤ q := by
  subst e
  have e1 : (Value.slice (some ⟨g, 0, none⟩) n c).ownBlock = some g := rfl
  rw [e1]
  rcases hat with hat | rfl
  · rcases h with h | h
    · left; rw [← h, hat]
    · right; intro q hq; simp at hq; subst hq; exact h _ hat
  · right; intro q hq; simp at hq; omega

def tn (n : Int) : Nat := (turned n).toNat
theorem tn_eq (n : Int) : turned n = (tn n : Int) := by unfold tn turned; split <;> omega
theorem tn_le (n : Int) (h0 : -9223372036854775808 ≤ n) (h1 : n ≤ 9223372036854775807) : tn n ≤ 18446744073709551615 := by unfold tn turned; split <;> omega

/-- The int at a place of some bytes, and the place behind it (-1: none). -/
def readG : Nat → Txt → Nat → Nat → Option (Nat × Nat)
  | 0, _, _, _ => none
  | _ + 1, [], _, _ => none
  | f + 1, c :: r, u, k =>
    if c.toNat < 128 then some ((u + 128 ^ k * (c.toNat % 128)) % 18446744073709551616, k + 1)
    else readG f r ((u + 128 ^ k * (c.toNat % 128)) % 18446744073709551616) (k + 1)
def readIntB (t : Txt) (a : Nat) : Int × Int := match readG 10 (t.drop a) 0 0 with
  | none => (0, -1)
  | some (u, k) => (backB u, (a + k : Nat))
theorem pow128 (k : Nat) (h : k ≤ 9) : 128 ^ k ≤ 9223372036854775808 := by
  have : 128 ^ k ≤ 128 ^ 9 := Nat.pow_le_pow_right (by omega) h
  omega
theorem wrapU_add (U X : Int) : IntKind.u64.wrap (U + IntKind.u64.wrap X) = (U + X) % 18446744073709551616 := by
  rw [IntKind.wrap_u64, IntKind.wrap_u64]; omega

theorem ret_ii {k j : IntKind} {a b c d : Int} (h : a = b) (h2 : c = d) : Ending.returned (.tuple #[.int k a, .int j c]) = .returned (.tuple #[.int k b, .int j d]) := by rw [h, h2]

end Go.Proofs.YtafniangljmjeabDoor
