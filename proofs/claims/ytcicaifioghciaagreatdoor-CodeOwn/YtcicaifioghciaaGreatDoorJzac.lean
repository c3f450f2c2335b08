import Derived.Test.YtcicaifioghciaaGreatDoorJzab
import Derived.Laws.BitsLemmas
import Derived.Test.YtcicaifioghciaaGreatDoorJzaa
import Derived.Lib.AppendStr
namespace Go.Proofs.YtcicaifioghciaaGreatDoor
open Go.RowKit Go.Maps

theorem take_succ_eq {α : Type} {a b : List α} {k : Nat} (h : a.take k = b.take k) {x : α} (ha : a[k]? = some x) (hb : b[k]? = some x) : a.take (k + 1) = b.take (k + 1) := by
  rw [take_snoc _ _ _ ha, take_snoc _ _ _ hb, h]
theorem take_end {α : Type} {a b : List α} (hl : a.length = b.length) {k : Nat} (hk : a.length ≤ k) (h : a.take k = b.take k) : a = b := by
  rwa [List.take_of_length_le hk, List.take_of_length_le (by omega)] at h
theorem get_ne {α : Type} {a b : List α} {k : Nat} {x y : α} (ha : a[k]? = some x) (hb : b[k]? = some y) (h : x ≠ y) : a ≠ b := by
  intro e
  rw [e, hb] at ha
  exact h (by simpa using ha.symm)

set_option maxRecDepth 100000 in
set_option maxHeartbeats 1000000 in
theorem eqBytes_any (w : World) (va vb : Value) (la lb : Txt) (ha : BytesAt w va la) (hb : BytesAt w vb lb) (hla : la.length ≤ maxLen) :
    Calls Tryz.prog 12 #[va, vb] w fun e w' => e = .returned (.bool (decide (la = lb))) ∧ ∃ n, w' = w.drewN n := by
  obtain ⟨ao, capa, rfl⟩ := RowAt.form ha
  obtain ⟨bo, capb, rfl⟩ := RowAt.form hb
  unfold maxLen at hla
  by_cases hlen : la.length = lb.length
  · have hne : ((la.length : Int) != (lb.length : Int)) = false := by simp [hlen]
    have HA := hide ha
    have HB := hide hb
    have HL := hide hlen
    clear ha hb hlen
    go_enter Tryz.func12, Tryz.ntmps12
    go_wp2
    go_loopw [5] (fun i wr => ∃ k : Nat, k ≤ la.length ∧ i = .int .i64 k ∧ Hid (la.take k = lb.take k) ∧ ∃ n, wr = w.drewN n) (fun i _ => la.length - (intOf i).toNat)
    case atStart => exact ⟨0, Nat.zero_le _, rfl, rfl, 0, rfl⟩
    case round =>
      obtain ⟨k, hk, rfl, HT, n, rfl⟩ := hrel
      by_cases hlt : k < la.length
      · have hltb : k < lb.length := by have := unhide HL; omega
        obtain ⟨b1, o1, c1, e1, _, hc1⟩ := (unhide HA).cells (by omega)
        obtain ⟨b2, o2, c2, e2, _, hc2⟩ := (unhide HB).cells (by omega)
        simp at e1 e2
        obtain ⟨rfl, rfl⟩ := e1
        obtain ⟨rfl, rfl⟩ := e2
        obtain ⟨x, hx⟩ : ∃ x, la[k]? = some x := ⟨_, List.getElem?_eq_getElem hlt⟩
        obtain ⟨y, hy⟩ : ∃ y, lb[k]? = some y := ⟨_, List.getElem?_eq_getElem hltb⟩
        have q1 := hc1 k x hx
        have q2 := hc2 k y hy
        have i1 : (k : Int) < (la.length : Int) := by omega
        have i2 : (k : Int) < (lb.length : Int) := by omega
        have HX := hide hx
        have HY := hide hy
        clear hc1 hc2 hx hy
        go_wp2_with fail
        go_quiet (fail)
        by_cases hxy : x = y
        · subst hxy
          go_wp2
          go_roundw
          case rel => exact ⟨k + 1, by omega, by go_num, take_succ_eq (unhide HT) (unhide HX) (unhide HY), _, rfl⟩
          case measure => simp [intOf]; omega
        · have hb' : (num x != num y) = true := by rw [bne_iff_ne]; intro e; exact hxy (num_inj e)
          have HN := hide hxy
          clear hxy
          go_wp2
          go_ret
          exact ⟨ret_bool (by symm; rw [decide_eq_false_iff_not]; exact get_ne (unhide HX) (unhide HY) (unhide HN)), n + nq, by simp⟩
      · have HF := hide (take_end (unhide HL) (by omega) (unhide HT))
        go_wp2
        go_ret
        exact ⟨ret_bool (by symm; rw [decide_eq_true_iff]; exact unhide HF), _, rfl⟩
  · have hne : ((la.length : Int) != (lb.length : Int)) = true := by rw [bne_iff_ne]; omega
    have HL := hide hlen
    clear hlen
    go_enter Tryz.func12, Tryz.ntmps12
    go_wp2
    go_ret
    exact ⟨ret_bool (by symm; rw [decide_eq_false_iff_not]; intro e; exact unhide HL (by rw [e])), 0, rfl⟩

end Go.Proofs.YtcicaifioghciaaGreatDoor
namespace Go.Proofs.YtcicaifioghciaaGreatDoor
open Go.RowKit Go.Maps

set_option maxRecDepth 100000 in
set_option maxHeartbeats 2000000 in
theorem eqSchema_any (w : World) (va vb : Value) (la lb : List FieldA) (ha : FldsAt w va la) (hb : FldsAt w vb lb) (hla : la.length ≤ maxLen) :
    Calls Tryz.prog 15 #[.agg #[va], .agg #[vb]] w fun e w' => e = .returned (.bool (decide (la = lb))) ∧ Keeps (fun _ => False) w w' := by
  obtain ⟨ao, capa, rfl⟩ := RowAt.form ha
  obtain ⟨bo, capb, rfl⟩ := RowAt.form hb
  unfold maxLen at hla
  obtain ⟨H1, h1, hc1⟩ := boxed w #[.slice ao la.length capa] 24
  obtain ⟨H2, h2, hc2⟩ := boxed (w.alloc (.cells #[.slice ao la.length capa] 24)) #[.slice bo lb.length capb] 24
  have hp1 := ((unhide H2).cell (o := 0) h1 id).trans (hc1 0 _ rfl)
  have hp2 := hc2 0 _ rfl
  have h1' := Nat.lt_of_lt_of_le h1 (unhide H2).size
  have HB := hide ((unhide H1).trans (unhide H2))
  have HA := hide (ha.keepF (unhide HB))
  have HBB := hide (hb.keepF (unhide HB))
  have hsz : (w.alloc (.cells #[.slice ao la.length capa] 24)).heap.size = w.heap.size + 1 := by simp
  rw [hsz] at h2 hp2
  clear ha hb hc1 hc2 H1 H2 h1 hsz
  go_enter Tryz.func15, Tryz.ntmps15
  by_cases hlen : la.length = lb.length
  · have hne : ((la.length : Int) != (lb.length : Int)) = false := by simp [hlen]
    have HL := hide hlen
    clear hlen
    go_wp2
    generalize (w.alloc (.cells #[.slice ao la.length capa] 24)).alloc (.cells #[.slice bo lb.length capb] 24) = w2 at *
    generalize w.heap.size = sb at *
    go_loopw [5] (fun i wr => ∃ k : Nat, k ≤ la.length ∧ i = .int .i64 k ∧ Hid (la.take k = lb.take k) ∧ Keeps (fun _ => False) w2 wr) (fun i _ => la.length - (intOf i).toNat)
    case atStart => exact ⟨0, Nat.zero_le _, rfl, rfl, Keeps.refl _ _⟩
    case round =>
      obtain ⟨k, hk, rfl, HT, hkp⟩ := hrel
      have HK := hide hkp
      have p1 := (hkp.cell (o := 0) h1' id).trans hp1
      have p2 := (hkp.cell (o := 0) h2 id).trans hp2
      by_cases hlt : k < la.length
      · have hltb : k < lb.length := by have := unhide HL; omega
        obtain ⟨b, off, c1, e1, hbl, hc⟩ := (unhide HA).cells (by omega)
        obtain ⟨b', off', c2, e2, hbl', hc'⟩ := (unhide HBB).cells (by omega)
        simp at e1 e2
        obtain ⟨rfl, rfl⟩ := e1
        obtain ⟨rfl, rfl⟩ := e2
        obtain ⟨x, hx⟩ : ∃ x, la[k]? = some x := ⟨_, List.getElem?_eq_getElem hlt⟩
        obtain ⟨y, hy⟩ : ∃ y, lb[k]? = some y := ⟨_, List.getElem?_eq_getElem hltb⟩
        have c0 := (hkp.cell hbl id).trans (hc k x hx).1
        have c1 := (hkp.cell hbl id).trans (hc k x hx).2.1
        have c2 := (hkp.cell hbl id).trans (hc k x hx).2.2
        have d0 := (hkp.cell hbl' id).trans (hc' k y hy).1
        have d1 := (hkp.cell hbl' id).trans (hc' k y hy).2.1
        have d2 := (hkp.cell hbl' id).trans (hc' k y hy).2.2
        have z0 : sb < wr.heap.size := Nat.lt_of_lt_of_le h1' (unhide HK).size
        have z1 : b < wr.heap.size := Nat.lt_of_lt_of_le hbl (unhide HK).size
        have z2 : b' < wr.heap.size := Nat.lt_of_lt_of_le hbl' (unhide HK).size
        have z3 : sb + 1 < wr.heap.size := Nat.lt_of_lt_of_le h2 (unhide HK).size
        have i1 : (k : Int) < (la.length : Int) := by omega
        have i2 : (k : Int) < (lb.length : Int) := by omega
        have HX := hide hx
        have HY := hide hy
        clear hc hc' hx hy hkp
        go_wp2
        case roundEnd =>
          rename_i ho
          have HXY : Hid (x = y) := by
            obtain ⟨n1, t1, o1⟩ := x
            obtain ⟨n2, t2, o2⟩ := y
            show _ = _
            simp_all
          go_roundw
          case rel => exact ⟨k + 1, by omega, by go_num, take_succ_eq (unhide HT) (unhide HX) (by rw [unhide HXY]; exact unhide HY), ((unhide HK).alloc _).alloc _⟩
          case measure => simp [intOf]; omega
        all_goals
          rename_i ho
          have HXY : Hid (x ≠ y) := by
            rintro rfl
            simp at ho
          go_ret
          exact ⟨ret_bool (by symm; rw [decide_eq_false_iff_not]; exact get_ne (unhide HX) (unhide HY) (unhide HXY)), (unhide HB).trans (((unhide HK).alloc _).alloc _)⟩
      · have HF := hide (take_end (unhide HL) (by omega) (unhide HT))
        clear hkp
        go_wp2
        go_ret
        exact ⟨ret_bool (by symm; rw [decide_eq_true_iff]; exact unhide HF), (unhide HB).trans (unhide HK)⟩
  · have hne : ((la.length : Int) != (lb.length : Int)) = true := by rw [bne_iff_ne]; omega
    have HL := hide hlen
    clear hlen
    go_wp2
    go_ret
    exact ⟨ret_bool (by symm; rw [decide_eq_false_iff_not]; intro e; exact unhide HL (by rw [e])), unhide HB⟩

end Go.Proofs.YtcicaifioghciaaGreatDoor
namespace Go.Proofs.YtcicaifioghciaaGreatDoor
open Go.RowKit Go.Maps

theorem ownsRow_kept {w w' : World} {B e size n : Nat} {v : Value} {xs : List Value} (h : w.ownsRow B e size v n xs) {F : Nat → Prop} (hk : Keeps F w w') (hF : ∀ k, v.ownBlock = some k → ¬ F k) : w'.ownsRow B e size v n xs := by
  obtain ⟨h1, h2⟩ := h
  refine ⟨h1, ?_⟩
  rcases h2 with h2 | ⟨g, cap, cur, hv, hb, hg, rest⟩
  · exact Or.inl h2
  · exact Or.inr ⟨g, cap, cur, hv, hb, by rw [hk.block g (lt_of_block hg) (hF g (by rw [hv]; rfl))]; exact hg, rest⟩
theorem ownsRow_ne {w : World} {B e size n : Nat} {v : Value} {xs : List Value} (h : w.ownsRow B e size v n xs) {k : Nat} {c : Array Value} {t : TypeId} {fr : Nat × Nat} (hb : w.heap[k]? = some (.cells c t fr)) (ht : t ≠ e) : v.ownBlock ≠ some k := by
  rcases h.2 with ⟨hv, _⟩ | ⟨g, cap, cur, hv, _, hg, _⟩
  · rw [hv]; simp [Value.ownBlock]
  · rw [hv]
    simp only [Value.ownBlock, ne_eq, Option.some.injEq]
    rintro rfl
    rw [hb] at hg
    simp at hg
    exact ht hg.2.1
theorem ownsRow_lower {w : World} {B C e size n : Nat} {v : Value} {xs : List Value} (h : w.ownsRow B e size v n xs) (hC : C ≤ B) : w.ownsRow C e size v n xs := by
  obtain ⟨h1, h2⟩ := h
  refine ⟨h1, ?_⟩
  rcases h2 with h2 | ⟨g, cap, cur, hv, hb, rest⟩
  · exact Or.inl h2
  · exact Or.inr ⟨g, cap, cur, hv, Nat.le_trans hC hb, rest⟩
theorem Keeps.narrow {F : Nat → Prop} {a b c : World} (h : Keeps (fun _ => False) a b) (k : Keeps F b c) (hF : ∀ i, F i → a.heap.size ≤ i) : Keeps (fun _ => False) a c :=
  ⟨k.os.trans h.os, k.tape.trans h.tape, k.output.trans h.output, Nat.le_trans h.size k.size, fun i hi _ => (k.block i (Nat.lt_of_lt_of_le hi h.size) (fun f => by have := hF i f; omega)).trans (h.block i hi id)⟩

theorem keeps_set (w : World) (b o : Nat) (u : Value) : Keeps (fun q => q = b) w (w.setCell ⟨b, o, none⟩ u) :=
  (Keeps.refl (fun q => q = b) w).setCell (p := ⟨b, o, none⟩) (fun _ => rfl) u

end Go.Proofs.YtcicaifioghciaaGreatDoor
namespace Go.Proofs.YtcicaifioghciaaGreatDoor
open Go.RowKit Go.Maps

/-- The groups of a number. -/
def groups (u : Nat) : Txt := if _h : u < 128 then [UInt8.ofNat u] else UInt8.ofNat (u % 128 + 128) :: groups (u / 128)
theorem groups_small {u : Nat} (h : u < 128) : groups u = [UInt8.ofNat u] := by rw [groups, dif_pos h]
theorem groups_big {u : Nat} (h : 128 ≤ u) : groups u = UInt8.ofNat (u % 128 + 128) :: groups (u / 128) := by rw [groups, dif_neg (by omega)]
theorem groups_length (k : Nat) : ∀ u, u < 128 ^ (k + 1) → (groups u).length ≤ k + 1 := by
  induction k with
  | zero => intro u h; rw [groups_small (by simpa using h)]; simp
  | succ k ih =>
    intro u h
    by_cases h0 : u < 128
    · rw [groups_small h0]; simp
    · rw [groups_big (by omega)]
      have := ih (u / 128) (by rw [Nat.pow_succ] at h; omega)
      simp; omega
theorem groups_10 (u : Nat) (h : u ≤ 18446744073709551615) : (groups u).length ≤ 10 := groups_length 9 u (by omega)
theorem num_of (u : Nat) (h : u < 256) : num (UInt8.ofNat u) = u := by unfold num; rw [UInt8.toNat_ofNat']; omega

/-- A slice that is appended to: its own block is the old one, or a new one. -/
theorem own_step {S' : Nat} {v o o' : Value} {S g : Nat} {n c : Nat} (h : o.ownBlock = v.ownBlock ∨ ∀ q, o.ownBlock = some q → S ≤ q) (hat : o.ownBlock = some g ∨ g = S') (hS : S ≤ S') (e : o' = .slice (some ⟨g, 0, none⟩) n c) : o'.ownBlock = v.ownBlock ∨ ∀ q, o'.ownBlock = some q → S ≤ q := by
  subst e
  have e1 : (Value.slice (some ⟨g, 0, none⟩) n c).ownBlock = some g := rfl
  rw [e1]
  rcases hat with hat | rfl
  · rcases h with h | h
    · left; rw [← h, hat]
    · right; intro q hq; simp at hq; subst hq; exact h _ hat
  · right; intro q hq; simp at hq; omega

def tn (n : Int) : Nat := (turned n).toNat
theorem tn_eq (n : Int) : turned n = (tn n : Int) := by unfold tn turned; split <;> omega
theorem tn_le (n : Int) (h0 : -9223372036854775808 ≤ n) (h1 : n ≤ 9223372036854775807) : tn n ≤ 18446744073709551615 := by unfold tn turned; split <;> omega

/-- The int at a place of some bytes, and the place behind it (-1: none). -/
def readG : Nat → Txt → Nat → Nat → Option (Nat × Nat)
  | 0, _, _, _ => none
  | _ + 1, [], _, _ => none
  | f + 1, c :: r, u, k =>
    if c.toNat < 128 then some ((u + 128 ^ k * (c.toNat % 128)) % 18446744073709551616, k + 1)
    else readG f r ((u + 128 ^ k * (c.toNat % 128)) % 18446744073709551616) (k + 1)
def readIntB (t : Txt) (a : Nat) : Int × Int := match readG 10 (t.drop a) 0 0 with
  | none => (0, -1)
  | some (u, k) => (backB u, (a + k : Nat))
theorem pow128 (k : Nat) (h : k ≤ 9) : 128 ^ k ≤ 9223372036854775808 := by
  have : 128 ^ k ≤ 128 ^ 9 := Nat.pow_le_pow_right (by omega) h
  omega
theorem wrapU_add (U X : Int) : IntKind.u64.wrap (U + IntKind.u64.wrap X) = (U + X) % 18446744073709551616 := by
  rw [IntKind.wrap_u64, IntKind.wrap_u64]; omega

theorem ret_ii {k j : IntKind} {a b c d : Int} (h : a = b) (h2 : c = d) : Ending.returned (.tuple #[.int k a, .int j c]) = .returned (.tuple #[.int k b, .int j d]) := by rw [h, h2]

end Go.Proofs.YtcicaifioghciaaGreatDoor
namespace Go.Proofs.YtcicaifioghciaaGreatDoor
open Go.RowKit Go.Maps

theorem xor_zero64 (a : Int) (h0 : 0 ≤ a) (h1 : a < 18446744073709551616) : bits .xor .u64 a 0 = a := by
  show IntKind.u64.wrap ((BitVec.ofInt 64 a ^^^ BitVec.ofInt 64 0).toNat : Int) = a
  rw [show BitVec.ofInt 64 0 = 0#64 from rfl, BitVec.xor_zero, BitVec.toNat_ofInt, IntKind.wrap_u64]
  omega
theorem xor_ones64 (a : Int) (h0 : 0 ≤ a) (h1 : a < 18446744073709551616) : bits .xor .u64 a 18446744073709551615 = 18446744073709551615 - a := by
  show IntKind.u64.wrap ((BitVec.ofInt 64 a ^^^ BitVec.ofInt 64 18446744073709551615).toNat : Int) = _
  rw [show BitVec.ofInt 64 18446744073709551615 = BitVec.allOnes 64 from rfl, BitVec.xor_allOnes, BitVec.toNat_not, BitVec.toNat_ofInt, IntKind.wrap_u64]
  omega
theorem turn_xor (n : Int) (h0 : -9223372036854775808 ≤ n) (h1 : n ≤ 9223372036854775807) : bits .xor .u64 (IntKind.u64.wrap (wrap64 (n * 2))) (IntKind.u64.wrap (n / 9223372036854775808)) = (tn n : Int) := by
  have e : IntKind.u64.wrap (wrap64 (n * 2)) = (n * 2) % 18446744073709551616 := by
    rw [IntKind.wrap_u64]
    unfold wrap64
    omega
  rw [e, ← tn_eq]
  unfold turned
  by_cases h : 0 ≤ n
  · rw [show IntKind.u64.wrap (n / 9223372036854775808) = 0 by rw [IntKind.wrap_u64]; omega, xor_zero64 _ (by omega) (by omega), if_pos h]
    omega
  · rw [show IntKind.u64.wrap (n / 9223372036854775808) = 18446744073709551615 by rw [IntKind.wrap_u64]; omega, xor_ones64 _ (by omega) (by omega), if_neg h]
    omega
theorem or_128 : ∀ x : Fin 256, bits .or .u8 (x.1 : Int) 128 = (x.1 : Int) % 128 + 128 := by decide +kernel
theorem or_group (k : Nat) : bits .or .u8 ((k : Int) % 256) 128 = (k : Int) % 128 + 128 := by
  have := or_128 ⟨k % 256, Nat.mod_lt _ (by omega)⟩
  rw [show (k : Int) % 256 = ((k % 256 : Nat) : Int) by omega]
  simp only at this
  rw [this]
  omega

set_option maxRecDepth 100000 in
set_option maxHeartbeats 2000000 in
theorem appendInt_v (w : World) (B : Nat) (v : Value) (m : Nat) (xs : List Value) (n : Int) (h0 : -9223372036854775808 ≤ n) (h1 : n ≤ 9223372036854775807) (hv : w.ownsRow B 5 1 v m xs) (hm : m ≤ 1099511627776) (hB : B ≤ w.heap.size) :
    Calls Tryz.prog 109 #[v, .int .i64 n] w fun e w' => ∃ v', e = .returned v' ∧ w'.ownsRow B 5 1 v' (m + (groups (tn n)).length) (xs ++ bs (groups (tn n))) ∧ Keeps (fun q => v.ownBlock = some q) w w' ∧ (v'.ownBlock = v.ownBlock ∨ ∀ q, v'.ownBlock = some q → w.heap.size ≤ q) := by
  obtain ⟨i0, hi, hz0, hz1, hz2⟩ := info_parts Tryz.info5
  have HV := hide hv
  have HT := hide (turn_xor n h0 h1)
  have hu := tn_le n h0 h1
  have HG := hide (groups_10 _ hu)
  clear hv
  generalize tn n = U at *
  go_enter Tryz.func109, Tryz.ntmps109
  go_wp2_with fail
  rw [unhide HT]
  go_loopw [0, 5] (fun o u wr => ∃ (k : Nat) (d : Txt), u = .int .u64 k ∧ k ≤ U ∧ Hid (groups U = d ++ groups k) ∧ wr.ownsRow B 5 1 o (m + d.length) (xs ++ bs d) ∧ Keeps (fun q => v.ownBlock = some q) w wr ∧ (o.ownBlock = v.ownBlock ∨ ∀ q, o.ownBlock = some q → w.heap.size ≤ q)) (fun _ u _ => (intOf u).toNat)
  case atStart => exact ⟨U, [], rfl, Nat.le_refl _, rfl, by simpa [bs] using unhide HV, Keeps.refl _ _, Or.inl rfl⟩
  case round =>
    obtain ⟨k, d, rfl, hk, HD, hown, hkp, hat0⟩ := hrel
    have HO := hide hown
    have HK := hide hkp
    have HA := hide hat0
    have hd : d.length ≤ 10 := by have h := congrArg List.length (unhide HD); have := unhide HG; simp at h; omega
    clear hown hkp hat0
    by_cases hge : 128 ≤ k
    · have HC : Hid (num (UInt8.ofNat (k % 128 + 128)) = (k : Int) % 128 + 128) := by show _ = _; rw [num_of _ (by omega)]; omega
      generalize hc : UInt8.ofNat (k % 128 + 128) = c at *
      have HCC := hide hc
      clear hc
      have hge' : (128 : Int) ≤ (k : Int) := by omega
      have hor := or_group k
      go_wp2_with (at_builtin; refine wpList_append_lies _ rfl _ _ _ rfl B 5 i0 _ 1 1 Tryz.underlying29 hi hz0 hz1 hz2 rfl (by omega) u0 (m + d.length) (xs ++ bs d) rfl ((unhide HO).alloc _) ⟨wr.heap.size, 0, none⟩ 1 1 [.int .u8 ((k : Int) % 128 + 128)] rfl rfl (World.news_of_block (cs := #[.int .u8 ((k : Int) % 128 + 128)]) (t := 5) (fr := (0, 0)) (heap_alloc_new wr _)) (by simp [Value.oneCell']) (by omega) (by unfold maxLen; omega) (by omega) (by have := (unhide HK).size; simp; omega) (wr.heap.size + 1) (by simp) ?_; intro g cap w2 hown1 hgrow hat hlt1)
      go_roundw
      case rel =>
        refine ⟨k / 128, d ++ [c], by go_num, by omega, ?_, ?_, ?_, ?_⟩
        · show _ = _
          rw [unhide HD, groups_big hge, unhide HCC]; simp
        · have h := hown1
          rw [List.append_assoc] at h
          simp only [List.length_append, List.length_singleton, bs, List.map_append, List.map_cons, List.map_nil, unhide HC] at h ⊢
          exact h
        · exact ((unhide HK).alloc _).grown hgrow (fun q e hq => by
            rcases unhide HA with h | h
            · rw [← h]; exact e
            · have := h q e; omega)
        · exact own_step (unhide HA) hat (by have := (unhide HK).size; omega) rfl
      case measure => simp [intOf]; omega
    · have HC : Hid (num (UInt8.ofNat k) = (k : Int)) := num_of k (by omega)
      generalize hc : UInt8.ofNat k = c at *
      have HCC := hide hc
      clear hc
      have hge' : (k : Int) < 128 := by omega
      go_wp2_with (at_builtin; refine wpList_append_lies _ rfl _ _ _ rfl B 5 i0 _ 1 1 Tryz.underlying29 hi hz0 hz1 hz2 rfl (by omega) u0 (m + d.length) (xs ++ bs d) rfl ((unhide HO).alloc _) ⟨wr.heap.size, 0, none⟩ 1 1 [.int .u8 (k : Int)] rfl rfl (World.news_of_block (cs := #[.int .u8 (k : Int)]) (t := 5) (fr := (0, 0)) (heap_alloc_new wr _)) (by simp [Value.oneCell']) (by omega) (by unfold maxLen; omega) (by omega) (by have := (unhide HK).size; simp; omega) (wr.heap.size + 1) (by simp) ?_; intro g cap w2 hown1 hgrow hat hlt1)
      go_ret
      refine ⟨_, rfl, ?_, ?_, ?_⟩
      · have h := hown1
        rw [unhide HD, groups_small (by omega), unhide HCC]
        rw [List.append_assoc] at h
        simp only [List.length_append, List.length_singleton, bs, List.map_append, List.map_cons, List.map_nil, unhide HC] at h ⊢
        exact h
      · exact ((unhide HK).alloc _).grown hgrow (fun q e hq => by
          rcases unhide HA with h | h
          · rw [← h]; exact e
          · have := h q e; omega)
      · exact own_step (unhide HA) hat (by have := (unhide HK).size; omega) rfl
end Go.Proofs.YtcicaifioghciaaGreatDoor
namespace Go.Proofs.YtcicaifioghciaaGreatDoor
open Go.RowKit Go.Maps

/-- The zero record. -/
def zeros (l : List FieldA) : List ValA := l.map zeroV
def zeroB (l : List FieldA) : List ValA := if schemaB l then zeros l else []
theorem zeros_snoc (l : List FieldA) (f : FieldA) : zeros (l ++ [f]) = zeros l ++ [zeroV f] := by simp [zeros]
theorem vcs_snoc (l : List ValA) (x : ValA) : vcs (l ++ [x]) = vcs l ++ x.cs := by simp [vcs]
theorem zeros_length (l : List FieldA) : (zeros l).length = l.length := by simp [zeros]

end Go.Proofs.YtcicaifioghciaaGreatDoor
namespace Go.Proofs.YtcicaifioghciaaGreatDoor
open Go.RowKit Go.Maps

def decN (u : Nat) : Txt := if _h : u = 0 then [] else decN (u / 10) ++ [UInt8.ofNat (48 + u % 10)]
def decimal (n : Int) : Txt := if n = 0 then [48] else if n < 0 then 45 :: decN n.natAbs else decN n.natAbs

theorem decN_zero : decN 0 = [] := by unfold decN; simp
theorem decN_pos {u : Nat} (h : 0 < u) : decN u = decN (u / 10) ++ [UInt8.ofNat (48 + u % 10)] := by
  rw [decN, dif_neg (by omega)]
theorem decN_length (k : Nat) : ∀ u, u < 10 ^ k → (decN u).length ≤ k := by
  induction k with
  | zero => intro u h; simp at h; subst h; simp [decN_zero]
  | succ k ih =>
    intro u h
    by_cases h0 : u = 0
    · subst h0; simp [decN_zero]
    · rw [decN_pos (by omega)]
      have := ih (u / 10) (by rw [Nat.pow_succ] at h; omega)
      simp; omega
theorem decN_20 (u : Nat) (h : u ≤ 9223372036854775808) : (decN u).length ≤ 19 := decN_length 19 u (by omega)

theorem conv_bytes (w : World) (b cap : Nat) (l : Txt) (h : ∀ j c, l[j]? = some c → w.cell? ⟨b, j, none⟩ = some (.int .u8 (num c))) :
    (convert 29 9 (.slice (some ⟨b, 0, none⟩) l.length cap)).run Tryz.prog w = .ok (str l) w :=
  run_convert_bytes_back w 29 9 5 ⟨b, 0, none⟩ cap l Tryz.underlying29 Tryz.underlying5 Tryz.underlying9 (fun j hj => by
    have := h j l[j] (List.getElem?_eq_getElem hj)
    rw [Addr.add_lit]
    simpa [num] using this)

theorem add_str (w : World) (a b : Txt) (h : a.length + b.length ≤ 9223372036854775807) : (Op.stringOp .add ⟨a.toArray⟩ ⟨b.toArray⟩).run Tryz.prog w = .ok (str (a ++ b)) w := by
  have ha : (ByteArray.mk a.toArray).size = a.length := rfl
  have hb : (ByteArray.mk b.toArray).size = b.length := rfl
  rw [run_string_add_sum w _ _ (by omega), ByteArray.mk_append_mk]

theorem digit_num (u : Nat) : num (UInt8.ofNat (48 + u % 10)) = 48 + (u : Int) % 10 := by
  unfold num
  rw [UInt8.toNat_ofNat']
  have : u % 10 < 10 := Nat.mod_lt _ (by decide)
  omega
theorem decN_digit {u : Nat} (h : 0 < u) : ∃ c, num c = 48 + (u : Int) % 10 ∧ decN u = decN (u / 10) ++ [c] := ⟨_, digit_num u, decN_pos h⟩

/-- The start of a decimal's loop. -/
def startU (n : Int) : Int := if n < 0 then IntKind.u64.wrap (-IntKind.u64.wrap n) else IntKind.u64.wrap n
theorem startU_eq (n : Int) (h0 : -9223372036854775808 ≤ n) (h1 : n ≤ 9223372036854775807) : startU n = (n.natAbs : Int) := by
  unfold startU
  rw [IntKind.wrap_u64, IntKind.wrap_u64]
  split <;> omega

end Go.Proofs.YtcicaifioghciaaGreatDoor
namespace Go.Proofs.YtcicaifioghciaaGreatDoor
open Go.RowKit Go.Maps

/-- The value of a field at a place of some bytes, and the place behind it (-1: the bytes end too early). -/
def readB (f : FieldA) (t : Txt) (a : Nat) : ValA × Int :=
  if f.type = 1 then (⟨1, (readIntB t a).1, []⟩, (readIntB t a).2)
  else match t[a]? with
    | none => (⟨0, 0, []⟩, -1)
    | some c =>
      if f.type = 2 then (⟨2, num c, []⟩, (a + 1 : Nat))
      else if t.length < a + 1 + c.toNat then (⟨0, 0, []⟩, -1)
      else (⟨3, 0, (t.drop (a + 1)).take c.toNat⟩, (a + 1 + c.toNat : Nat))

theorem conv_at (w : World) (b off cap : Nat) (l : Txt) (h : ∀ j c, l[j]? = some c → w.cell? ⟨b, off + j, none⟩ = some (.int .u8 (num c))) :
    (convert 29 9 (.slice (some ⟨b, off, none⟩) l.length cap)).run Tryz.prog w = .ok (str l) w :=
  run_convert_bytes_back w 29 9 5 ⟨b, off, none⟩ cap l Tryz.underlying29 Tryz.underlying5 Tryz.underlying9 (fun j hj => by
    have := h j l[j] (List.getElem?_eq_getElem hj)
    rw [Addr.add_lit]
    simpa [num] using this)

end Go.Proofs.YtcicaifioghciaaGreatDoor
namespace Go.Proofs.YtcicaifioghciaaGreatDoor
open Go.RowKit Go.Maps

/-- Bits as a number, the lowest first. -/
def headN : List Bool → Nat
  | [] => 0
  | b :: r => (if b then 1 else 0) + 2 * headN r
theorem headN_snoc : ∀ (l : List Bool) (b : Bool), headN (l ++ [b]) = headN l + (if b then 2 ^ l.length else 0)
  | [], b => by cases b <;> simp [headN]
  | c :: r, b => by
    simp only [List.cons_append, headN, headN_snoc r b, List.length_cons, Nat.pow_succ]
    cases b <;> cases c <;> simp <;> omega
theorem headN_lt : ∀ l : List Bool, headN l < 2 ^ l.length
  | [] => by simp [headN]
  | b :: r => by
    have := headN_lt r
    simp only [headN, List.length_cons, Nat.pow_succ]
    cases b <;> simp <;> omega
/-- Which of the optional fields are present. -/
def bitsOf (z : List (FieldA × ValA)) : List Bool := (z.filter fun p => p.1.opt).map fun p => decide (p.2.kind ≠ 0)
theorem bitsOf_snoc (z : List (FieldA × ValA)) (f : FieldA) (x : ValA) : bitsOf (z ++ [(f, x)]) = bitsOf z ++ (if f.opt then [decide (x.kind ≠ 0)] else []) := by
  unfold bitsOf
  rw [List.filter_append, List.map_append]
  cases h : f.opt <;> simp [h]
theorem bitsOf_le (z : List (FieldA × ValA)) : (bitsOf z).length ≤ z.length := by
  unfold bitsOf
  rw [List.length_map]
  exact List.length_filter_le _ _
/-- The bytes of a value that is present. -/
def enc1 (x : ValA) : Txt :=
  if x.kind = 1 then groups (tn x.n) else if x.kind = 2 then [UInt8.ofNat x.n.toNat] else if x.kind = 3 then UInt8.ofNat x.s.length :: x.s else []
def headT (z : List (FieldA × ValA)) : Txt := if 0 < (bitsOf z).length then [UInt8.ofNat (headN (bitsOf z))] else []
def encB (l : List FieldA) (r : List ValA) : Txt := headT (l.zip r) ++ r.flatMap enc1
def encodeB (l : List FieldA) (r : List ValA) : Txt := if errR l r = 0 then encB l r else []
/-- The ints of values are ints. -/
def InR (r : List ValA) : Prop := ∀ x ∈ r, -9223372036854775808 ≤ x.n ∧ x.n ≤ 9223372036854775807

theorem pow2_le {k : Nat} (h : k ≤ 8) : 2 ^ k ≤ 256 := by
  have : 2 ^ k ≤ 2 ^ 8 := Nat.pow_le_pow_right (by omega) h
  omega
theorem fitsB_kind {f : FieldA} {x : ValA} (h : fitsB f x = true) : x.kind = 0 ∨ x.kind = 1 ∨ (x.kind = 2 ∧ 0 ≤ x.n ∧ x.n ≤ 1) ∨ (x.kind = 3 ∧ x.s.length ≤ 20) := by
  unfold fitsB at h
  repeat' split at h
  all_goals simp_all
  rcases h.1 with h | h <;> simp [h]
theorem fitAll_at {l : List FieldA} {r : List ValA} (h : fitAll l r = true) {k : Nat} {f : FieldA} {x : ValA} (hf : l[k]? = some f) (hx : r[k]? = some x) : fitsB f x = true := by
  have := List.all_eq_true.1 h (f, x) (List.mem_of_getElem? (zip_get hf hx))
  exact this
theorem errR_zero {l : List FieldA} {r : List ValA} (h : errR l r = 0) : schemaB l = true ∧ r.length = l.length ∧ fitAll l r = true := by
  unfold errR at h
  split at h
  · rename_i hs
    split at h
    · rename_i hr
      unfold recB at hr
      rw [Bool.and_eq_true, decide_eq_true_eq] at hr
      exact ⟨hs, hr⟩
    · cases h
  · cases h
theorem enc1_length {f : FieldA} {x : ValA} (h : fitsB f x = true) (hx : -9223372036854775808 ≤ x.n ∧ x.n ≤ 9223372036854775807) : (enc1 x).length ≤ 21 := by
  unfold enc1
  have hg := groups_10 (tn x.n) (tn_le _ hx.1 hx.2)
  rcases fitsB_kind h with h | h | ⟨h, _⟩ | ⟨h, h2⟩ <;> simp [h] <;> omega

end Go.Proofs.YtcicaifioghciaaGreatDoor
namespace Go.Proofs.YtcicaifioghciaaGreatDoor
open Go.RowKit Go.Maps

theorem flat_le {α β : Type} (g : α → List β) (m : Nat) : ∀ l : List α, (∀ x ∈ l, (g x).length ≤ m) → (l.flatMap g).length ≤ m * l.length
  | [], _ => by simp
  | x :: r, h => by
    have h1 := flat_le g m r (fun y hy => h y (List.mem_cons_of_mem _ hy))
    have h2 := h x (List.mem_cons_self ..)
    simp only [List.flatMap_cons, List.length_append, List.length_cons, Nat.mul_add]
    omega
theorem bs_append (a b : Txt) : bs (a ++ b) = bs a ++ bs b := by simp [bs]
theorem ret_vi {v u : Value} {k : IntKind} {a b : Int} (h : v = u) (h2 : a = b) : Ending.returned (.tuple #[v, .int k a]) = .returned (.tuple #[u, .int k b]) := by rw [h, h2]
/-- What Encode has written ahead of value k. -/
def encTo (l : List FieldA) (r : List ValA) (k : Nat) : Txt := headT (l.zip r) ++ (r.take k).flatMap enc1
theorem encTo_snoc {l : List FieldA} {r : List ValA} {k : Nat} {x : ValA} (h : r[k]? = some x) : encTo l r (k + 1) = encTo l r k ++ enc1 x := by
  unfold encTo
  rw [take_snoc _ _ _ h, List.flatMap_append]
  simp
theorem headT_le (z : List (FieldA × ValA)) : (headT z).length ≤ 1 := by unfold headT; split <;> simp
theorem encTo_le {l : List FieldA} {r : List ValA} (hl : r.length = l.length) (hf : fitAll l r = true) (hI : InR r) (k : Nat) : (encTo l r k).length ≤ 1 + 21 * r.length := by
  unfold encTo
  have h1 := headT_le (l.zip r)
  have h2 := flat_le enc1 21 (r.take k) (fun x hx => by
    obtain ⟨i, hi⟩ := List.mem_iff_getElem?.1 (List.mem_of_mem_take hx)
    have := get_lt hi
    exact enc1_length (fitAll_at hf (List.getElem?_eq_getElem (by omega)) hi) (hI x (List.mem_of_mem_take hx)))
  rw [List.length_take] at h2
  rw [List.length_append]
  have : 21 * min k r.length ≤ 21 * r.length := Nat.mul_le_mul_left _ (Nat.min_le_right _ _)
  omega
theorem enc1_none {x : ValA} (h : x.kind = 0) : enc1 x = [] := by simp [enc1, h]
theorem enc1_int {x : ValA} (h : x.kind = 1) : enc1 x = groups (tn x.n) := by simp [enc1, h]
theorem enc1_bool {x : ValA} (h : x.kind = 2) : enc1 x = [UInt8.ofNat x.n.toNat] := by simp [enc1, h]
theorem enc1_bytes {x : ValA} (h : x.kind = 3) : enc1 x = UInt8.ofNat x.s.length :: x.s := by simp [enc1, h]

theorem errR_cases (l : List FieldA) (r : List ValA) : errR l r = 0 ∨ errR l r = 60 ∨ errR l r = 61 := by
  unfold errR
  repeat' split
  all_goals simp

theorem Keeps.narrowS {F : Nat → Prop} {a b c : World} (h : Keeps (fun _ => False) a b) (k : Keeps F b c) (hF : ∀ i, F i → a.heap.size ≤ i) : Keeps (fun _ => False) a c := h.narrow k hF

end Go.Proofs.YtcicaifioghciaaGreatDoor
namespace Go.Proofs.YtcicaifioghciaaGreatDoor
open Go.RowKit Go.Maps

/-- 'append(b, s...)' at a step of a region that draws its order. -/
theorem step_append_str {P : Program} {w : World} {ops : Array Oper} {o : Oper} {a : Act} {K : Act → World → Prop} {Q : Exit → Act → World → Prop} {E : Prop} (hgd : o.guard = none) (s x : Operand) (t u : TypeId)
    (ho : o.op = .call { callee := .builtin .append, args := #[s, x], argTypes := #[t, u] })
    (base : Nat) (e : TypeId) (i : TypeInfo) (ht : P.underlying t = some (.slice e)) (hu : P.underlying u = some .string) (hi : P.info? e = some i) (hz : i.zero = some (.int .u8 0))
    (hsize : i.size = 1) (hby : i.bytes = 1)
    (v : Value) (n : Nat) (xs : List Value) (hs : a.eval s = v) (hown : w.ownsRow base e 1 v n xs) (sb : ByteArray) (hx : a.eval x = .string sb)
    (h63 : n + sb.size ≤ maxLen) (hbytes : n + sb.size ≤ 140737488355328) (hbase : base ≤ w.heap.size)
    (h : ∀ v' w', w'.ownsRow base e 1 v' (n + sb.size) (xs ++ Lib.strCells sb) → w.grownBy w' v.ownBlock → K (a.put o.dst v') w') :
    if Region.wanted o (yielded ops a.tmps) = true then Oper.wp P o a w K Q else E := by
  have hw : Region.wanted o (yielded ops a.tmps) = true := by simp [Region.wanted, hgd]
  rw [if_pos hw]
  obtain ⟨v', w', hr, h2, h3, _⟩ := Lib.run_append_own_string (P := P) w base t u o.type e i ht hu hi hz hsize hby v n xs hown sb h63 hbytes hbase
  unfold Oper.wp execOp
  simp only [ho, resolve, invoke, builtin, Sem.run_bind, Sem.run_pure, Result.andThen_ok, List.map_toArray, List.map_cons, List.map_nil, hs, hx, hr]
  exact h v' w' h2 h3
theorem strCells_bs (s : Txt) : Lib.strCells ⟨s.toArray⟩ = bs s := by simp [Lib.strCells, bs, num]

set_option maxRecDepth 100000 in
set_option maxHeartbeats 4000000 in
theorem appendStr_v (base : Nat) (v : Value) (xs : List Value) (n : Nat) (s : Txt) (w : World) (hown : w.ownsRow base 5 1 v n xs) (hn : n ≤ 4096) (ht : s.length ≤ 255) (hbase : base ≤ w.heap.size) :
    Calls Tryz.prog 45 #[v, str s] w fun e w' => ∃ v', e = .returned v' ∧ w'.ownsRow base 5 1 v' (n + 1 + s.length) (xs ++ [.int .u8 (s.length : Int)] ++ bs s) ∧ Keeps (fun q => v.ownBlock = some q) w w' := by
  obtain ⟨i0, hi, hz0, hz1, hz2⟩ := info_parts Tryz.info5
  obtain ⟨vo, vc, rfl⟩ := RowAt.form (rowAt_own hown)
  have HO := hide hown
  have HT := hide ht
  have i1 : (0 : Int) ≤ (s.length : Int) := by omega
  have i2 : (s.length : Int) ≤ 255 := by omega
  have hw8 : IntKind.u8.wrap (s.length : Int) = (s.length : Int) := by rw [IntKind.wrap_u8]; omega
  have mark0 : True := trivial
  clear hown ht
  go_enter Tryz.func45, Tryz.ntmps45
  go_wp2_with (first
    | (clear mark0
       at_builtin
       refine wpList_append_lies _ rfl _ _ _ rfl base 5 i0 _ 1 1 Tryz.underlying29 hi hz0 hz1 hz2 rfl (by omega) (.slice vo n vc) n xs rfl ((unhide HO).alloc _) ⟨w.heap.size, 0, none⟩ 1 1 [.int .u8 (s.length : Int)] rfl rfl (World.news_of_block (cs := #[.int .u8 (s.length : Int)]) (t := 5) (fr := (0, 0)) (heap_alloc_new w _)) (by simp [Value.oneCell']) (by omega) (by unfold maxLen; omega) (by omega) (by simp; omega) (w.heap.size + 1) (by simp) ?_
       intro g cap w1 hown1 hgrow hat hlt1
       have hk1 : Keeps (fun q => (Value.slice vo n vc).ownBlock = some q) w w1 := ((Keeps.refl _ w).alloc _).grown hgrow (fun q e _ => e)
       have HK1 := hide hk1
       have HO1 := hide hown1
       have HB1 : Hid (base ≤ w1.heap.size) := Nat.le_trans hbase hk1.size
       have HAT := hide hat
       have mark1 : True := trivial
       clear hk1 hown1 hgrow hat)
    | (clear mark1
       at_builtin
       refine Lib.wpList_append_own_string _ rfl _ _ _ _ rfl base 5 i0 Tryz.underlying29 Tryz.underlying9 hi hz0 hz1 hz2 (.slice (some ⟨g, 0, none⟩) (n + 1) cap) (n + 1) (xs ++ [.int .u8 (s.length : Int)]) rfl (unhide HO1) ⟨s.toArray⟩ rfl (by have := unhide HT; show n + 1 + s.length ≤ maxLen; unfold maxLen; omega) (by have := unhide HT; show n + 1 + s.length ≤ _; omega) (unhide HB1) ?_
       intro v2 w2 how2 hg2 _
       have HO2 := hide how2
       have HG2 := hide hg2
       clear how2 hg2))
  go_ret
  refine ⟨_, rfl, ?_, (unhide HK1).grown (unhide HG2) (fun k e hlt => ?_)⟩
  · have h := unhide HO2
    rw [strCells_bs] at h
    exact h
  · simp only [Value.ownBlock, Option.some.injEq] at e
    subst e
    rcases unhide HAT with q | q
    · exact q
    · omega

set_option maxRecDepth 100000 in
set_option maxHeartbeats 2000000 in
theorem appendValue_v (w : World) (B : Nat) (v : Value) (m : Nat) (xs : List Value) (f : FieldA) (x : ValA) (hx : fitsB f x = true) (hI : -9223372036854775808 ≤ x.n ∧ x.n ≤ 9223372036854775807) (hv : w.ownsRow B 5 1 v m xs) (hm : m ≤ 1024) (hB : B ≤ w.heap.size) :
    Calls Tryz.prog 90 #[v, x.v] w fun e w' => ∃ v', e = .returned v' ∧ w'.ownsRow B 5 1 v' (m + (enc1 x).length) (xs ++ bs (enc1 x)) ∧ Keeps (fun q => B ≤ q) w w' := by
  obtain ⟨i0, hi, hz0, hz1, hz2⟩ := info_parts Tryz.info5
  obtain ⟨k, n, s⟩ := x
  simp only at hI
  obtain ⟨hn0, hn1⟩ := hI
  have HI0 := hide hn0
  have HI1 := hide hn1
  unfold ValA.v
  simp only
  have HV := hide (hv.alloc (.cells #[.int .i64 k, .int .i64 n, str s] 118))
  have HKB : Hid (Keeps (fun q => B ≤ q) w (w.alloc (.cells #[.int .i64 k, .int .i64 n, str s] 118))) := (Keeps.refl _ _).alloc _
  have hB1 : B ≤ (w.alloc (.cells #[.int .i64 k, .int .i64 n, str s] 118)).heap.size := by simp; omega
  have HLT := hide hv
  clear hv
  rcases fitsB_kind hx with h | h | ⟨h, hb0, hb1⟩ | ⟨h, hs20⟩
  · simp only at h
    subst h
    have HE : Hid (enc1 ⟨0, n, s⟩ = []) := enc1_none rfl
    clear hx
    go_enter Tryz.func90, Tryz.ntmps90
    go_wp2_with fail
    go_ret
    refine ⟨_, rfl, ?_, unhide HKB⟩
    rw [unhide HE]
    simpa [bs] using unhide HV
  · simp only at h
    subst h
    have HE : Hid (enc1 ⟨1, n, s⟩ = groups (tn n)) := enc1_int rfl
    have HQ := hide (appendInt_v _ B v m xs n hn0 hn1 (unhide HV) (by omega) hB1)
    clear hx hn0 hn1
    rw [unhide HE]
    go_enter Tryz.func90, Tryz.ntmps90
    go_wp2_with fail
    refine (unhide HQ).mono ?_
    rintro e w2 ⟨v', rfl, ho, hk, _⟩
    have HO := hide ho
    have HK := hide hk
    clear ho hk
    go_wp2_with fail
    go_ret
    exact ⟨_, rfl, unhide HO, (unhide HKB).trans ((unhide HK).mono (fun q _ e => ((unhide HV).lt q e).1))⟩
  · simp only at h hb0 hb1
    subst h
    have HE : Hid (enc1 ⟨2, n, s⟩ = [UInt8.ofNat n.toNat]) := enc1_bool rfl
    have HC : Hid (num (UInt8.ofNat n.toNat) = n) := by show _ = _; rw [num_of _ (by omega)]; omega
    clear hx hn0 hn1
    rw [unhide HE]
    generalize UInt8.ofNat n.toNat = c at *
    go_enter Tryz.func90, Tryz.ntmps90
    go_wp2_with (at_builtin; refine wpList_append_lies _ rfl _ _ _ rfl B 5 i0 _ 1 1 Tryz.underlying29 hi hz0 hz1 hz2 rfl (by omega) v m xs rfl ((unhide HV).alloc _) ⟨w.heap.size + 1, 0, none⟩ 1 1 [.int .u8 n] rfl rfl (World.news_of_block (cs := #[.int .u8 n]) (t := 5) (fr := (0, 0)) (by have q := heap_alloc_new (w.alloc (.cells #[.int .i64 2, .int .i64 n, str s] 118)) (.cells #[.int .u8 n] 5); rw [World.size_alloc] at q; exact q)) (by simp [Value.oneCell']) (by omega) (by unfold maxLen; omega) (by omega) (by simp; omega) (w.heap.size + 2) (by simp) ?_; intro g cap w2 hown1 hgrow hat hlt1)
    go_ret
    refine ⟨_, rfl, ?_, ((unhide HKB).alloc _).grown hgrow (fun q e _ => ((unhide HV).lt q e).1)⟩
    simpa [bs, unhide HC] using hown1
  · simp only at h hs20
    subst h
    have HE : Hid (enc1 ⟨3, n, s⟩ = UInt8.ofNat s.length :: s) := enc1_bytes rfl
    have HC : Hid (num (UInt8.ofNat s.length) = (s.length : Int)) := num_of _ (by omega)
    clear hx hn0 hn1
    rw [unhide HE]
    generalize UInt8.ofNat s.length = c at *
    have HQ := hide (appendStr_v B v xs m s _ (unhide HV) (by omega) (by omega) hB1)
    go_enter Tryz.func90, Tryz.ntmps90
    go_wp2_with fail
    refine (unhide HQ).mono ?_
    rintro e w2 ⟨v', rfl, ho, hk⟩
    have HO := hide ho
    have HK := hide hk
    clear ho hk HQ
    go_wp2_with fail
    go_ret
    refine ⟨_, rfl, ?_, (unhide HKB).trans ((unhide HK).mono (fun q _ e => ((unhide HV).lt q e).1))⟩
    have h := unhide HO
    rw [List.append_assoc] at h
    have e1 : bs (c :: s) = [.int .u8 (s.length : Int)] ++ bs s := by simp [bs, unhide HC]
    rw [e1]
    rw [show m + (s.length + 1) = m + 1 + s.length by omega]
    exact h
end Go.Proofs.YtcicaifioghciaaGreatDoor
