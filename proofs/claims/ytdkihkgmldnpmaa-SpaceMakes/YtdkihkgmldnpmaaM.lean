import Derived.Test.YtdkihkgmldnpmaaK
namespace Go.Proofs.Ytdkihkgmldnpmaa
open Go.RowKit Go.Maps

theorem cnt_flip {p q : Nat → Bool} {f : Nat} (hp : p f = false) (hq : q f = true) (h : ∀ i, i ≠ f → p i = q i) : ∀ n, cnt q n = cnt p n + (if f < n then 1 else 0)
  | 0 => by simp [cnt]
  | n + 1 => by
    rw [cnt_succ, cnt_succ, cnt_flip hp hq h n]
    by_cases e : n = f
    · subst e; simp [hp, hq]
    · rw [h n e]
      by_cases h1 : f < n
      · rw [if_pos h1, if_pos (show f < n + 1 by omega)]; omega
      · rw [if_neg h1, if_neg (show ¬ f < n + 1 by omega)]; omega
theorem cnt_disj {p q : Nat → Bool} (h : ∀ i, p i = true → q i = false) : ∀ n, cnt p n + cnt q n ≤ n
  | 0 => by simp [cnt]
  | n + 1 => by
    have := cnt_disj h n
    rw [cnt_succ, cnt_succ]
    cases hp : p n with
    | true => rw [h n hp]; simp; omega
    | false => cases q n <;> simp <;> omega
theorem used_cnt (f : List Bool) (n : Nat) : (usedTo f n).length = cnt (on f) n := by simp [usedTo, cnt]
theorem Bk.open_used (b : Bk) : b.left + (usedTo b.now b.n).length ≤ b.n := by
  rw [used_cnt]
  refine cnt_disj (fun i hi => ?_) b.n
  simp only [Bk.isOpen, Bool.and_eq_true, Bool.not_eq_true'] at hi
  exact hi.1.1

/-- Behind i takes. -/
structure Took (b0 b : Bk) (i : Nat) (last : Int) : Prop where
  n : b.n = b0.n
  len : b.now.length = b0.n
  left : b.left + i = b0.left
  high : ∀ j : Nat, b.isOpen j = true → last < (j : Int)
  used : cnt (on b.now) b0.n = cnt (on b0.now) b0.n + i
  more : ∀ j, on b0.now j = true → on b.now j = true

theorem Took.start (b : Bk) (h : b.now.length = b.n) : Took b b 0 (-1) := ⟨rfl, h, rfl, fun _ _ => by omega, rfl, fun _ h => h⟩

theorem Took.next {b0 b : Bk} {i : Nat} {last : Int} (h : Took b0 b i last) (hi : i < b0.left) : ∃ f : Nat, b.first = some f ∧ f < b0.n ∧ last < (f : Int) ∧ on b0.now f = false ∧ Took b0 b.take (i + 1) f := by
  have hl : 0 < b.left := by have := h.left; omega
  have hs : b.first.isSome = true := by
    unfold Bk.first Bk.left at *
    rw [first_cnt]; simpa using hl
  obtain ⟨f, hf⟩ := Option.isSome_iff_exists.1 hs
  obtain ⟨h1, h2, h3⟩ := firstTo_some (p := b.isOpen) hf
  have hn := h.n
  have hnow : on b.now f = false := by
    simp only [Bk.isOpen, Bool.and_eq_true, Bool.not_eq_true'] at h2
    exact h2.1.1
  have et : b.take = { b with now := b.now.set f true } := by unfold Bk.take; rw [hf]
  have hlt : f < b.now.length := by rw [h.len, ← hn]; exact h1
  have hon : ∀ j, on (b.now.set f true) j = if f = j then true else on b.now j := by
    intro j; rw [on_set]; by_cases e : f = j <;> simp [e]; omega
  have hop : ∀ j, b.take.isOpen j = if f = j then false else b.isOpen j := by
    intro j
    rw [et]
    simp only [Bk.isOpen, hon]
    by_cases e : f = j <;> simp [e]
  refine ⟨f, hf, by omega, h.high f h2, ?_, ?_⟩
  · cases ho : on b0.now f with
    | false => rfl
    | true => have := h.more f ho; rw [hnow] at this; cases this
  · refine ⟨by rw [Bk.take_n]; exact hn, by rw [et]; simpa using h.len, ?_, ?_, ?_, ?_⟩
    · have hc := cnt_flip (p := b.take.isOpen) (q := b.isOpen) (f := f) (by rw [hop]; simp) h2 (fun i hi => by rw [hop, if_neg (fun e => hi e.symm)]) b.n
      rw [if_pos h1] at hc
      have hll := h.left
      unfold Bk.left at *
      rw [Bk.take_n]
      omega
    · intro j hj
      rw [hop] at hj
      by_cases e : f = j
      · simp [e] at hj
      · rw [if_neg e] at hj
        by_cases hjf : j < f
        · rw [h3 j hjf] at hj; cases hj
        · omega
    · have hc := cnt_flip (p := on b.now) (q := on b.take.now) (f := f) hnow (by rw [et]; simp [hon]) (fun i hi => by rw [et]; simp only [hon]; rw [if_neg (fun e => hi e.symm)]) b0.n
      rw [if_pos (by omega)] at hc
      have := h.used
      omega
    · intro j hj
      rw [et]
      simp only [hon]
      by_cases e : f = j
      · simp [e]
      · rw [if_neg e]; exact h.more j hj

/-- One space of n blocks. -/
structure One (w0 w : World) (B n : Nat) (b : Bk) : Prop where
  one : SpaceAt w w0.heap.size ((newSP B n).put b)
  bn : b.n = n
  below : Below w0.heap.size w0 w

theorem One.bk1 {w0 w : World} {B n : Nat} {b : Bk} (h : One w0 w B n b) : ((newSP B n).put b).bk = b := SP.put_bk _ _ h.bn
theorem One.keepF {w0 w w' : World} {B n : Nat} {b : Bk} (h : One w0 w B n b) (hk : Keeps (fun _ => False) w w') : One w0 w' B n b :=
  ⟨h.one.keepF hk, h.bn, h.below.trans (hk.below h.below.size (fun _ f => f.elim))⟩
theorem One.upd {w0 w w' : World} {B n : Nat} {b b' : Bk} (h : One w0 w B n b) (hn : b'.n = n) (h1 : SpaceAt w' w0.heap.size ((newSP B n).put b')) (hk : Keeps (newSP B n).own w w') : One w0 w' B n b' :=
  ⟨h1, hn, h.below.trans (hk.below h.below.size h.one.own_lo)⟩
theorem One.top {w0 w : World} {B n : Nat} {b : Bk} (h : One w0 w B n b) : B + 7 ≤ w.heap.size := by
  have := h.one.has_lt (B + 6) (Or.inl rfl)
  omega
theorem One.far {w0 w w' : World} {B n : Nat} {b : Bk} (_h : One w0 w B n b) {v : Value} {l : List Value} (hc : Cells w v l) (hv : ∀ k, v.ownBlock = some k → B + 7 ≤ k) (hk : Keeps (newSP B n).own w w') : Cells w' v l :=
  hc.kept hk (fun k h1 h2 => by have h3 := hv k h1; have h4 := newSP_own h2; omega)

section
variable {w0 w : World} {B n : Nat} {b : Bk}
theorem One.does (h : One w0 w B n b) (k : Int) : Calls Try.prog 18 #[.pointer (some ⟨B + 6, 0, none⟩), .int .i64 k] w fun e w' => e = .returned (.tuple #[]) ∧ One w0 w' B n (b.does k) := by
  refine (does_any w _ _ h.one k).mono ?_
  rintro e w' ⟨rfl, h1, h2⟩
  rw [h.bk1] at h1
  exact ⟨rfl, h.upd (by rw [Bk.does_n, h.bn]) h1 h2⟩
theorem One.used (h : One w0 w B n b) : Calls Try.prog 11 #[.pointer (some ⟨B + 6, 0, none⟩)] w fun e w' => ∃ ao cap, e = .returned (.slice ao (usedTo b.now n).length cap) ∧ Cells w' (.slice ao (usedTo b.now n).length cap) (is (usedTo b.now n)) ∧ (∀ k, (Value.slice ao (usedTo b.now n).length cap).ownBlock = some k → B + 7 ≤ k) ∧ One w0 w' B n b ∧ Keeps (fun _ => False) w w' := by
  refine (used_any w _ _ h.one).mono ?_
  rintro e w' ⟨v, rfl, h1, h2⟩
  have hc := cells_row h1 (is_length _)
  obtain ⟨ao, cap, rfl⟩ := hc.form
  rw [is_length] at *
  exact ⟨ao, cap, rfl, hc, fun k hk => Nat.le_trans h.top (h1.lt k hk).1, h.keepF h2, h2⟩
theorem One.left (h : One w0 w B n b) : Calls Try.prog 13 #[.pointer (some ⟨B + 6, 0, none⟩)] w fun e w' => e = .returned (.int .i64 b.left) ∧ One w0 w' B n b ∧ Keeps (fun _ => False) w w' := by
  refine (left_bk w _ _ h.one).mono ?_
  rintro e w' ⟨rfl, k, rfl⟩
  rw [h.bk1]
  exact ⟨rfl, h.keepF (keeps_drewN w k), keeps_drewN w k⟩
theorem One.take (h : One w0 w B n b) : Calls Try.prog 19 #[.pointer (some ⟨B + 6, 0, none⟩)] w fun e w' => e = .returned (.tuple #[.int .i64 b.takeN, .int .i64 b.takeE]) ∧ One w0 w' B n b.take ∧ Keeps (newSP B n).own w w' := by
  refine (take_any w _ _ h.one).mono ?_
  rintro e w' ⟨rfl, h1, h2⟩
  rw [h.bk1] at h1 ⊢
  exact ⟨rfl, h.upd (by rw [Bk.take_n, h.bn]) h1 h2, h2⟩
theorem One.new (w : World) (n : Nat) (h1 : 1 ≤ n) (h2 : n ≤ 2048) : Calls Try.prog 17 #[.int .i64 n] w fun e w' => e = .returned (.tuple #[.pointer (some ⟨w.heap.size + 6, 0, none⟩), .int .i64 0]) ∧ One w w' w.heap.size n (newBk n) := by
  refine (new_yes w n h1 h2).mono ?_
  rintro e w' ⟨rfl, h3, _, h5⟩
  exact ⟨rfl, h3, rfl, h5.below (Nat.le_refl _) (fun _ f => f.elim)⟩
end

set_option maxRecDepth 100000 in
set_option maxHeartbeats 2000000 in
theorem spaceCounts_any (w : World) (n : Nat) (va : Value) (la : List Int) (hA : Cells w va (is la)) (h1 : 1 ≤ n) (h2 : n ≤ 2048) (hla : la.length ≤ 2147483647) :
    Calls Try.prog 4 #[.int .i64 n, va] w fun e w' => e = .returned (.bool true) ∧ Below w.heap.size w w' := by
  obtain ⟨ao, ac, rfl⟩ := hA.form
  simp only [is_length] at *
  have HA := hide hA
  clear hA
  have hNa : decide ((2147483647 : Int) < (la.length : Int)) = false := by simp; omega
  have i1 : (1 : Int) ≤ (n : Int) := by omega
  have i2 : (n : Int) ≤ 2048 := by omega
  go_enter Try.func4, Try.ntmps4
  go_wp2_with fail
  refine (long_any _ _).mono ?_; rintro e w ⟨rfl, rfl⟩
  clear hNa
  go_wp2_with fail
  refine (One.new _ n h1 h2).mono ?_
  rintro e w1 ⟨rfl, hO1⟩
  have HL1 := hide hO1.left
  rw [newBk_left] at HL1
  clear hO1
  go_wp2_with fail
  refine (unhide HL1).mono ?_
  rintro e w3 ⟨rfl, hO3, -⟩
  have HO3 := hide hO3
  clear hO3 HL1
  go_wp2_with fail
  go_loopw [7] (fun i wr => ∃ k : Nat, k ≤ la.length ∧ i = .int .i64 k ∧ One w wr w.heap.size n (doesAll (newBk n) (la.take k))) (fun i _ => la.length - (intOf i).toNat)
  case atStart => exact ⟨0, Nat.zero_le _, rfl, unhide HO3⟩
  case round =>
    obtain ⟨k, hk, rfl, hO⟩ := hrel
    have HO := hide hO
    clear hO
    by_cases hlt : k < la.length
    · obtain ⟨b, off, c, e1, hblt, hc⟩ := (unhide HA).cells (by rw [is_length]; omega)
      simp [is_length] at e1
      obtain ⟨rfl, rfl⟩ := e1
      obtain ⟨x, hx⟩ : ∃ x, la[k]? = some x := ⟨_, List.getElem?_eq_getElem hlt⟩
      have q0 := hc k (.int .i64 x) (by rw [is_get, hx]; rfl)
      have d0 := ((unhide HO).below.cell (p := ⟨b, off + k, none⟩) hblt).trans q0
      have i3 : (k : Int) < (la.length : Int) := by omega
      have i4 : (0 : Int) ≤ (k : Int) := by omega
      have HSN := hide (doesAll_snoc (newBk n) la k x hx)
      have H1 := hide ((unhide HO).does x)
      clear hc hx q0
      go_wp2_with fail
      refine (unhide H1).mono ?_
      rintro e w4 ⟨rfl, hO4⟩
      have HO4 := hide hO4
      clear hO4
      go_wp2
      go_roundw
      case rel => exact ⟨k + 1, by omega, by go_num, by rw [unhide HSN]; exact unhide HO4⟩
      case measure => simp [intOf]; omega
    · have e : k = la.length := by omega
      subst e
      rw [List.take_length] at HO
      generalize doesAll (newBk n) la = b at HO
      have H1 := hide (unhide HO).used
      have hbn := (unhide HO).bn
      have hou := b.open_used
      rw [hbn] at hou
      have hlen : b.now.length = n := (unhide HO).one.now.len
      have HTK := hide (Took.start b (by rw [hbn]; exact hlen))
      have HUM : Hid (∀ x ∈ usedTo b.now n, ∃ j : Nat, x = j ∧ on b.now j = true) := by
        intro x hx
        obtain ⟨j, h3, _, h5⟩ := numsTo_mem (p := on b.now) hx
        exact ⟨j, h3, h5⟩
      have HUC := hide (used_cnt b.now n)
      have HBN := hide hbn
      clear HO HO3 hbn hlen
      generalize usedTo b.now n = u at *
      go_wp2_with fail
      refine (unhide H1).mono ?_
      rintro e w4 ⟨uo, uc, rfl, hcu, hfar, hO4, -⟩
      have HCU := hide hcu
      have HFAR := hide hfar
      have H2 := hide hO4.left
      clear hcu hfar hO4
      obtain ⟨L, HLE⟩ : ∃ L, Hid (b.left = L) := ⟨_, rfl⟩
      rw [unhide HLE] at H2 hou
      go_wp2_with fail
      refine (unhide H2).mono ?_
      rintro e w5 ⟨rfl, hO5, hk5⟩
      have HO5 := hide hO5
      have HCU5 := hide ((unhide HCU).keepF hk5)
      clear hO5 hk5 HCU
      have j1 : ¬ (L : Int) < 0 := by omega
      have j2 : ¬ (n : Int) < (L : Int) + (u.length : Int) := by omega
      have hL : L ≤ 2048 := by omega
      have hu : u.length ≤ 2048 := by omega
      clear hou
      go_wp2_with fail
      go_loopw [10, 11, 12, 13, 14] (fun la i _ _ _ wr => ∃ (k : Nat) (last : Int) (bi : Bk), k ≤ L ∧ i = .int .i64 k ∧ la = .int .i64 last ∧ Took b bi k last ∧ One w wr w.heap.size n bi ∧ Cells wr (.slice uo u.length uc) (is u)) (fun _ i _ _ _ _ => L - (intOf i).toNat)
      case atStart => exact ⟨0, -1, b, Nat.zero_le _, rfl, rfl, unhide HTK, unhide HO5, unhide HCU5⟩
      case round =>
        obtain ⟨k, last, bi, hk, rfl, rfl, hT, hO, hC⟩ := hrel
        have HT := hide hT
        have HO := hide hO
        have HC := hide hC
        clear hT hO hC
        by_cases hlt : k < L
        · obtain ⟨f, hf1, hf2, hf3, hf4, hT'⟩ := (unhide HT).next (by rw [unhide HLE]; exact hlt)
          have H3 := hide (unhide HO).take
          have e1 : bi.takeN = f := by simp [Bk.takeN, hf1]
          have e2 : bi.takeE = 0 := by simp [Bk.takeE, hf1]
          rw [e1, e2] at H3
          rw [unhide HBN] at hf2
          have HT' := hide hT'
          have HF4 := hide hf4
          have hf2' : (f : Int) < (n : Int) := by omega
          clear hf1 hf4 hT' e1 e2 hf2
          go_wp2_with fail
          refine (unhide H3).mono ?_
          rintro e w6 ⟨rfl, hO6, hk6⟩
          have HC6 := hide ((unhide HO).far (unhide HC) (unhide HFAR) hk6)
          have HO6 := hide hO6
          clear hO6 hk6
          go_wp2_with fail
          go_loop [14] (fun j => ∃ q : Nat, q ≤ u.length ∧ j = .int .i64 q) (fun j => u.length - (intOf j).toNat)
          case atStart => exact ⟨0, Nat.zero_le _, rfl⟩
          case round =>
            obtain ⟨q, hq, rfl⟩ := hrel
            by_cases hqlt : q < u.length
            · obtain ⟨bb, off, c, e1, hblt, hc⟩ := (unhide HC6).cells (by rw [is_length]; omega)
              simp [is_length] at e1
              obtain ⟨rfl, rfl⟩ := e1
              obtain ⟨x, hx⟩ : ∃ x, u[q]? = some x := ⟨_, List.getElem?_eq_getElem hqlt⟩
              have d0 := hc q (.int .i64 x) (by rw [is_get, hx]; rfl)
              obtain ⟨y, hy1, hy2⟩ := unhide HUM x (List.mem_of_getElem? hx)
              have hne : (x == (f : Int)) = false := by
                rw [beq_eq_false_iff_ne]
                intro e
                rw [hy1] at e
                have : y = f := by omega
                rw [this, unhide HF4] at hy2
                cases hy2
              have i3 : (q : Int) < (u.length : Int) := by omega
              have i4 : (0 : Int) ≤ (q : Int) := by omega
              clear hc hx hy1 hy2
              go_wp2
              go_round
              case rel => exact ⟨q + 1, by omega, by go_num⟩
              case measure => simp [intOf]; omega
            · go_wp2
              go_roundw
              case rel => exact ⟨k + 1, f, bi.take, by omega, by go_num, rfl, unhide HT', unhide HO6, unhide HC6⟩
              case measure => simp [intOf]; omega
        · have hkL : k = L := by omega
          subst hkL
          have hl0 : bi.left = 0 := by have h3 := (unhide HT).left; have h4 := unhide HLE; omega
          have hfn : bi.first = none := by
            have h3 := first_cnt bi.isOpen bi.n
            unfold Bk.left at hl0
            rw [hl0] at h3
            have h4 : bi.first.isSome = false := by simpa [Bk.first] using h3
            cases h5 : bi.first with
            | none => rfl
            | some i => rw [h5] at h4; cases h4
          have H3 := hide (unhide HO).take
          have e1 : bi.takeN = 0 := by simp [Bk.takeN, hfn]
          have e2 : bi.takeE = 30 := by simp [Bk.takeE, hfn]
          have e3 : bi.take = bi := by unfold Bk.take; rw [hfn]
          rw [e1, e2, e3] at H3
          have hcu : (usedTo bi.now n).length = u.length + k := by
            have h3 := (unhide HT).used
            have h4 := unhide HUC
            rw [unhide HBN] at h3
            rw [used_cnt, h3, ← h4]
          have HCU := hide hcu
          have HL0 := hide hl0
          clear hcu hl0 hfn e1 e2 e3
          go_wp2_with fail
          refine (unhide H3).mono ?_
          rintro e w6 ⟨rfl, hO6, -⟩
          have H4 := hide hO6.used
          rw [unhide HCU] at H4
          clear hO6
          go_wp2_with fail
          refine (unhide H4).mono ?_
          rintro e w7 ⟨uo2, uc2, rfl, -, -, hO7, -⟩
          have H5 := hide hO7.left
          rw [unhide HL0] at H5
          clear hO7
          go_wp2_with fail
          refine (unhide H5).mono ?_
          rintro e w8 ⟨rfl, hO8, -⟩
          have HB := hide hO8.below
          clear hO8
          go_wp2
          go_ret
          exact ⟨ret_bool (by first | rfl | simp), unhide HB⟩

set_option maxRecDepth 100000 in
set_option maxHeartbeats 400000 in
theorem spaceCounts_long (w : World) (n : Int) (ao : Option Addr) (al ac : Nat) (h : 2147483647 < al) :
    Calls Try.prog 4 #[.int .i64 n, .slice ao al ac] w fun e w' => e = .returned (.bool true) ∧ Below w.heap.size w w' := by
  have hd : decide ((2147483647 : Int) < (al : Int)) = true := by simp; omega
  clear h
  go_enter Try.func4, Try.ntmps4
  go_wp2_with fail
  refine (long_any _ _).mono ?_; rintro e w ⟨rfl, rfl⟩
  go_wp2
  go_ret
  exact ⟨rfl, Below.refl _ _⟩

set_option maxRecDepth 100000 in
set_option maxHeartbeats 400000 in
theorem spaceCounts_arg (w : World) (n : Int) (ao : Option Addr) (al ac : Nat) (h1 : al ≤ 2147483647) (h : n < 1 ∨ 2048 < n) :
    Calls Try.prog 4 #[.int .i64 n, .slice ao al ac] w fun e w' => e = .returned (.bool true) ∧ Below w.heap.size w w' := by
  have hd1 : decide ((2147483647 : Int) < (al : Int)) = false := by simp; omega
  have HN := hide (fun w => new_no w n h)
  clear h1
  by_cases h3 : n < 1
  all_goals
    go_enter Try.func4, Try.ntmps4
    go_wp2_with fail
    refine (long_any _ _).mono ?_; rintro e w ⟨rfl, rfl⟩
    go_wp2_with fail
    refine (unhide HN _).mono ?_; rintro e w ⟨rfl, rfl⟩
    go_wp2
    go_ret
    exact ⟨rfl, Below.refl _ _⟩

theorem countsWalk (w : World) (a0 : Int) (o1 : Option Addr) (l1 c1 : Nat) (x1 : List Int) (hx1 : Cells w (.slice o1 l1 c1) (is x1)) (hl1 : x1.length = l1) (_hb1 : ∀ x ∈ x1, -9223372036854775808 ≤ x ∧ x ≤ 9223372036854775807) :
    Calls Try.prog 4 #[.int .i64 a0, .slice o1 l1 c1] w fun e w' => e = .returned (.bool true) ∧ Below w.heap.size w w' := by
  by_cases hlong : 2147483647 < l1
  · exact spaceCounts_long w a0 o1 l1 c1 hlong
  · by_cases h : a0 < 1 ∨ 2048 < a0
    · exact spaceCounts_arg w a0 o1 l1 c1 (by omega) h
    · obtain ⟨n, rfl⟩ := Int.eq_ofNat_of_zero_le (show 0 ≤ a0 by omega)
      exact spaceCounts_any w n _ x1 hx1 (by omega) (by omega) (by omega)

end Go.Proofs.Ytdkihkgmldnpmaa
