import Derived.Test.YtdkihkgmldnpmabQ
namespace Go.Proofs.Ytdkihkgmldnpmab
open Go.RowKit Go.Maps

set_option maxRecDepth 100000 in
set_option maxHeartbeats 1000000 in
theorem copied_any (w : World) (v : Value) (l : List Bool) (hR : Cells w v (bl l)) (hl : l.length ≤ 2048) :
    Calls Try.prog 30 #[v] w fun e w' => ∃ v', e = .returned v' ∧ w'.ownsRow w.heap.size 4 1 v' l.length (bl l) ∧ Keeps (fun _ => False) w w' := by
  obtain ⟨i0, hi, hz0, hz1, hz2⟩ := info_parts Try.info4
  obtain ⟨ao, cap, rfl⟩ := hR.form
  have HR := hide hR
  clear hR
  simp only [bl_length] at *
  go_enter Try.func30, Try.ntmps30
  go_wp2
  go_loopw [3, 4] (fun o i wr => ∃ k : Nat, k ≤ l.length ∧ i = .int .i64 k ∧ wr.ownsRow w.heap.size 4 1 o k (bl (l.take k)) ∧ Keeps (fun _ => False) w wr) (fun _ i _ => l.length - (intOf i).toNat)
  case atStart => exact ⟨0, Nat.zero_le _, rfl, by simpa [bl] using World.ownsRow_nil w w.heap.size 4 1, Keeps.refl _ _⟩
  case round =>
    obtain ⟨k, hk, rfl, hown, hkeep⟩ := hrel
    have HO := hide hown
    have HK := hide hkeep
    clear hown hkeep
    by_cases hlt : k < l.length
    · obtain ⟨b, off, c, e1, hblt, hc⟩ := (unhide HR).cells (by rw [bl_length]; omega)
      simp [bl_length] at e1
      obtain ⟨rfl, rfl⟩ := e1
      obtain ⟨x, hx⟩ : ∃ x, l[k]? = some x := ⟨_, List.getElem?_eq_getElem hlt⟩
      have p0 := ((unhide HK).cell (o := off + k) hblt id).trans (hc k (.bool x) (by rw [bl_get, hx]; rfl))
      have HX := hide hx
      have i1 : (k : Int) < (l.length : Int) := by omega
      have i0' : (0 : Int) ≤ (k : Int) := by omega
      clear hc hx
      go_wp2_with (at_builtin; refine wpList_append_lies _ rfl _ _ _ rfl w.heap.size 4 i0 _ 1 1 Try.underlying71 hi hz0 hz1 hz2 rfl (by omega) u3 k (bl (l.take k)) rfl ((unhide HO).alloc _) ⟨wr.heap.size, 0, none⟩ 1 1 [.bool x] rfl rfl (World.news_of_block (cs := #[.bool x]) (t := 4) (fr := (0, 0)) (heap_alloc_new wr _)) (by simp [Value.oneCell']) (by omega) (by unfold maxLen; omega) (by omega) (by have := (unhide HK).size; simp; omega) (wr.heap.size + 1) (by simp) ?_; intro g cap w1 hown1 hgrow hat hlt1)
      go_roundw
      case rel =>
        refine ⟨k + 1, by omega, by go_num, ?_, ((unhide HK).alloc _).grown hgrow (fun q e hq => by have := ((unhide HO).lt q e).1; omega)⟩
        rw [take_snoc _ _ _ (unhide HX)]
        simpa [bl] using hown1
      case measure => simp [intOf]; omega
    · go_wp2
      go_ret
      obtain rfl : k = l.length := by omega
      refine ⟨_, rfl, ?_, unhide HK⟩
      have := unhide HO
      rwa [List.take_length] at this


/-- Behind a call of the document's space: where it lies, what it may have written. -/
def Moved (w : World) (T T' : TR) : Prop := T'.V = T.V ∧ ∀ k, T'.has k → T.has k ∨ w.heap.size ≤ k
theorem Moved.refl (w : World) (T : TR) : Moved w T T := ⟨rfl, fun _ h => Or.inl h⟩

set_option maxRecDepth 100000 in
set_option maxHeartbeats 1000000 in
theorem ropen_any (w : World) (B t : Nat) (T : TR) (b : Bk) (h : TriBk w B t T b) (q : Nat) (hlt : q < b.n) :
    Calls Try.prog 50 #[.pointer (some ⟨T.V, 0, none⟩), .int .i64 q] w fun e w' => e = .returned (.bool (b.isOpen q)) ∧ w' = w := by
  have c0 := h.c0
  have c1 := h.c1
  have c2 := h.c2
  have hb2 := h.n2
  have p1 := h.e1 hlt
  have p2 := h.e2 hlt
  have p3 := h.e3 hlt
  have HO : Hid (b.isOpen q = (!on b.now q && !on b.mark q && !on b.last q)) := rfl
  have i3 : (q : Int) < (b.n : Int) := by omega
  have i4 : (0 : Int) ≤ (q : Int) := by omega
  clear h
  generalize b.isOpen q = o at *
  generalize on b.now q = x at *
  generalize on b.mark q = y at *
  generalize on b.last q = z at *
  generalize b.n = n at *
  cases x with
  | true =>
    go_enter Try.func50, Try.ntmps50
    go_wp2
    go_ret
    exact ⟨ret_bool (by rw [unhide HO]; rfl), rfl⟩
  | false =>
    cases y with
    | true =>
      go_enter Try.func50, Try.ntmps50
      go_wp2
      go_ret
      exact ⟨ret_bool (by rw [unhide HO]; rfl), rfl⟩
    | false =>
      go_enter Try.func50, Try.ntmps50
      go_wp2
      go_ret
      exact ⟨ret_bool (by rw [unhide HO]; cases z <;> rfl), rfl⟩

set_option maxRecDepth 100000 in
set_option maxHeartbeats 1000000 in
theorem rtake_any (w : World) (B t : Nat) (T : TR) (b : Bk) (h : TriBk w B t T b) :
    Calls Try.prog 37 #[.pointer (some ⟨T.V, 0, none⟩)] w fun e w' => e = .returned (.tuple #[.int .i64 b.takeN, .int .i64 b.takeE]) ∧ TriBk w' B t T b.take ∧ Keeps T.has w w' := by
  have c0 := h.c0
  have hb2 := h.n2
  have HT := hide h
  cases hf : b.first with
  | none =>
    have HN := hide (firstTo_none (p := b.isOpen) hf)
    have e1 : b.takeN = 0 := by simp [Bk.takeN, hf]
    have e2 : b.takeE = 30 := by simp [Bk.takeE, hf]
    have e3 : b.take = b := by unfold Bk.take; rw [hf]
    rw [e1, e2, e3]
    clear h hf e1 e2 e3
    go_enter Try.func37, Try.ntmps37
    go_wp2
    go_loop [2, 3, 4, 5] (fun a c i _ => ∃ k : Nat, k ≤ b.n ∧ a = .int .i64 0 ∧ c = .int .i64 0 ∧ i = .int .i64 k) (fun _ _ i _ => b.n - (intOf i).toNat)
    case atStart => exact ⟨0, Nat.zero_le _, rfl, rfl, rfl⟩
    case round =>
      obtain ⟨k, hk, rfl, rfl, rfl⟩ := hrel
      by_cases hlt : k < b.n
      · have HO := hide (ropen_any w B t T b (unhide HT) k hlt)
        rw [unhide HN k hlt] at HO
        go_wp2_with fail
        refine (unhide HO).mono ?_; rintro e w ⟨rfl, rfl⟩
        go_wp2
        go_round
        case rel => exact ⟨k + 1, by omega, rfl, rfl, by go_num⟩
        case measure => simp [intOf]; omega
      · go_wp2
        go_ret2
        exact ⟨rfl, unhide HT, Keeps.refl _ _⟩
  | some f =>
    obtain ⟨h1, h2, h3⟩ := firstTo_some (p := b.isOpen) hf
    have e1 : b.takeN = f := by simp [Bk.takeN, hf]
    have e2 : b.takeE = 0 := by simp [Bk.takeE, hf]
    have e3 : b.take = { b with now := b.now.set f true } := by unfold Bk.take; rw [hf]
    rw [e1, e2, e3]
    have p1 := h.e1 h1
    have f0 := h.f1 f
    have HU := hide (h.turn f true)
    have H2 := hide h2
    have H3 := hide h3
    have i4 : (0 : Int) ≤ (f : Int) := by omega
    clear h hf e1 e2 e3 h2 h3
    go_enter Try.func37, Try.ntmps37
    go_wp2
    go_loop [2, 3, 4, 5] (fun a c i _ => ∃ k : Nat, k ≤ f ∧ a = .int .i64 0 ∧ c = .int .i64 0 ∧ i = .int .i64 k) (fun _ _ i _ => b.n - (intOf i).toNat)
    case atStart => exact ⟨0, Nat.zero_le _, rfl, rfl, rfl⟩
    case round =>
      obtain ⟨k, hk, rfl, rfl, rfl⟩ := hrel
      have hlt : (k : Int) < (b.n : Int) := by omega
      have HO := hide (ropen_any w B t T b (unhide HT) k (by omega))
      by_cases e : k = f
      · subst e
        rw [unhide H2] at HO
        go_wp2_with fail
        refine (unhide HO).mono ?_; rintro e w ⟨rfl, rfl⟩
        go_wp2
        go_ret2
        exact ⟨rfl, (unhide HU).1, (unhide HU).2⟩
      · rw [unhide H3 k (by omega)] at HO
        go_wp2_with fail
        refine (unhide HO).mono ?_; rintro e w ⟨rfl, rfl⟩
        go_wp2
        go_round
        case rel => exact ⟨k + 1, by omega, rfl, rfl, by go_num⟩
        case measure => simp [intOf]; omega

set_option maxRecDepth 100000 in
set_option maxHeartbeats 400000 in
theorem rgive_any (w : World) (B t : Nat) (T : TR) (b : Bk) (h : TriBk w B t T b) (k : Int) :
    Calls Try.prog 39 #[.pointer (some ⟨T.V, 0, none⟩), .int .i64 k] w fun e w' => e = .returned (.int .i64 (b.giveE k)) ∧ TriBk w' B t T (b.give k) ∧ Keeps T.has w w' := by
  have c0 := h.c0
  have hb2 := h.n2
  have HT := hide h
  by_cases h0 : k < 0
  · have hin : b.inUse k = false := by simp [Bk.inUse]; omega
    have e1 : b.giveE k = 31 := by unfold Bk.giveE; rw [if_neg (by rw [hin]; simp)]
    have e2 : b.give k = b := by unfold Bk.give; rw [if_neg (by rw [hin]; simp)]
    rw [e1, e2]
    clear h hin e1 e2
    go_enter Try.func39, Try.ntmps39
    go_wp2
    go_ret
    exact ⟨rfl, unhide HT, Keeps.refl _ _⟩
  · obtain ⟨i, rfl⟩ := Int.eq_ofNat_of_zero_le (show 0 ≤ k by omega)
    by_cases hi : i < b.n
    · have p0 := h.e1 hi
      have f0 := h.f1 i
      cases hon : on b.now i with
      | true =>
        have hin : b.inUse (i : Int) = true := by simp [Bk.inUse, hon]
        have e1 : b.giveE (i : Int) = 0 := by unfold Bk.giveE; rw [if_pos hin]
        have e2 : b.give (i : Int) = { b with now := b.now.set i false } := by unfold Bk.give; rw [if_pos hin, Int.toNat_natCast]
        rw [e1, e2]
        rw [hon] at p0
        have HU := hide (h.turn i false)
        have i3 : (i : Int) < (b.n : Int) := by omega
        clear h hin e1 e2 hon
        generalize b.n = n at *
        go_enter Try.func39, Try.ntmps39
        go_wp2
        go_ret
        exact ⟨rfl, (unhide HU).1, (unhide HU).2⟩
      | false =>
        have hin : b.inUse (i : Int) = false := by simp [Bk.inUse, hon]
        have e1 : b.giveE (i : Int) = 31 := by unfold Bk.giveE; rw [if_neg (by rw [hin]; simp)]
        have e2 : b.give (i : Int) = b := by unfold Bk.give; rw [if_neg (by rw [hin]; simp)]
        rw [e1, e2]
        rw [hon] at p0
        have i3 : (i : Int) < (b.n : Int) := by omega
        clear h hin e1 e2 hon
        generalize b.n = n at *
        go_enter Try.func39, Try.ntmps39
        go_wp2
        go_ret
        exact ⟨rfl, unhide HT, Keeps.refl _ _⟩
    · have hon : on b.now i = false := on_past (by rw [h.ln]; omega)
      have hin : b.inUse (i : Int) = false := by simp [Bk.inUse, hon]
      have e1 : b.giveE (i : Int) = 31 := by unfold Bk.giveE; rw [if_neg (by rw [hin]; simp)]
      have e2 : b.give (i : Int) = b := by unfold Bk.give; rw [if_neg (by rw [hin]; simp)]
      rw [e1, e2]
      have i3 : (b.n : Int) ≤ (i : Int) := by omega
      clear h hin e1 e2 hon
      generalize b.n = n at *
      go_enter Try.func39, Try.ntmps39
      go_wp2
      go_ret
      exact ⟨rfl, unhide HT, Keeps.refl _ _⟩

theorem copied_now {w : World} {B t : Nat} {T : TR} {b : Bk} (h2 : TriBk w B t T b) (o : Nat) (ho : o = 1 ∨ o = 2) : Calls Try.prog 30 #[.slice (some ⟨T.g1, 0, none⟩) b.n T.c1] w fun e w' => ∃ g cp, e = .returned (.slice (some ⟨g, 0, none⟩) b.n cp) ∧ w.heap.size ≤ g ∧ (∃ x, w'.cell? ⟨T.V, o, none⟩ = some x) ∧ w'.frozen? ⟨T.V, o, none⟩ = false ∧
      Keeps T.has w (w'.setCell ⟨T.V, o, none⟩ (.slice (some ⟨g, 0, none⟩) b.n cp)) ∧ TriBk (w'.setCell ⟨T.V, o, none⟩ (.slice (some ⟨g, 0, none⟩) b.n cp)) B t (if o = 1 then { T with g2 := g, c2 := cp } else { T with g3 := g, c3 := cp }) (if o = 1 then { b with mark := b.now } else { b with last := b.now }) := by
  refine (copied_any w _ b.now h2.rowNow (by rw [h2.ln]; exact h2.n2)).mono ?_
  rintro e w' ⟨v, rfl, hr, hk⟩
  have h2' := h2.keepF hk
  rcases ho with rfl | rfl
  · obtain ⟨g, cp, rfl, hg, h3, h4⟩ := h2.newMark hk hr
    exact ⟨g, cp, rfl, hg, ⟨_, h2'.c1⟩, h2'.tri.fz 1, hk.any.trans (h4.mono (fun k _ e => Or.inl e)), by simpa using h3⟩
  · obtain ⟨g, cp, rfl, hg, h3, h4⟩ := h2.newLast hk hr
    exact ⟨g, cp, rfl, hg, ⟨_, h2'.c2⟩, h2'.tri.fz 2, hk.any.trans (h4.mono (fun k _ e => Or.inl e)), by simpa using h3⟩
theorem copied_mark {w : World} {B t : Nat} {T : TR} {b : Bk} (h2 : TriBk w B t T b) : Calls Try.prog 30 #[.slice (some ⟨T.g2, 0, none⟩) b.n T.c2] w fun e w' => ∃ g cp, e = .returned (.slice (some ⟨g, 0, none⟩) b.n cp) ∧ w.heap.size ≤ g ∧ (∃ x, w'.cell? ⟨T.V, 0, none⟩ = some x) ∧ w'.frozen? ⟨T.V, 0, none⟩ = false ∧
      Keeps T.has w (w'.setCell ⟨T.V, 0, none⟩ (.slice (some ⟨g, 0, none⟩) b.n cp)) ∧ TriBk (w'.setCell ⟨T.V, 0, none⟩ (.slice (some ⟨g, 0, none⟩) b.n cp)) B t { T with g1 := g, c1 := cp } { b with now := b.mark } := by
  refine (copied_any w _ b.mark h2.rowMark (by rw [h2.lm]; exact h2.n2)).mono ?_
  rintro e w' ⟨v, rfl, hr, hk⟩
  have h2' := h2.keepF hk
  obtain ⟨g, cp, rfl, hg, h3, h4⟩ := h2.newNow hk hr
  exact ⟨g, cp, rfl, hg, ⟨_, h2'.c0⟩, h2'.tri.fz 0, hk.any.trans (h4.mono (fun k _ e => Or.inl e)), h3⟩

set_option maxRecDepth 100000 in
set_option maxHeartbeats 400000 in
theorem rmark_any (w : World) (B t : Nat) (T : TR) (b : Bk) (h : TriBk w B t T b) :
    Calls Try.prog 41 #[.pointer (some ⟨T.V, 0, none⟩)] w fun e w' => e = .returned (.tuple #[]) ∧ ∃ T', Moved w T T' ∧ TriBk w' B t T' b.setMark ∧ Keeps T.has w w' := by
  have c0 := h.c0
  have H1 := hide (copied_now h 1 (Or.inl rfl))
  simp only [if_true] at H1
  clear h
  go_enter Try.func41, Try.ntmps41
  go_wp2_with fail
  refine (unhide H1).mono ?_
  rintro e w1 ⟨g, cp, rfl, hg, ⟨x, hx⟩, hfz, hk, hT⟩
  have HK := hide hk
  have HT := hide hT
  have HG := hide hg
  clear hk hT hg
  go_wp2
  go_end0
  refine ⟨rfl, { T with g2 := g, c2 := cp }, ⟨rfl, fun k hk => ?_⟩, unhide HT, unhide HK⟩
  rcases hk with hk | hk | hk | hk
  · exact Or.inl (Or.inl hk)
  · exact Or.inl (Or.inr (Or.inl hk))
  · right; rw [hk]; exact unhide HG
  · exact Or.inl (Or.inr (Or.inr (Or.inr hk)))

set_option maxRecDepth 100000 in
set_option maxHeartbeats 400000 in
theorem rundo_any (w : World) (B t : Nat) (T : TR) (b : Bk) (h : TriBk w B t T b) :
    Calls Try.prog 43 #[.pointer (some ⟨T.V, 0, none⟩)] w fun e w' => e = .returned (.tuple #[]) ∧ ∃ T', Moved w T T' ∧ TriBk w' B t T' b.undo ∧ Keeps T.has w w' := by
  have c1 := h.c1
  have H1 := hide (copied_mark h)
  clear h
  go_enter Try.func43, Try.ntmps43
  go_wp2_with fail
  refine (unhide H1).mono ?_
  rintro e w1 ⟨g, cp, rfl, hg, ⟨x, hx⟩, hfz, hk, hT⟩
  have HK := hide hk
  have HT := hide hT
  have HG := hide hg
  clear hk hT hg
  go_wp2
  go_end0
  refine ⟨rfl, { T with g1 := g, c1 := cp }, ⟨rfl, fun k hk => ?_⟩, unhide HT, unhide HK⟩
  rcases hk with hk | hk | hk | hk
  · exact Or.inl (Or.inl hk)
  · right; rw [hk]; exact unhide HG
  · exact Or.inl (Or.inr (Or.inr (Or.inl hk)))
  · exact Or.inl (Or.inr (Or.inr (Or.inr hk)))

set_option maxRecDepth 100000 in
set_option maxHeartbeats 400000 in
theorem rsettle_any (w : World) (B t : Nat) (T : TR) (b : Bk) (h : TriBk w B t T b) :
    Calls Try.prog 44 #[.pointer (some ⟨T.V, 0, none⟩)] w fun e w' => e = .returned (.tuple #[]) ∧ ∃ T', Moved w T T' ∧ TriBk w' B t T' b.settle ∧ Keeps T.has w w' := by
  have c0 := h.c0
  have H1 := hide (copied_now h 1 (Or.inl rfl))
  simp only [if_true] at H1
  clear h
  go_enter Try.func44, Try.ntmps44
  go_wp2_with fail
  refine (unhide H1).mono ?_
  rintro e w1 ⟨g, cp, rfl, hg, ⟨x, hx⟩, hfz, hk, hT⟩
  have HK := hide hk
  have HT := hide hT
  have HG := hide hg
  have d0 := hT.c0
  have H2 := hide (copied_now hT 2 (Or.inr rfl))
  simp only [show ((2 : Nat) = 1) = False from by simp, if_false] at H2 d0
  clear hk hT hg
  go_wp2_with fail
  refine (unhide H2).mono ?_
  rintro e w2 ⟨g2, cp2, rfl, hg2, ⟨x2, hx2⟩, hfz2, hk2, hT2⟩
  have HK2 := hide ((unhide HK).then hk2 (fun k hk e => by
    rcases e with e | e | e | e
    · exact Or.inl e
    · exact Or.inr (Or.inl e)
    · have h1 := unhide HG; simp only at e; omega
    · exact Or.inr (Or.inr (Or.inr e))))
  have HT2 := hide hT2
  have HG2 := hide (Nat.le_trans (unhide HK).size hg2)
  clear hk2 hT2 hg2
  go_wp2
  go_end0
  refine ⟨rfl, { T with g2 := g, c2 := cp, g3 := g2, c3 := cp2 }, ⟨rfl, fun k hk => ?_⟩, unhide HT2, unhide HK2⟩
  rcases hk with hk | hk | hk | hk
  · exact Or.inl (Or.inl hk)
  · exact Or.inl (Or.inr (Or.inl hk))
  · right; rw [hk]; exact unhide HG
  · right; rw [hk]; exact unhide HG2

set_option maxHeartbeats 400000 in
theorem rtake_nil (w : World) : Calls Try.prog 37 #[.pointer none] w fun e w' => e = .returned (.tuple #[.int .i64 0, .int .i64 1]) ∧ w' = w := by
  go_enter Try.func37, Try.ntmps37
  go_wp2
  go_ret2
  exact ⟨rfl, rfl⟩
set_option maxHeartbeats 400000 in
theorem rgive_nil (w : World) (v : Value) : Calls Try.prog 39 #[.pointer none, v] w fun e w' => e = .returned (.int .i64 1) ∧ w' = w := by
  go_enter Try.func39, Try.ntmps39
  go_wp2
  go_ret
  exact ⟨rfl, rfl⟩
set_option maxHeartbeats 400000 in
theorem rmark_nil (w : World) : Calls Try.prog 41 #[.pointer none] w fun e w' => e = .returned (.tuple #[]) ∧ w' = w := by
  go_enter Try.func41, Try.ntmps41
  go_wp2
  go_end0
  exact ⟨rfl, rfl⟩
set_option maxHeartbeats 400000 in
theorem rundo_nil (w : World) : Calls Try.prog 43 #[.pointer none] w fun e w' => e = .returned (.tuple #[]) ∧ w' = w := by
  go_enter Try.func43, Try.ntmps43
  go_wp2
  go_end0
  exact ⟨rfl, rfl⟩
set_option maxHeartbeats 400000 in
theorem rsettle_nil (w : World) : Calls Try.prog 44 #[.pointer none] w fun e w' => e = .returned (.tuple #[]) ∧ w' = w := by
  go_enter Try.func44, Try.ntmps44
  go_wp2
  go_end0
  exact ⟨rfl, rfl⟩
set_option maxHeartbeats 400000 in
theorem rused_nil (w : World) : Calls Try.prog 15 #[.pointer none] w fun e w' => e = .returned (.slice none 0 0) ∧ w' = w := by
  go_enter Try.func15, Try.ntmps15
  go_wp2
  go_ret
  exact ⟨rfl, rfl⟩
set_option maxHeartbeats 400000 in
theorem rleft_nil (w : World) : Calls Try.prog 53 #[.pointer none] w fun e w' => e = .returned (.int .i64 0) ∧ w' = w := by
  go_enter Try.func53, Try.ntmps53
  go_wp2
  go_ret
  exact ⟨rfl, rfl⟩
set_option maxHeartbeats 400000 in
theorem rbitmap_nil (w : World) : Calls Try.prog 19 #[.pointer none] w fun e w' => e = .returned (.slice none 0 0) ∧ w' = w := by
  go_enter Try.func19, Try.ntmps19
  go_wp2
  go_ret
  exact ⟨rfl, rfl⟩

end Go.Proofs.Ytdkihkgmldnpmab
