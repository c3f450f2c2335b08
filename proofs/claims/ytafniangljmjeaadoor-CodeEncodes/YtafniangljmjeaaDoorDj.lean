import Derived.Test.YtafniangljmjeaaDoorDc
namespace Go.Proofs.YtafniangljmjeaaDoor
open Go.RowKit Go.Maps

theorem Tryd.info52 : (Tryd.prog.info? 52).map (fun i => (i.zero, i.size, i.bytes)) = some (some (.agg #[.int .i64 0, .int .i64 0, .string ⟨#[]⟩]), 3, 32) := by kernel_rfl
set_option maxRecDepth 100000 in
set_option maxHeartbeats 1000000 in
theorem copied_v (w : World) (v : Value) (l : List ValA) (hR : ValsAt w v l) (hl : l.length ≤ 4398046511104) :
    Calls Tryd.prog 10 #[v] w fun e w' => ∃ v', e = .returned v' ∧ w'.ownsRow w.heap.size 52 3 v' l.length (vcs l) ∧ Keeps (fun _ => False) w w' := by
  obtain ⟨i0, hi, hz0, hz1, hz2⟩ := info_parts Tryd.info52
  obtain ⟨ao, cap, rfl⟩ := RowAt.form hR
  have HR := hide hR
  have HL := hide hl
  have hl' : l.length ≤ 9223372036854775807 := by omega
  clear hR hl
  go_enter Tryd.func10, Tryd.ntmps10
  go_wp2
  go_loopw [3, 4] (fun o i wr => ∃ k : Nat, k ≤ l.length ∧ i = .int .i64 k ∧ wr.ownsRow w.heap.size 52 3 o k (vcs (l.take k)) ∧ Keeps (fun _ => False) w wr) (fun _ i _ => l.length - (intOf i).toNat)
  case atStart => exact ⟨0, Nat.zero_le _, rfl, by simpa [vcs] using World.ownsRow_nil w w.heap.size 52 3, Keeps.refl _ _⟩
  case round =>
    obtain ⟨k, hk, rfl, hown, hkeep⟩ := hrel
    have HO := hide hown
    have HK := hide hkeep
    clear hown hkeep
    by_cases hlt : k < l.length
    · obtain ⟨b, off, c, e1, hblt, hc⟩ := (unhide HR).cells (by omega)
      simp at e1
      obtain ⟨rfl, rfl⟩ := e1
      obtain ⟨x, hx⟩ : ∃ x, l[k]? = some x := ⟨_, List.getElem?_eq_getElem hlt⟩
      have p0 := ((unhide HK).cell hblt id).trans (hc k x hx).1
      have p1 := ((unhide HK).cell hblt id).trans (hc k x hx).2.1
      have p2 := ((unhide HK).cell hblt id).trans (hc k x hx).2.2
      have HX := hide hx
      have i1 : (k : Int) < (l.length : Int) := by omega
      have i0' : (0 : Int) ≤ (k : Int) := by omega
      clear hc hx
      go_wp2_with (at_builtin; refine wpList_append_lies _ rfl _ _ _ rfl w.heap.size 52 i0 _ 3 32 Tryd.underlying22 hi hz0 hz1 hz2 rfl (by omega) u3 k (vcs (l.take k)) rfl ((unhide HO).alloc _) ⟨wr.heap.size, 0, none⟩ 1 1 x.cs rfl rfl (World.news_of_block (cs := #[.int .i64 x.kind, .int .i64 x.n, str x.s]) (t := 52) (fr := (0, 0)) (heap_alloc_new wr _)) (by simp [Value.oneCell', ValA.cs]) (by omega) (by unfold maxLen; omega) (by have := unhide HL; omega) (by have := (unhide HK).size; simp; omega) (wr.heap.size + 1) (by simp) ?_; intro g cap w1 hown1 hgrow hat hlt1)
      go_roundw
      case rel =>
        refine ⟨k + 1, by omega, by go_num, ?_, ((unhide HK).alloc _).grown hgrow (fun q e hq => by have := ((unhide HO).lt q e).1; omega)⟩
        rw [take_snoc _ _ _ (unhide HX)]
        simpa [vcs] using hown1
      case measure => simp [intOf]; omega
    · go_wp2
      go_ret
      obtain rfl : k = l.length := by omega
      refine ⟨_, rfl, ?_, unhide HK⟩
      have := unhide HO
      rwa [List.take_length] at this

set_option maxRecDepth 100000 in
set_option maxHeartbeats 2000000 in
theorem eqCode_v (w : World) (va vb : Value) (la lb : List ValA) (ha : ValsAt w va la) (hb : ValsAt w vb lb) (hla : la.length ≤ maxLen) :
    Calls Tryd.prog 18 #[va, vb] w fun e w' => e = .returned (.bool (decide (la = lb))) ∧ Keeps (fun _ => False) w w' := by
  obtain ⟨ao, capa, rfl⟩ := RowAt.form ha
  obtain ⟨bo, capb, rfl⟩ := RowAt.form hb
  unfold maxLen at hla
  by_cases hlen : la.length = lb.length
  · have hne : ((la.length : Int) != (lb.length : Int)) = false := by simp [hlen]
    have HA := hide ha
    have HB := hide hb
    have HL := hide hlen
    clear ha hb hlen
    go_enter Tryd.func18, Tryd.ntmps18
    go_wp2
    go_loopw [5] (fun i wr => ∃ k : Nat, k ≤ la.length ∧ i = .int .i64 k ∧ Hid (la.take k = lb.take k) ∧ ∃ n, wr = w.drewN n) (fun i _ => la.length - (intOf i).toNat)
    case atStart => exact ⟨0, Nat.zero_le _, rfl, rfl, 0, rfl⟩
    case round =>
      obtain ⟨k, hk, rfl, HT, n, rfl⟩ := hrel
      by_cases hlt : k < la.length
      · have hltb : k < lb.length := by have := unhide HL; omega
        obtain ⟨b1, o1, c1, e1, _, hc1⟩ := (unhide HA).cells (by omega)
        obtain ⟨b2, o2, c2, e2, _, hc2⟩ := (unhide HB).cells (by omega)
        simp at e1 e2
        obtain ⟨rfl, rfl⟩ := e1
        obtain ⟨rfl, rfl⟩ := e2
        obtain ⟨x, hx⟩ : ∃ x, la[k]? = some x := ⟨_, List.getElem?_eq_getElem hlt⟩
        obtain ⟨y, hy⟩ : ∃ y, lb[k]? = some y := ⟨_, List.getElem?_eq_getElem hltb⟩
        obtain ⟨p0, p1, p2⟩ := hc1 k x hx
        obtain ⟨q0, q1, q2⟩ := hc2 k y hy
        have i1 : (k : Int) < (la.length : Int) := by omega
        have i2 : (k : Int) < (lb.length : Int) := by omega
        have i0 : (0 : Int) ≤ (k : Int) := by omega
        have HX := hide hx
        have HY := hide hy
        clear hc1 hc2 hx hy
        have HEQ : Hid (x = y ∨ x ≠ y) := Classical.em _
        obtain ⟨xk, xn, xs⟩ := x
        obtain ⟨yk, yn, ys⟩ := y
        simp only at *
        by_cases h1 : xk = yk
        · subst h1
          by_cases h2 : xn = yn
          · subst h2
            by_cases h3 : xs = ys
            · subst h3
              go_wp2_with fail
              go_quiet (fail)
              go_wp2
              go_roundw
              case rel => exact ⟨k + 1, by omega, by go_num, take_succ_eq (unhide HT) (unhide HX) (unhide HY), _, rfl⟩
              case measure => simp [intOf]; omega
            · have h3' : (!xs == ys) = true := by simpa using h3
              have HN : Hid ((⟨xk, xn, xs⟩ : ValA) ≠ ⟨xk, xn, ys⟩) := by intro e; simp at e; exact h3 e
              go_wp2_with fail
              go_quiet (fail)
              go_wp2
              go_ret
              exact ⟨ret_bool (by symm; rw [decide_eq_false_iff_not]; exact get_ne (unhide HX) (unhide HY) (unhide HN)), (keeps_drewN _ _).drewN _⟩
          · have hb' : (xn != yn) = true := by rw [bne_iff_ne]; exact h2
            have HN : Hid ((⟨xk, xn, xs⟩ : ValA) ≠ ⟨xk, yn, ys⟩) := by intro e; simp at e; exact h2 e.1
            clear h2
            go_wp2_with fail
            go_quiet (fail)
            go_wp2
            go_ret
            exact ⟨ret_bool (by symm; rw [decide_eq_false_iff_not]; exact get_ne (unhide HX) (unhide HY) (unhide HN)), (keeps_drewN _ _).drewN _⟩
        · have hb' : (xk != yk) = true := by rw [bne_iff_ne]; exact h1
          have HN : Hid ((⟨xk, xn, xs⟩ : ValA) ≠ ⟨yk, yn, ys⟩) := by intro e; simp at e; exact h1 e.1
          clear h1
          go_wp2_with fail
          go_quiet (fail)
          go_wp2
          go_ret
          exact ⟨ret_bool (by symm; rw [decide_eq_false_iff_not]; exact get_ne (unhide HX) (unhide HY) (unhide HN)), (keeps_drewN _ _).drewN _⟩
      · have HF := hide (take_end (unhide HL) (by omega) (unhide HT))
        go_wp2
        go_ret
        exact ⟨ret_bool (by symm; rw [decide_eq_true_iff]; exact unhide HF), keeps_drewN _ _⟩
  · have hne : ((la.length : Int) != (lb.length : Int)) = true := by rw [bne_iff_ne]; omega
    have HL := hide hlen
    clear hlen
    go_enter Tryd.func18, Tryd.ntmps18
    go_wp2
    go_ret
    exact ⟨ret_bool (by symm; rw [decide_eq_false_iff_not]; intro e; exact unhide HL (by rw [e])), Keeps.refl _ _⟩

end Go.Proofs.YtafniangljmjeaaDoor
