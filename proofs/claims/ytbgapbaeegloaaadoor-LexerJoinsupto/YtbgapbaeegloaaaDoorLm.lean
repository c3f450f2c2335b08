import Derived.Test.YtbgapbaeegloaaaDoorLl
namespace Go.Proofs.YtbgapbaeegloaaaDoor
open Go.RowKit Go.Maps

def spare : TokA := ⟨-77, [115, 112, 97, 114, 101], 0, -7⟩
theorem tcs_snoc (l : List TokA) (x : TokA) : tcs (l ++ [x]) = tcs l ++ x.cs := by simp [tcs]
/-- What stands of the spare token. -/
structure Sp (w : World) (sb : Nat) : Prop where
  lt : sb < w.heap.size
  c0 : w.cell? ⟨sb, 0, none⟩ = some (.int .i64 (-77))
  c1 : w.cell? ⟨sb, 1, none⟩ = some (str [115, 112, 97, 114, 101])
  c2 : w.cell? ⟨sb, 2, none⟩ = some (.int .i64 0)
  c3 : w.cell? ⟨sb, 3, none⟩ = some (.int .i64 (-7))
theorem Sp.keep {w w' : World} {sb : Nat} {F : Nat → Prop} (h : Sp w sb) (hk : Keeps F w w') (hF : ¬ F sb) : Sp w' sb :=
  ⟨Nat.lt_of_lt_of_le h.lt hk.size, (hk.cell h.lt hF).trans h.c0, (hk.cell h.lt hF).trans h.c1, (hk.cell h.lt hF).trans h.c2, (hk.cell h.lt hF).trans h.c3⟩

set_option maxRecDepth 100000 in
set_option maxHeartbeats 8000000 in
theorem lexerJoins_walk (l : List TokA) (v : Value) (w : World) (hP : Pow w) (hT : ToksAt w v l) (hl : l.length ≤ 1048576) (ht : ∀ t ∈ l, t.text.length ≤ 1048576) :
    Calls Tryd.prog 3 #[v] w fun e w' => e = .returned (.bool true) ∧ Keeps (fun _ => False) w w' := by
  obtain ⟨i0, hi, hz0, hz1, hz2⟩ := info_parts Tryd.info25
  have HQ := hide (copied_v w v l hT (by omega))
  have HP := hide hP
  have HT := hide hT
  have HL := hide ht
  obtain ⟨ao, ac, rfl⟩ := RowAt.form hT
  clear hP hT ht
  go_enter Tryd.func3, Tryd.ntmps3
  go_wp2_with fail
  refine (unhide HQ).mono ?_
  rintro e w1 ⟨v1, rfl, ho1, hk1⟩
  obtain ⟨HX, hxb, hxc⟩ := boxedT w1 #[.int .i64 (-77), str [115, 112, 97, 114, 101], .int .i64 0, .int .i64 (-7)] 25
  have SP0 : Hid (Sp (w1.alloc (.cells #[.int .i64 (-77), str [115, 112, 97, 114, 101], .int .i64 0, .int .i64 (-7)] 25)) w1.heap.size) := ⟨hxb, hxc 0 _ rfl, hxc 1 _ rfl, hxc 2 _ rfl, hxc 3 _ rfl⟩
  have HK1 := hide (hk1.trans (unhide HX))
  have HO1 := hide (ho1.alloc (.cells #[.int .i64 (-77), str [115, 112, 97, 114, 101], .int .i64 0, .int .i64 (-7)] 25))
  have HN1 : Hid (v1.ownBlock ≠ some w1.heap.size) := fun e => by have := (ho1.lt _ e).2; omega
  clear ho1 hk1 hxb hxc HX HQ
  go_wp2_with fail
  generalize w1.alloc (.cells #[.int .i64 (-77), str [115, 112, 97, 114, 101], .int .i64 0, .int .i64 (-7)] 25) = w2 at *
  generalize w1.heap.size = sb at *
  go_loopw [3, 5] (fun o i wr => ∃ k : Nat, k ≤ 16 ∧ i = .int .i64 k ∧ wr.ownsRow w.heap.size 25 4 o (l.length + k) (tcs (l ++ List.replicate k spare)) ∧ Sp wr sb ∧ o.ownBlock ≠ some sb ∧ Keeps (fun _ => False) w wr) (fun _ i _ => 16 - (intOf i).toNat)
  case atStart => exact ⟨0, Nat.zero_le _, rfl, by simpa using unhide HO1, unhide SP0, unhide HN1, unhide HK1⟩
  case round =>
    clear HO1 SP0 HN1 HK1
    obtain ⟨k, hk, rfl, hown, hsp, hne, hkp⟩ := hrel
    have HO := hide hown
    have HS := hide hsp
    have HN := hide hne
    have HK := hide hkp
    have s0 := hsp.c0
    have s1 := hsp.c1
    have s2 := hsp.c2
    have s3 := hsp.c3
    have hlt := hsp.lt
    clear hown hsp hne hkp
    by_cases h16 : k < 16
    · have i1 : (k : Int) < 16 := by omega
      have hsz := (unhide HK).size
      go_wp2_with (at_builtin; refine wpList_append_lies _ rfl _ _ _ rfl w.heap.size 25 i0 _ 4 40 Tryd.underlying22 hi hz0 hz1 hz2 rfl (by omega) u3 (l.length + k) (tcs (l ++ List.replicate k spare)) rfl ((unhide HO).alloc _) ⟨wr.heap.size, 0, none⟩ 1 1 spare.cs rfl rfl (World.news_of_block (cs := #[.int .i64 (-77), str [115, 112, 97, 114, 101], .int .i64 0, .int .i64 (-7)]) (t := 25) (fr := (0, 0)) (heap_alloc_new wr _)) (by simp [Value.oneCell', TokA.cs, spare]) (by omega) (by unfold maxLen; omega) (by omega) (by simp; omega) (wr.heap.size + 1) (by simp) ?_; intro g cap w5 hown1 hgrow hat hlt1)
      have HK5 : Hid (Keeps (fun _ => False) w w5) := ((unhide HK).alloc _).grown hgrow (fun q e hq => by have := ((unhide HO).lt q e).1; omega)
      have KA : Keeps (fun q => u3.ownBlock = some q) wr w5 := ((Keeps.refl _ wr).alloc _).grown hgrow (fun q e _ => e.symm ▸ rfl)
      have HS5 := hide ((unhide HS).keep KA (unhide HN))
      have HN5 : Hid ((Value.slice (some ⟨g, 0, none⟩) (l.length + k + 1) cap).ownBlock ≠ some sb) := by
        intro e
        have e' : g = sb := by simpa [Value.ownBlock] using e
        rcases hat with h | h
        · exact unhide HN (by rw [h, e'])
        · omega
      clear hgrow hat KA
      have HO5 := hide hown1
      clear hown1
      go_roundw
      case rel =>
        refine ⟨k + 1, by omega, by go_num, ?_, unhide HS5, unhide HN5, unhide HK5⟩
        rw [List.replicate_succ', ← List.append_assoc, tcs_snoc]
        exact unhide HO5
      case measure => simp [intOf]; omega
    · obtain rfl : k = 16 := by omega
      obtain ⟨g, cap, hcap, rfl⟩ : ∃ g cap, l.length + 16 ≤ cap ∧ u3 = .slice (some ⟨g, 0, none⟩) (l.length + 16) cap := by
        rcases (unhide HO).2 with ⟨_, h⟩ | ⟨g, cap, cur, hv, _, _, h, _⟩
        · omega
        · exact ⟨g, cap, h, hv⟩
      have hL16 : (l ++ List.replicate 16 spare).length = l.length + 16 := by simp
      have RW0 : Hid (Rw wr g (l ++ List.replicate 16 spare)) := rw_own (B := w.heap.size) (n := l.length + 16) (cap := cap) (by rw [hL16]; exact unhide HO) (by rw [hL16]; omega)
      have hg0 : Hid (w.heap.size ≤ g) := ((unhide HO).lt g rfl).1
      have hcl : (l.length : Int) ≤ (cap : Int) := by omega
      have HJ1 := hide (join_v l _ wr ((unhide HP).keepF (unhide HK)) ((unhide RW0).toks cap (by omega)))
      generalize hJ : joinP l = J at *
      have HJR := hide hJ
      clear hJ HO HN hL16 h16 s0 s1 s2 s3 hlt hi hz0 hz1 hz2
      go_wp2_with fail
      refine (unhide HJ1).mono ?_
      rintro e w3 ⟨rfl, hk3⟩
      have HK3 := hide ((unhide HK).trans hk3)
      have HJ2 := hide (rjoin_v l _ w3 ((unhide HT).keepF (unhide HK3)) (by omega) (fun t h => Nat.le_trans ((unhide HL) t h) (by omega)))
      rw [unhide HJR] at HJ2
      have RW3 := hide ((unhide RW0).keepF hk3)
      have SP3 := hide ((unhide HS).keep hk3 id)
      clear hk3 HJ1 RW0 HS HK
      go_wp2_with fail
      refine (unhide HJ2).mono ?_
      rintro e w4 ⟨rfl, hk4⟩
      have HK4 := hide ((unhide HK3).trans hk4)
      have RW4 := hide ((unhide RW3).keepF hk4)
      have SP4 := hide ((unhide SP3).keep hk4 id)
      have HE4 := hide (eqTokens_same w4 _ _ l ((unhide RW4).toks cap (by omega)) ((unhide HT).keepF (unhide HK4)) (by omega))
      clear hk4 HJ2 RW3 SP3 HK3
      go_wp2_with fail
      refine (unhide HE4).mono ?_
      rintro e w5 ⟨rfl, hk5⟩
      have HK5 := hide ((unhide HK4).trans hk5)
      have RW5 := hide ((unhide RW4).keepF hk5)
      have SP5 := hide ((unhide SP4).keep hk5 id)
      clear hk5 HE4 RW4 SP4 HK4
      go_wp2_with fail
      go_loopw [11, 12] (fun sm i wq => ∃ m : Nat, l.length ≤ m ∧ m ≤ l.length + 16 ∧ i = .int .i64 m ∧ sm = .bool true ∧ Keeps (fun _ => False) w5 wq) (fun _ i _ => l.length + 16 - (intOf i).toNat)
      case atStart => exact ⟨l.length, Nat.le_refl _, by omega, rfl, rfl, Keeps.refl _ _⟩
      case round =>
        obtain ⟨m, hm1, hm2, rfl, rfl, hkq⟩ := hrel
        have HKQ := hide hkq
        by_cases hml : m < l.length + 16
        · have hmx : (l ++ List.replicate 16 spare)[m]? = some spare := by
            rw [List.getElem?_append_right hm1, List.getElem?_replicate, if_pos (by omega)]
          obtain ⟨c0, c1, c2, c3⟩ := ((unhide RW5).keepF hkq).cell m spare hmx
          have SPQ := (unhide SP5).keep hkq id
          have s0 := SPQ.c0
          have s1 := SPQ.c1
          have s2 := SPQ.c2
          have s3 := SPQ.c3
          unfold spare at c0 c1 c2 c3
          simp only at c0 c1 c2 c3
          have i1 : (m : Int) < (l.length : Int) + 16 := by omega
          have i2 : (0 : Int) ≤ (m : Int) := by omega
          clear hmx SPQ hkq
          go_wp2_with fail
          go_quiet (fail)
          go_wp2_with fail
          go_roundw
          case rel => exact ⟨m + 1, by omega, by omega, by go_num, rfl, (unhide HKQ).drewN nq⟩
          case measure => simp [intOf]; omega
        · obtain rfl : m = l.length + 16 := by omega
          have HKW := hide ((unhide HK5).trans hkq)
          have RWQ := hide ((unhide RW5).keepF hkq).head
          clear hkq HKQ RW5 SP5 HK5 hm1 hm2 hml
          go_wp2_with fail
          go_loopw [13] (fun i wz => ∃ (k : Nat) (L' : List TokA), k ≤ l.length ∧ i = .int .i64 k ∧ L'.length = l.length ∧ Hid (∀ t ∈ L', t.text.length ≤ 1048576) ∧ Rw wz g L' ∧ Keeps (fun _ => False) w wz) (fun i _ => l.length - (intOf i).toNat)
          case atStart => exact ⟨0, l, Nat.zero_le _, rfl, rfl, unhide HL, unhide RWQ, unhide HKW⟩
          case round =>
            clear RWQ HKW
            obtain ⟨k, L', hk, rfl, hLl, HLL, hrw, hkz⟩ := hrel
            have HKZ := hide hkz
            have HRZ := hide hrw
            have HLL' := hide hLl
            clear hkz hrw
            by_cases hk2 : k < l.length / 2
            · have q1 : (k : Int) < (l.length : Int) / 2 := by omega
              obtain ⟨j, hj⟩ : ∃ j : Nat, j = l.length - 1 - k := ⟨_, rfl⟩
              have hjk : k < j := by omega
              have hjl : j < l.length := by omega
              have q2 : (l.length : Int) - 1 - (k : Int) = (j : Int) := by omega
              have q3 : (k : Int) < (l.length : Int) := by omega
              have q4 : (j : Int) < (l.length : Int) := by omega
              obtain ⟨x, hx⟩ : ∃ x, L'[k]? = some x := ⟨_, List.getElem?_eq_getElem (by omega)⟩
              obtain ⟨y, hy⟩ : ∃ y, L'[j]? = some y := ⟨_, List.getElem?_eq_getElem (by omega)⟩
              have HX := hide hx
              have HY := hide hy
              obtain ⟨a0, a1, a2, a3⟩ := (unhide HRZ).cell k x hx
              have KA : Keeps (fun _ => False) _ (wr.alloc (.cells #[.int .i64 x.kind, str x.text, .int .i64 x.n, .int .i64 x.pos] 25)) := (Keeps.refl _ _).alloc _
              have RA := (unhide HRZ).keepF KA
              obtain ⟨b0, b1, b2, b3⟩ := RA.cell k x hx
              obtain ⟨d0, d1, d2, d3⟩ := RA.cell j y hy
              have fz := RA.fz
              have gne : g ≠ wr.heap.size := fun e => by have := (unhide HRZ).lt; omega
              have HRA := hide RA
              clear hx hy RA KA hj hLl
              go_wp2_with fail
              go_roundw
              case rel =>
                have hjy : (L'.set k y)[j]? = some y := by rw [List.getElem?_set_ne (by omega)]; exact unhide HY
                have RB := ((unhide HRA).set (unhide HX) y).set hjy x
                have hg := unhide hg0
                refine ⟨k + 1, (L'.set k y).set j x, by omega, by go_num, by simp; exact unhide HLL', ?_, RB, ?_⟩
                · intro t' h
                  rcases List.mem_or_eq_of_mem_set h with h | h
                  · rcases List.mem_or_eq_of_mem_set h with h | h
                    · exact (unhide HLL) t' h
                    · rw [h]; exact (unhide HLL) y (List.mem_of_getElem? (unhide HY))
                  · rw [h]; exact (unhide HLL) x (List.mem_of_getElem? (unhide HX))
                · exact (((((((((unhide HKZ).alloc _).setCell (p := ⟨g, _, none⟩) (fun h => by simp at h; omega) _).setCell (p := ⟨g, _, none⟩) (fun h => by simp at h; omega) _).setCell (p := ⟨g, _, none⟩) (fun h => by simp at h; omega) _).setCell (p := ⟨g, _, none⟩) (fun h => by simp at h; omega) _).setCell (p := ⟨g, _, none⟩) (fun h => by simp at h; omega) _).setCell (p := ⟨g, _, none⟩) (fun h => by simp at h; omega) _).setCell (p := ⟨g, _, none⟩) (fun h => by simp at h; omega) _).setCell (p := ⟨g, _, none⟩) (fun h => by simp at h; omega) _
              case measure => simp [intOf]; omega
            · have q1 : ¬ (k : Int) < (l.length : Int) / 2 := by omega
              have HTZ := hide ((unhide HRZ).toks0 cap (by omega))
              have HJ7 := hide (join_v L' _ wr ((unhide HP).keepF (unhide HKZ)) (unhide HTZ))
              rw [hLl] at HJ7 HTZ
              generalize hJ' : joinP L' = J' at *
              have HJR' := hide hJ'
              clear hJ'
              go_wp2_with fail
              refine (unhide HJ7).mono ?_
              rintro e w7 ⟨rfl, hk7⟩
              have HK7 := hide ((unhide HKZ).trans hk7)
              have HC7 := hide (copied_v w7 _ L' ((unhide HTZ).keepF hk7) (by omega))
              clear hk7 HJ7 HRZ HKZ HTZ
              go_wp2_with fail
              refine (unhide HC7).mono ?_
              rintro e w8 ⟨v8, rfl, ho8, hk8⟩
              have HK8 := hide ((unhide HK7).trans hk8)
              have HJ8 := hide (rjoin_v L' _ w8 (rowAt_own ho8) (by omega) (fun t h => Nat.le_trans ((unhide HLL) t h) (by omega)))
              rw [unhide HJR'] at HJ8
              clear hk8 ho8 HC7 HK7
              go_wp2_with fail
              refine (unhide HJ8).mono ?_
              rintro e w9 ⟨rfl, hk9⟩
              have HK9 := hide ((unhide HK8).trans hk9)
              clear hk9 HJ8 HK8
              obtain ⟨J1, J2⟩ := J
              obtain ⟨J3, J4⟩ := J'
              simp only
              go_wp2_with fail
              go_ret
              exact ⟨rfl, unhide HK9⟩
end Go.Proofs.YtbgapbaeegloaaaDoor
