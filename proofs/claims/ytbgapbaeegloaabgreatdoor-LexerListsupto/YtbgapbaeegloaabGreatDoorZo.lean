import Derived.Test.YtbgapbaeegloaabGreatDoorZm
namespace Go.Proofs.YtbgapbaeegloaabGreatDoor
open Go.RowKit Go.Maps

set_option maxRecDepth 100000 in
set_option maxHeartbeats 6400000 in
theorem lexerLists_walk (ts : List Txt) (v : Value) (w : World) (hE : Env w) (hT : RowAt w v ts.length (ts.map str)) (hn : ts.length ≤ 1048576) (hl : ∀ t ∈ ts, t.length ≤ 140737488355328) :
    Calls Tryz.prog 4 #[v] w fun e w' => e = .returned (.bool true) ∧ Keeps (fun _ => False) w w' := by
  obtain ⟨i0, hi, hz0, hz1, hz2⟩ := info_parts Tryz.info31
  obtain ⟨j0, hj, hy0, hy1, hy2⟩ := info_parts Tryz.info22
  have HE := hide hE
  have HT := hide hT
  have HL := hide hl
  obtain ⟨ao, ac, rfl⟩ := RowAt.form hT
  clear hE hT hl
  go_enter Tryz.func4, Tryz.ntmps4
  go_wp2_with fail
  go_loopw [3, 4, 5] (fun kv wv i wr => ∃ (k : Nat) (gs ws : List Value), k ≤ ts.length ∧ i = .int .i64 k ∧ wr.ownsRow w.heap.size 22 1 kv k gs ∧ wr.ownsRow w.heap.size 22 1 wv k ws ∧ (∀ b, kv.ownBlock = some b → wv.ownBlock ≠ some b) ∧ Lists wr w.heap.size gs ws ∧ Keeps (fun _ => False) w wr) (fun _ _ i _ => ts.length - (intOf i).toNat)
  case atStart => exact ⟨0, [], [], Nat.zero_le _, rfl, World.ownsRow_nil .., World.ownsRow_nil .., (by intro b h; cases h), ⟨fun j g h => by simp at h⟩, Keeps.refl _ _⟩
  case round =>
    obtain ⟨k, gs, ws, hk, rfl, ho1, ho2, hap, hls, hkp⟩ := hrel
    have HO1 := hide ho1
    have HO2 := hide ho2
    have HAP := hide hap
    have HLS := hide hls
    have HK := hide hkp
    clear ho1 ho2 hap hls
    by_cases hlt : k < ts.length
    · obtain ⟨b, off, c, e, hb, hc⟩ := (unhide HT).cells (by omega)
      simp at e
      obtain ⟨rfl, rfl⟩ := e
      obtain ⟨t, ht⟩ : ∃ t, ts[k]? = some t := ⟨_, List.getElem?_eq_getElem hlt⟩
      have ct : w.cell? ⟨b, off + k, none⟩ = some (str t) := hc k (str t) (by rw [List.getElem?_map, ht]; rfl)
      have hlen : t.length ≤ 140737488355328 := (unhide HL) t (List.mem_of_getElem? ht)
      have cr := (hkp.cell hb id).trans ct
      have HQ := hide (lex_v t hlen wr ((unhide HE).keepF hkp))
      have HQ2 := fun w' hk' => hide (lex_v t hlen w' ((unhide HE).keepF hk'))
      have HR := fun w' => hide (refLex_v t hlen w')
      have HLN := hide (lex_len t)
      generalize lexP t = D at *
      obtain ⟨l, er, a⟩ := D
      simp only at HQ HR HLN HQ2
      have i1 : (k : Int) < (ts.length : Int) := by omega
      have i2 : (0 : Int) ≤ (k : Int) := by omega
      clear hc ht hkp
      go_wp2_with fail
      refine (unhide HQ).mono ?_
      rintro e w1 ⟨v1, rfl, o1, k1⟩
      obtain ⟨ao1, cap1, rfl⟩ := RowAt.form (rowAt_own o1)
      have HK1 := hide k1
      have HP1 := hide o1
      have cr1 := (((unhide HK).trans k1).cell hb id).trans ct
      have HS := hide (HQ2 w1 ((unhide HK).trans k1))
      clear o1 k1 HQ HQ2 cr
      go_wp2_with fail
      refine (unhide (unhide HS)).mono ?_
      rintro e w2 ⟨v2, rfl, o2, k2⟩
      have HK2 := hide k2
      have HP2 := hide o2
      have cr2 := (((unhide HK).trans ((unhide HK1).trans k2)).cell hb id).trans ct
      clear o2 k2 HS cr1
      go_wp2_with fail
      refine (unhide (HR _)).mono ?_
      rintro e w3 ⟨v3, rfl, o3, k3⟩
      have HK3 := hide k3
      have HP3 := hide o3
      have HEQ := hide (eqTokens_same w3 _ v3 l (rowAt_own (owns_keep (unhide HP1) ((unhide HK2).trans k3))) (rowAt_own o3) (by have := unhide HLN; omega))
      clear o3 k3 HR cr2
      go_wp2_with fail
      refine (unhide HEQ).mono ?_
      rintro e w4 ⟨rfl, k4⟩
      have HK4 := hide k4
      clear k4 HEQ
      go_wp2_with fail
      obtain ⟨S0, hS0⟩ : ∃ S0, Hid (wr.heap.size = S0) := ⟨_, rfl⟩
      rw [unhide hS0] at HP1
      have HV0 : Hid ((w4.alloc (.cells #[.int .i64 (100 + (k : Int)), str [109, 97, 114, 107], .int .i64 (k : Int), .int .i64 (-(k : Int))] 31)).ownsRow S0 31 4 (.slice ao1 l.length cap1) l.length (tcs l)) := (owns_keep (unhide HP1) ((unhide HK2).trans ((unhide HK3).trans (unhide HK4)))).alloc _
      have HP2' : Hid ((w4.alloc (.cells #[.int .i64 (100 + (k : Int)), str [109, 97, 114, 107], .int .i64 (k : Int), .int .i64 (-(k : Int))] 31)).ownsRow w1.heap.size 31 4 v2 l.length (tcs l)) := (owns_keep (unhide HP2) ((unhide HK3).trans (unhide HK4))).alloc _
      have HP3' : Hid ((w4.alloc (.cells #[.int .i64 (100 + (k : Int)), str [109, 97, 114, 107], .int .i64 (k : Int), .int .i64 (-(k : Int))] 31)).ownsRow w1.heap.size 31 4 v3 l.length (tcs l)) := (owns_keep (own_base (unhide HP3) (unhide HK2).size) (unhide HK4)).alloc _
      have HK5 : Hid (Keeps (fun _ => False) wr (w4.alloc (.cells #[.int .i64 (100 + (k : Int)), str [109, 97, 114, 107], .int .i64 (k : Int), .int .i64 (-(k : Int))] 31))) := ((unhide HK1).trans ((unhide HK2).trans ((unhide HK3).trans (unhide HK4)))).alloc _
      have HV1 : Hid (∀ q, (Value.slice ao1 l.length cap1).ownBlock = some q → S0 ≤ q ∧ q < w1.heap.size) := fun q e => (unhide HP1).lt q e
      have s14 : w1.heap.size ≤ w4.heap.size := ((unhide HK2).trans ((unhide HK3).trans (unhide HK4))).size
      obtain ⟨HX, hxb, hxc⟩ := boxedT w4 #[.int .i64 (100 + (k : Int)), str [109, 97, 114, 107], .int .i64 (k : Int), .int .i64 (-(k : Int))] 31
      have MK0 : Hid (Mk (w4.alloc (.cells #[.int .i64 (100 + (k : Int)), str [109, 97, 114, 107], .int .i64 (k : Int), .int .i64 (-(k : Int))] 31)) w4.heap.size k) := ⟨hxb, hxc 0 _ rfl, hxc 1 _ rfl, hxc 2 _ rfl, hxc 3 _ rfl⟩
      clear HX hxb hxc HP1 HP2 HP3 HK1 HK2 HK3 HK4
      obtain ⟨w5, HW5⟩ : ∃ w5, Hid (w4.alloc (.cells #[.int .i64 (100 + (k : Int)), str [109, 97, 114, 107], .int .i64 (k : Int), .int .i64 (-(k : Int))] 31) = w5) := ⟨_, rfl⟩
      obtain ⟨sb, HSB⟩ : ∃ sb, Hid (w4.heap.size = sb) := ⟨_, rfl⟩
      rw [unhide HW5] at HV0 HP2' HP3' HK5 MK0
      rw [unhide HSB] at MK0 s14
      conv => arg 5; rw [show (w4.alloc (.cells #[.int .i64 (100 + (k : Int)), str [109, 97, 114, 107], .int .i64 (k : Int), .int .i64 (-(k : Int))] 31) = w5) from unhide HW5]
      rw [unhide HSB]
      clear HW5 HSB
      have hs5 : sb < w5.heap.size := (unhide MK0).lt
      have hr5 := (unhide HK5).size
      rw [unhide hS0] at hr5
      have hkn : (k : Int) ≤ 1048576 := by omega
      have hll : l.length ≤ 256 := unhide HLN
      go_loopw [17, 18] (fun o i wq => ∃ m : Nat, m ≤ l.length ∧ i = .int .i64 m ∧ wq.ownsRow w5.heap.size 31 4 o m (tcs (List.replicate m (mark k))) ∧ wq.ownsRow S0 31 4 (.slice ao1 l.length cap1) l.length (tcs (List.replicate m (mark k) ++ l.drop m)) ∧ Keeps (fun q => (Value.slice ao1 l.length cap1).ownBlock = some q) w5 wq) (fun _ i _ => l.length - (intOf i).toNat)
      case atStart => exact ⟨0, Nat.zero_le _, rfl, World.ownsRow_nil .., by simpa using unhide HV0, Keeps.refl _ _⟩
      case round =>
        obtain ⟨m, hm, rfl, hown, hv, hkq⟩ := hrel
        have HO := hide hown
        have HV := hide hv
        have HKQ := hide hkq
        by_cases hml : m < l.length
        · obtain ⟨g1, rfl⟩ : ∃ g1, ao1 = some ⟨g1, 0, none⟩ := by
            rcases hv.2 with ⟨_, h⟩ | ⟨g, cap, cur, e, _⟩
            · omega
            · simp at e; exact ⟨g, e.1⟩
          have hg1 := (unhide HV1) g1 rfl
          have gne : g1 ≠ sb := by omega
          have gne' : sb ≠ g1 := fun e => gne e.symm
          obtain ⟨x, x0, x1, x2, x3⟩ := cell_own hv (by simp; omega) hml
          have fz : ∀ o, wr.frozen? ⟨g1, o, none⟩ = false := fun o => by
            obtain ⟨c', hblk⟩ := own_block hv (k := g1) rfl
            exact frozen_of_blk hblk o
          have MKQ := (unhide MK0).keep hkq (fun e => gne (by simpa [Value.ownBlock] using e))
          have s0 := MKQ.c0
          have s1 := MKQ.c1
          have s2 := MKQ.c2
          have s3 := MKQ.c3
          have HOS := hide (own_set hv m (mark k))
          have KS : Keeps (fun q => q = g1) wr (set4W wr g1 m (mark k)) := keeps_set4 (F := fun q => q = g1) (Keeps.refl _ wr) (fun _ => rfl) m (mark k)
          have HOW : Hid ((set4W wr g1 m (mark k)).ownsRow w5.heap.size 31 4 u17 m (tcs (List.replicate m (mark k)))) := own_kept hown KS (fun q e e' => by have := (hown.lt q e).1; omega)
          have HNW : Hid (((set4W wr g1 m (mark k)).alloc (.cells #[.int .i64 (100 + (k : Int)), str [109, 97, 114, 107], .int .i64 (k : Int), .int .i64 (-(k : Int))] 31)).heap[wr.heap.size]? = some (.cells #[.int .i64 (100 + (k : Int)), str [109, 97, 114, 107], .int .i64 (k : Int), .int .i64 (-(k : Int))] 31)) := new_set4 wr g1 m (mark k) _
          have i3 : (m : Int) < (l.length : Int) := by omega
          have i4 : (0 : Int) ≤ (m : Int) := by omega
          have sq := hkq.size
          clear hown hv hkq MKQ KS
          go_wp2_with (at_builtin; go_loud (refine wpList_append_lies _ rfl _ _ _ rfl w5.heap.size 31 i0 _ 4 40 Tryz.underlying22 hi hz0 hz1 hz2 rfl (by omega) u17 m (tcs (List.replicate m (mark k))) rfl ((unhide HOW).alloc _) ⟨wr.heap.size, 0, none⟩ 1 1 (mark k).cs rfl rfl (World.news_of_block (cs := #[.int .i64 (100 + (k : Int)), str [109, 97, 114, 107], .int .i64 (k : Int), .int .i64 (-(k : Int))]) (t := 31) (fr := (0, 0)) (unhide HNW)) (by simp [Value.oneCell', TokA.cs, mark]) (by omega) (by unfold maxLen; omega) (by omega) (by simp; omega) (wr.heap.size + 1) (by simp) ?_); intro g cap w6 hown6 hgrow hat hlt6)
          have HO6 := hide hown6
          have HV6 : Hid (w6.ownsRow S0 31 4 (.slice (some ⟨g1, 0, none⟩) l.length cap1) l.length (tcs (List.replicate (m + 1) (mark k) ++ l.drop (m + 1)))) := by
            have e : (List.replicate m (mark k) ++ l.drop m).set m (mark k) = List.replicate (m + 1) (mark k) ++ l.drop (m + 1) := by
              rw [List.set_append_right _ _ (by simp), List.length_replicate, Nat.sub_self, List.drop_eq_getElem_cons hml, List.set_cons_zero, List.replicate_succ', List.append_assoc]; rfl
            have h := unhide HOS
            rw [e] at h
            exact own_kept h (((Keeps.refl (fun q => u17.ownBlock = some q) _).alloc _).grown hgrow (fun q e _ => e)) (fun q e e' => by
              have h1 := ((unhide HO).lt q e').1
              have h2 : g1 = q := by simpa [Value.ownBlock] using e
              omega)
          have HK6 : Hid (Keeps (fun q => (Value.slice (some ⟨g1, 0, none⟩) l.length cap1).ownBlock = some q) w5 w6) := ((keeps_set4 (unhide HKQ) (g := g1) (fun _ => rfl) m (mark k)).alloc _).grown hgrow (fun q e hq => by have := ((unhide HO).lt q e).1; omega)
          clear hown6 hgrow hat hlt6 HOS HOW HNW fz
          go_wp2_with fail
          go_roundw
          case rel =>
            refine ⟨m + 1, by omega, by go_num, ?_, unhide HV6, unhide HK6⟩
            rw [List.replicate_succ', tcs_snoc]
            exact unhide HO6
          case measure => simp [intOf]; omega
        · obtain rfl : m = l.length := by omega
          have HV' : Hid (wr.ownsRow S0 31 4 (Value.slice ao1 l.length cap1) l.length (tcs (List.replicate l.length (mark k)))) := by
            have h := unhide HV
            rw [List.drop_length, List.append_nil] at h
            exact h
          have HAP3 : Hid (∀ b, (Value.slice ao1 l.length cap1).ownBlock = some b → u17.ownBlock ≠ some b) := fun b e e' => by
            have h1 := (hown.lt b e').1
            have h2 := ((unhide HV1) b e).2
            omega
          clear hown hv hkq HV HV0
          go_wp2_with fail
          go_loopw [17, 19, 20] (fun o g i wq => ∃ j : Nat, j ≤ 64 ∧ i = .int .i64 j ∧ wq.ownsRow w5.heap.size 31 4 o (l.length + j) (tcs (List.replicate (l.length + j) (mark k))) ∧ wq.ownsRow S0 31 4 g (l.length + j) (tcs (List.replicate (l.length + j) (mark k))) ∧ (∀ b, g.ownBlock = some b → o.ownBlock ≠ some b) ∧ (∀ b, g.ownBlock = some b → (Value.slice ao1 l.length cap1).ownBlock = some b ∨ w5.heap.size ≤ b) ∧ Keeps (fun q => (Value.slice ao1 l.length cap1).ownBlock = some q) w5 wq) (fun _ _ i _ => 64 - (intOf i).toNat)
          case atStart => exact ⟨0, by omega, rfl, by simpa using unhide HO, by simpa using unhide HV', unhide HAP3, fun b e => Or.inl e, unhide HKQ⟩
          case round =>
            clear HO HV' HAP3 HKQ
            obtain ⟨j, hj64, rfl, hown, hg, hap, hat0, hkq⟩ := hrel
            have HO := hide hown
            have HG := hide hg
            have HA := hide hap
            have HB := hide hat0
            have HKQ := hide hkq
            have sq := hkq.size
            by_cases h64 : j < 64
            · have MKQ := (unhide MK0).keep hkq (fun e => by have := ((unhide HV1) sb e).2; omega)
              have s0 := MKQ.c0
              have s1 := MKQ.c1
              have s2 := MKQ.c2
              have s3 := MKQ.c3
              have HMK := hide MKQ
              have i3 : (j : Int) < 64 := by omega
              clear hown hg hap hat0 hkq MKQ
              go_wp2_with (first
                | (at_builtin
                   refine wpList_append_lies _ rfl _ _ _ rfl S0 31 i0 _ 4 40 Tryz.underlying22 hi hz0 hz1 hz2 rfl (by omega) u19 (l.length + j) (tcs (List.replicate (l.length + j) (mark k))) rfl ((unhide HG).alloc _) ⟨wr.heap.size, 0, none⟩ 1 1 (mark k).cs rfl rfl (World.news_of_block (cs := #[.int .i64 (100 + (k : Int)), str [109, 97, 114, 107], .int .i64 (k : Int), .int .i64 (-(k : Int))]) (t := 31) (fr := (0, 0)) (heap_alloc_new wr _)) (by simp [Value.oneCell', TokA.cs, mark]) (by omega) (by unfold maxLen; omega) (by omega) (by simp; omega) (wr.heap.size + 1) (by simp) ?_
                   intro g cap w6 hown6 hgrow6 hat6 hlt6
                   have KA : Keeps (fun q => u19.ownBlock = some q) wr w6 := ((Keeps.refl _ wr).alloc _).grown hgrow6 (fun q e _ => e)
                   have HOW6 := hide (own_kept (unhide HO) KA (fun b e e' => (unhide HA) b e' e))
                   have MK6 := (unhide HMK).keep KA (fun e => by
                     rcases (unhide HB) sb e with h | h
                     · have := ((unhide HV1) sb h).2; omega
                     · omega)
                   have t0 := MK6.c0
                   have t1 := MK6.c1
                   have t2 := MK6.c2
                   have t3 := MK6.c3
                   have HG6 := hide hown6
                   have HK6 : Hid (Keeps (fun q => (Value.slice ao1 l.length cap1).ownBlock = some q) w5 w6) := ((unhide HKQ).alloc _).grown hgrow6 (fun q e hq => by
                     rcases (unhide HB) q e with h | h
                     · exact h
                     · omega)
                   have s6 : wr.heap.size + 1 ≤ w6.heap.size := by have := hgrow6.size; simpa using this
                   have HA6 : Hid (u17.ownBlock ≠ some g) := fun e => by
                     rcases hat6 with h | h
                     · exact (unhide HA) g h e
                     · have := ((unhide HO).lt g e).2; omega
                   have HB6 : Hid ((Value.slice ao1 l.length cap1).ownBlock = some g ∨ w5.heap.size ≤ g) := by
                     rcases hat6 with h | h
                     · exact (unhide HB) g h
                     · right; omega
                   clear KA MK6 hown6 hgrow6 hat6)
                | (at_builtin
                   refine wpList_append_lies _ rfl _ _ _ rfl w5.heap.size 31 i0 _ 4 40 Tryz.underlying22 hi hz0 hz1 hz2 rfl (by omega) u17 (l.length + j) (tcs (List.replicate (l.length + j) (mark k))) rfl ((unhide HOW6).alloc _) ⟨w6.heap.size, 0, none⟩ 1 1 (mark k).cs rfl rfl (World.news_of_block (cs := #[.int .i64 (100 + (k : Int)), str [109, 97, 114, 107], .int .i64 (k : Int), .int .i64 (-(k : Int))]) (t := 31) (fr := (0, 0)) (heap_alloc_new w6 _)) (by simp [Value.oneCell', TokA.cs, mark]) (by omega) (by unfold maxLen; omega) (by omega) (by simp; omega) (w6.heap.size + 1) (by simp) ?_
                   intro g7 cap7 w7 hown7 hgrow7 hat7 hlt7
                   have HO7 := hide hown7
                   have HG7 := hide (own_kept (unhide HG6) (((Keeps.refl (fun q => u17.ownBlock = some q) w6).alloc _).grown hgrow7 (fun q e _ => e)) (fun b e e' => by
                     have h2 : g = b := by simpa [Value.ownBlock] using e
                     rw [← h2] at e'
                     exact (unhide HA6) e'))
                   have HK7 : Hid (Keeps (fun q => (Value.slice ao1 l.length cap1).ownBlock = some q) w5 w7) := ((unhide HK6).alloc _).grown hgrow7 (fun q e hq => by have := ((unhide HO).lt q e).1; omega)
                   have HNE : Hid (g ≠ g7) := fun e => by
                     rcases hat7 with h | h
                     · exact (unhide HA6) (by rw [e]; exact h)
                     · omega
                   clear hown7 hgrow7 hat7))
              go_roundw
              case rel =>
                refine ⟨j + 1, by omega, by go_num, ?_, ?_, ?_, ?_, unhide HK7⟩
                · rw [← Nat.add_assoc, List.replicate_succ', tcs_snoc]
                  exact unhide HO7
                · rw [← Nat.add_assoc, List.replicate_succ', tcs_snoc]
                  exact unhide HG7
                · intro b e e'
                  have h1 : g = b := by simpa [Value.ownBlock] using e
                  have h2 : g7 = b := by simpa [Value.ownBlock] using e'
                  exact (unhide HNE) (h1.trans h2.symm)
                · intro b e
                  have h1 : g = b := by simpa [Value.ownBlock] using e
                  rw [← h1]
                  exact unhide HB6
              case measure => simp [intOf]; omega
            · obtain rfl : j = 64 := by omega
              obtain ⟨g, cap, rfl⟩ : ∃ g cap, u19 = .slice (some ⟨g, 0, none⟩) (l.length + 64) cap := by
                rcases hg.2 with ⟨_, h⟩ | ⟨g, cap, cur, e, _⟩
                · omega
                · exact ⟨g, cap, e⟩
              obtain ⟨o, capo, rfl⟩ : ∃ g cap, u17 = .slice (some ⟨g, 0, none⟩) (l.length + 64) cap := by
                rcases hown.2 with ⟨_, h⟩ | ⟨g, cap, cur, e, _⟩
                · omega
                · exact ⟨g, cap, e⟩
              have E2 := hide (eqTokens_same wr v2 v3 l (rowAt_own (own_kept (unhide HP2') hkq (fun b e e' => by have h1 := ((unhide HP2').lt b e).1; have h2 := ((unhide HV1) b e').2; omega))) (rowAt_own (own_kept (unhide HP3') hkq (fun b e e' => by have h1 := ((unhide HP3').lt b e).1; have h2 := ((unhide HV1) b e').2; omega))) (by omega))
              clear hown hg hap hat0 hkq
              go_wp2_with fail
              refine (unhide E2).mono ?_
              rintro e w8 ⟨rfl, k8⟩
              have HK8 := hide (((unhide HK5).then (unhide HKQ) (fun q hq e => by have h1 := ((unhide HV1) q e).1; have h2 := unhide hS0; omega)).trans k8)
              have HO18 := hide (owns_keep (unhide HO1) (unhide HK8))
              have HO28 := hide (owns_keep (unhide HO2) (unhide HK8))
              have HLS8 := hide ((unhide HLS).keepF (unhide HK8))
              have HKW8 := hide ((unhide HK).trans (unhide HK8))
              have wS : w.heap.size ≤ S0 := by have h1 := (unhide HK).size; have h2 := unhide hS0; omega
              have HG8 := hide (own_base (owns_keep (unhide HG) k8) wS)
              have HO8 := hide (own_base (owns_keep (unhide HO) k8) (Nat.le_trans wS hr5))
              have sw8 := (unhide HKW8).size
              clear k8 E2 HG HO HA HB HKQ HK8 HP2' HP3' MK0
              go_wp2_with (first
                | (at_builtin
                   refine wpList_append_lies _ rfl _ _ _ rfl w.heap.size 22 j0 _ 1 24 Tryz.underlying29 hj hy0 hy1 hy2 rfl (by omega) u3 k gs rfl ((unhide HO18).alloc _) ⟨w8.heap.size, 0, none⟩ 1 1 [Value.slice (some ⟨g, 0, none⟩) (l.length + 64) cap] rfl rfl (World.news_of_block (cs := #[Value.slice (some ⟨g, 0, none⟩) (l.length + 64) cap]) (t := 22) (fr := (0, 0)) (heap_alloc_new w8 _)) (by simp [Value.oneCell']) (by omega) (by unfold maxLen; omega) (by omega) (by simp; omega) (w8.heap.size + 1) (by simp) ?_
                   intro gK capK w9 hown9 hgrow9 hat9 hlt9
                   have K9 : Keeps (fun q => u3.ownBlock = some q) w8 w9 := ((Keeps.refl _ w8).alloc _).grown hgrow9 (fun q e _ => e)
                   have HKK9 := hide hown9
                   have HO29 := hide (own_kept (unhide HO28) K9 (fun b e e' => (unhide HAP) b e' e))
                   have HLS9 := hide (Lists.grown ((unhide HLS8).keepF ((Keeps.refl _ w8).alloc _)) ((unhide HO18).alloc _) hgrow9)
                   have HG9 := hide (own_kept (unhide HG8) K9 (fun b e => own_apart (unhide HG8) (unhide HO18) (by decide) e))
                   have HO9 := hide (own_kept (unhide HO8) K9 (fun b e => own_apart (unhide HO8) (unhide HO18) (by decide) e))
                   have HA9 : Hid (u4.ownBlock ≠ some gK) := fun e => by
                     rcases hat9 with h | h
                     · exact (unhide HAP) gK h e
                     · have := ((unhide HO28).lt gK e).2; omega
                   have HK9 : Hid (Keeps (fun _ => False) w w9) := ((unhide HKW8).alloc _).grown hgrow9 (fun q e hq => by have := ((unhide HO18).lt q e).1; omega)
                   have s9 : w8.heap.size + 1 ≤ w9.heap.size := by have := hgrow9.size; simpa using this
                   clear K9 hown9 hgrow9 hat9)
                | (at_builtin
                   refine wpList_append_lies _ rfl _ _ _ rfl w.heap.size 22 j0 _ 1 24 Tryz.underlying29 hj hy0 hy1 hy2 rfl (by omega) u4 k ws rfl ((unhide HO29).alloc _) ⟨w9.heap.size, 0, none⟩ 1 1 [Value.slice (some ⟨o, 0, none⟩) (l.length + 64) capo] rfl rfl (World.news_of_block (cs := #[Value.slice (some ⟨o, 0, none⟩) (l.length + 64) capo]) (t := 22) (fr := (0, 0)) (heap_alloc_new w9 _)) (by simp [Value.oneCell']) (by omega) (by unfold maxLen; omega) (by omega) (by simp; omega) (w9.heap.size + 1) (by simp) ?_
                   intro gW capW w10 hown10 hgrow10 hat10 hlt10
                   have K10 : Keeps (fun q => u4.ownBlock = some q) w9 w10 := ((Keeps.refl _ w9).alloc _).grown hgrow10 (fun q e _ => e)
                   have HWW := hide hown10
                   have HKK := hide (own_kept (unhide HKK9) K10 (fun b e e' => by
                     have h2 : gK = b := by simpa [Value.ownBlock] using e
                     rw [← h2] at e'
                     exact (unhide HA9) e'))
                   have HLS10 := Lists.grown ((unhide HLS9).keepF ((Keeps.refl _ w9).alloc _)) ((unhide HO29).alloc _) hgrow10
                   have HG10 := own_kept (unhide HG9) K10 (fun b e => own_apart (unhide HG9) (unhide HO29) (by decide) e)
                   have HO10 := own_kept (unhide HO9) K10 (fun b e => own_apart (unhide HO9) (unhide HO29) (by decide) e)
                   have HLL := hide (HLS10.snoc (by have h1 := (unhide HO1).1; have h2 := (unhide HO2).1; omega) (L := List.replicate (l.length + 64) (mark k)) (by simp; omega) (by rw [List.length_replicate]; exact HG10) (by rw [List.length_replicate]; exact HO10))
                   have HNE : Hid (gK ≠ gW) := fun e => by
                     rcases hat10 with h | h
                     · exact (unhide HA9) (by rw [e]; exact h)
                     · omega
                   have HK10 : Hid (Keeps (fun _ => False) w w10) := ((unhide HK9).alloc _).grown hgrow10 (fun q e hq => by have := ((unhide HO29).lt q e).1; omega)
                   have HGL : Hid (gs.length = k) := by have h1 := (unhide HO1).1; show _ = _; omega
                   clear K10 hown10 hgrow10 hat10 HLS10 HG10 HO10 HO29 HO28 HO18 HLS8 HLS9 HKW8 HG8 HG9 HO8 HO9 HK9 HKK9))
              go_loopw [22] (fun i wq => ∃ m : Nat, m ≤ k + 1 ∧ i = .int .i64 m ∧ Keeps (fun _ => False) w10 wq) (fun i _ => k + 1 - (intOf i).toNat)
              case atStart => exact ⟨0, Nat.zero_le _, rfl, Keeps.refl _ _⟩
              case round =>
                obtain ⟨m, hm', rfl, hkq⟩ := hrel
                have HKQ := hide hkq
                by_cases hmk : m < k + 1
                · obtain ⟨x, hx⟩ : ∃ x, (gs ++ [Value.slice (some ⟨g, 0, none⟩) (l.length + 64) cap])[m]? = some x := ⟨_, List.getElem?_eq_getElem (by rw [List.length_append, unhide HGL]; exact hmk)⟩
                  obtain ⟨y, L, hy, hL, hox, hoy⟩ := (unhide HLL).at' m x hx
                  have cA : ∀ n : KW wr, n.wd.cell? ⟨gK, m, none⟩ = some x := fun n => own_cell (owns_keep (unhide HKK) (hkq.trans n.kept)) hx
                  have cB : ∀ n : KW wr, n.wd.cell? ⟨gW, m, none⟩ = some y := fun n => own_cell (owns_keep (unhide HWW) (hkq.trans n.kept)) hy
                  have HQ : Hid (∀ n : KW wr, Calls Tryz.prog 7 #[x, y] n.wd fun e w' => e = .returned (.bool true) ∧ ∃ m : KW wr, w' = m.wd) := fun n => kw_of n (eqTokens_same n.wd x y L (rowAt_own (owns_keep hox (hkq.trans n.kept))) (rowAt_own (owns_keep hoy (hkq.trans n.kept))) (by omega))
                  have i5 : (m : Int) < (k : Int) + 1 := by omega
                  have i6 : (0 : Int) ≤ (m : Int) := by omega
                  clear hx hy hox hoy hkq hL
                  go_wp2_with fail
                  refine region_kept (by kernel_rfl) (by kernel_rfl) ?_
                  repeat (go_big_quiet_step ((go_at_call 7; exact unhide HQ _)))
                  refine wpQuiet_nil ?_
                  rintro _ ⟨nq, rfl⟩
                  go_wp2_with fail
                  go_roundw
                  case rel => exact ⟨m + 1, by omega, by go_num, (unhide HKQ).trans nq.kept⟩
                  case measure => simp [intOf]; omega
                · obtain rfl : m = k + 1 := by omega
                  have i5 : ¬ ((k + 1 : Nat) : Int) < (k : Int) + 1 := by omega
                  clear hkq
                  go_wp2_with fail
                  go_roundw
                  case rel =>
                    refine ⟨k + 1, gs ++ [Value.slice (some ⟨g, 0, none⟩) (l.length + 64) cap], ws ++ [Value.slice (some ⟨o, 0, none⟩) (l.length + 64) capo], by omega, by go_num, owns_keep (unhide HKK) (unhide HKQ), owns_keep (unhide HWW) (unhide HKQ), ?_, (unhide HLL).keepF (unhide HKQ), (unhide HK10).trans (unhide HKQ)⟩
                    intro b e e'
                    have h1 : gK = b := by simpa [Value.ownBlock] using e
                    have h2 : gW = b := by simpa [Value.ownBlock] using e'
                    exact (unhide HNE) (h1.trans h2.symm)
                  case measure => simp [intOf]; omega
    · obtain rfl : k = ts.length := by omega
      have HQ := hide (lex_v [97] (by decide) wr ((unhide HE).keepF hkp))
      have f1 : (lexP [97]).1.length = 1 := by decide +kernel
      have f2 : (lexP [97]).2.1 = 0 := by decide +kernel
      generalize lexP [97] = D at *
      obtain ⟨l, er, a⟩ := D
      simp only at HQ f1 f2
      subst f2
      clear hkp
      go_wp2_with fail
      refine (unhide HQ).mono ?_
      rintro e w4 ⟨v1, rfl, o1, k1⟩
      rw [f1] at o1
      obtain ⟨ao1, cap1, rfl⟩ := RowAt.form (rowAt_own o1)
      have HKE := hide ((unhide HK).trans k1)
      clear o1 k1 HQ
      go_wp2_with fail
      all_goals
        go_ret
        exact ⟨rfl, unhide HKE⟩
end Go.Proofs.YtbgapbaeegloaabGreatDoor
