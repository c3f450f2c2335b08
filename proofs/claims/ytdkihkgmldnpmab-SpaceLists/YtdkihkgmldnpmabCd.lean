import Derived.Test.YtdkihkgmldnpmabCc
namespace Go.Proofs.Ytdkihkgmldnpmab
open Go.RowKit Go.Maps

def m7 (i : Nat) : Int := 7000 + (i : Int)
def m8 (i : Nat) : Int := 8000 + (i : Int)
def n7 (i : Nat) : Int := (i : Int)
def n8 (i : Nat) : Int := 200 + (i : Int) % 50

set_option maxRecDepth 100000 in
set_option maxHeartbeats 16000000 in
theorem apart_any (w : World) (B : Nat) (k : Kp) (cl cb : Nat → List Int) (h : KeptAt w B k cl cb) (hB : B ≤ w.heap.size) :
    Calls Try.prog 22 #[.pointer (some ⟨k.K, 0, none⟩)] w fun e w' => e = .returned (.bool true) ∧ Keeps (fun x => k.F x) w w' := by
  obtain ⟨j51, hi1, hy0, hy1, hy2⟩ := info_parts Try.info51
  obtain ⟨j37, hi2, hx0, hx1, hx2⟩ := info_parts Try.info37
  obtain ⟨j3, hi3, hz0, hz1, hz2⟩ := info_parts Try.info3
  obtain ⟨j5, hi5, hv0, hv1, hv2⟩ := info_parts Try.info5
  obtain ⟨K, lv, bv, ll, bl⟩ := k
  simp only
  obtain ⟨lo', lc, e1, _⟩ := own_form h.rl
  obtain ⟨bo', bc, e2, _⟩ := own_form h.rb
  simp only at e1 e2
  subst e1 e2
  obtain ⟨kF, hkF⟩ : ∃ kF : Nat → Prop, kF = Kp.F ⟨K, .slice lo' ll.length lc, .slice bo' bl.length bc, ll, bl⟩ := ⟨_, rfl⟩
  rw [show (fun x => Kp.F ⟨K, .slice lo' ll.length lc, .slice bo' bl.length bc, ll, bl⟩ x) = kF from hkF.symm]
  have hm : ll.length ≤ 200 := h.most
  have HNLB : Hid (bl.length = ll.length) := h.nlb
  have HF := hide hkF
  have HH := hide h
  clear h hkF
  go_enter Try.func22, Try.ntmps22
  go_wp2_with fail
  go_loopw [3] (fun iv wr => ∃ i : Nat, i ≤ ll.length ∧ iv = .int .i64 i ∧ KeptAt wr B ⟨K, .slice lo' ll.length lc, .slice bo' bl.length bc, ll, bl⟩ (mk m7 cl i 0) (mk n7 cb i 0) ∧ Keeps kF w wr) (fun iv _ => ll.length - (intOf iv).toNat)
  case atStart => exact ⟨0, Nat.zero_le _, rfl, by rw [mk_zero, mk_zero]; exact unhide HH, Keeps.refl _ _⟩
  case round =>
    obtain ⟨i, hi, rfl, hK, hKp⟩ := hrel
    have c0 := cell_of_blk hK.blk 0
    simp at c0
    by_cases hlt : i < ll.length
    · obtain ⟨p, hp⟩ : ∃ p, ll[i]? = some p := ⟨_, List.getElem?_eq_getElem hlt⟩
      obtain ⟨q, hq⟩ : ∃ q, bl[i]? = some q := ⟨_, List.getElem?_eq_getElem (by have := unhide HNLB; omega)⟩
      obtain ⟨g0, cp1, e1, d1⟩ := row_at hK.rl hp
      obtain ⟨h0, cp2, e2, d2⟩ := row_at hK.rb hq
      simp at e1 e2
      obtain ⟨rfl, rfl⟩ := e1
      obtain ⟨rfl, rfl⟩ := e2
      have hrp := hK.sl.row i p hp
      have hrq := hK.sb.row i q hq
      rw [mk_len _ _ (Nat.zero_le _)] at hrp hrq
      have hnp := hK.sl.sm i p hp
      have hnq := hK.sb.sm i q hq
      rw [mk_len _ _ (Nat.zero_le _)] at hnp hnq
      obtain ⟨po, pc, rfl, _⟩ := own_form hrp
      obtain ⟨qo, qc, rfl, _⟩ := own_form hrq
      obtain ⟨n, hn⟩ : ∃ n, n = (cl i).length := ⟨_, rfl⟩
      obtain ⟨m, hmm⟩ : ∃ m, m = (cb i).length := ⟨_, rfl⟩
      rw [← hn] at hp hrp hnp d1
      rw [← hmm] at hq hrq hnq d2
      have i1 : (i : Int) < (ll.length : Int) := by omega
      have i0 : (0 : Int) ≤ (i : Int) := by omega
      have i2 : (i : Int) < (bl.length : Int) := by have := unhide HNLB; omega
      have i3 : (i : Int) < 200 := by omega
      have HK := hide hK
      have HKp := hide hKp
      have HP := hide hp
      have HQ := hide hq
      have HN := hide hn
      have HM := hide hmm
      clear hK hKp hrp hrq hp hq hn hmm d1 d2
      go_wp2_with fail
      obtain ⟨wo, hwo⟩ : ∃ wo : World, wo = wr := ⟨_, rfl⟩
      rw [← hwo]
      rw [← hwo] at HK HKp c0
      clear hwo wr
      go_loopw [4] (fun jv wr => ∃ j : Nat, j ≤ n ∧ jv = .int .i64 j ∧ KeptAt wr B ⟨K, .slice (some ⟨g0, 0, none⟩) ll.length lc, .slice (some ⟨h0, 0, none⟩) bl.length bc, ll, bl⟩ (mk m7 cl i j) (mk n7 cb i 0) ∧ Keeps kF w wr) (fun jv _ => n - (intOf jv).toNat)
      case atStart => exact ⟨0, Nat.zero_le _, rfl, unhide HK, unhide HKp⟩
      case round =>
        obtain ⟨j, hj, rfl, hK, hKp⟩ := hrel
        have c0 := cell_of_blk hK.blk 0
        have c1 := cell_of_blk hK.blk 1
        simp at c0 c1
        obtain ⟨_, _, e1, d1⟩ := row_at hK.rl (unhide HP)
        simp at e1
        obtain ⟨rfl, rfl⟩ := e1
        by_cases hjn : j < n
        · have hrp := hK.sl.row i _ (unhide HP)
          rw [mk_len _ _ (by rw [← unhide HN]; omega), ← unhide HN] at hrp
          obtain ⟨g, _, e1, hg1, hg2⟩ := hrp.form (by omega)
          simp at e1
          obtain ⟨rfl, rfl⟩ := e1
          have j1 : (j : Int) < (n : Int) := by omega
          have j0 : (0 : Int) ≤ (j : Int) := by omega
          obtain ⟨ug, cg⟩ : ∃ u, wr.cell? ⟨g, j, none⟩ = some u := by
            obtain ⟨u, hu⟩ : ∃ u, (is (mk m7 cl i j i))[j]? = some u := ⟨_, List.getElem?_eq_getElem (by rw [is_length, mk_len _ _ (by rw [← unhide HN]; omega), ← unhide HN]; omega)⟩
            exact ⟨u, (rowC hrp).2.2 j u hu⟩
          have fg : wr.frozen? ⟨g, j, none⟩ = false := rowFrozen hrp j
          have hnew : KeptAt (wr.setCell ⟨g, j, none⟩ (.int .i64 (7000 + (i : Int)))) B ⟨K, .slice (some ⟨g0, 0, none⟩) ll.length lc, .slice (some ⟨h0, 0, none⟩) bl.length bc, ll, bl⟩ (mk m7 cl i (j + 1)) (mk n7 cb i 0) := by
            refine hK.setL (unhide HP) (fun q hq => mk_oth _ _ _ _ hq) ?_ ?_
            · rw [mk_len _ _ (by rw [← unhide HN]; omega), mk_len _ _ (by rw [← unhide HN]; omega)]
            · rw [mk_at, mk_at]; exact (mark_is (cl i) j (m7 i) (by rw [← unhide HN]; omega)).symm
          have hkn : Keeps kF w (wr.setCell ⟨g, j, none⟩ (.int .i64 (7000 + (i : Int)))) := hKp.trans ((kD wr g j _).mono (fun x _ e => by rw [e, unhide HF]; exact Or.inl ⟨i, _, unhide HP, rfl⟩))
          have HNEW := hide hnew
          have HKN := hide hkn
          clear hnew hkn hK hKp hrp
          go_wp2
          go_roundw
          case rel => exact ⟨j + 1, by omega, by go_num, unhide HNEW, unhide HKN⟩
          case measure => simp [intOf]; omega
        · obtain rfl : j = n := by omega
          clear hjn hj
          rw [unhide HN, mk_next] at hK
          have HK := hide hK
          have HKp := hide hKp
          clear hK hKp
          go_wp2_with fail
          clear c0 c1 d1
          obtain ⟨wo, hwo⟩ : ∃ wo : World, wo = wr := ⟨_, rfl⟩
          rw [← hwo]
          rw [← hwo] at HK HKp
          clear hwo wr
          go_loopw [5] (fun jv wr => ∃ j : Nat, j ≤ m ∧ jv = .int .i64 j ∧ KeptAt wr B ⟨K, .slice (some ⟨g0, 0, none⟩) ll.length lc, .slice (some ⟨h0, 0, none⟩) bl.length bc, ll, bl⟩ (mk m7 cl (i + 1) 0) (mk n7 cb i j) ∧ Keeps kF w wr) (fun jv _ => m - (intOf jv).toNat)
          case atStart => exact ⟨0, Nat.zero_le _, rfl, unhide HK, unhide HKp⟩
          case round =>
            obtain ⟨j, hj, rfl, hK, hKp⟩ := hrel
            have c1 := cell_of_blk hK.blk 1
            simp at c1
            obtain ⟨_, _, e1, d1⟩ := row_at hK.rb (unhide HQ)
            simp at e1
            obtain ⟨rfl, rfl⟩ := e1
            by_cases hjn : j < m
            · have hrq := hK.sb.row i _ (unhide HQ)
              rw [mk_len _ _ (by rw [← unhide HM]; omega), ← unhide HM] at hrq
              obtain ⟨g, _, e1, hg1, hg2⟩ := hrq.form (by omega)
              simp at e1
              obtain ⟨rfl, rfl⟩ := e1
              have j1 : (j : Int) < (m : Int) := by omega
              have j0 : (0 : Int) ≤ (j : Int) := by omega
              obtain ⟨ug, cg⟩ : ∃ u, wr.cell? ⟨g, j, none⟩ = some u := by
                obtain ⟨u, hu⟩ : ∃ u, (bs (mk n7 cb i j i))[j]? = some u := ⟨_, List.getElem?_eq_getElem (by rw [bs_length, mk_len _ _ (by rw [← unhide HM]; omega), ← unhide HM]; omega)⟩
                exact ⟨u, (rowC hrq).2.2 j u hu⟩
              have fg : wr.frozen? ⟨g, j, none⟩ = false := rowFrozen hrq j
              have hnew : KeptAt (wr.setCell ⟨g, j, none⟩ (.int .u8 (i : Int))) B ⟨K, .slice (some ⟨g0, 0, none⟩) ll.length lc, .slice (some ⟨h0, 0, none⟩) bl.length bc, ll, bl⟩ (mk m7 cl (i + 1) 0) (mk n7 cb i (j + 1)) := by
                refine hK.setB (unhide HQ) (fun q hq => mk_oth _ _ _ _ hq) ?_ ?_
                · rw [mk_len _ _ (by rw [← unhide HM]; omega), mk_len _ _ (by rw [← unhide HM]; omega)]
                · rw [mk_at, mk_at]; exact (mark_bs (cb i) j (n7 i) (by rw [← unhide HM]; omega)).symm
              have hkn : Keeps kF w (wr.setCell ⟨g, j, none⟩ (.int .u8 (i : Int))) := hKp.trans ((kD wr g j _).mono (fun x _ e => by rw [e, unhide HF]; exact Or.inr ⟨i, _, unhide HQ, rfl⟩))
              have i4 : (i : Int) % 256 = (i : Int) := by omega
              have HNEW := hide hnew
              have HKN := hide hkn
              clear hnew hkn hK hKp hrq
              go_wp2
              go_roundw
              case rel => exact ⟨j + 1, by omega, by go_num, unhide HNEW, unhide HKN⟩
              case measure => simp [intOf]; omega
            · obtain rfl : j = m := by omega
              clear hjn hj
              rw [unhide HM, mk_next] at hK
              have HK := hide hK
              have HKp := hide hKp
              clear hK hKp
              go_wp2
              go_roundw
              case rel => exact ⟨i + 1, by omega, by go_num, unhide HK, unhide HKp⟩
              case measure => simp [intOf]; omega
    · obtain rfl : i = ll.length := by omega
      clear hlt hi
      obtain ⟨nl, hnl⟩ : ∃ nl : Nat → Nat, nl = fun q => (cl q).length := ⟨_, rfl⟩
      obtain ⟨nb', hnb⟩ : ∃ nb' : Nat → Nat, nb' = fun q => (cb q).length := ⟨_, rfl⟩
      have hsl : Half wr B wr.heap.size 3 is ll [] nl m7 m8 := Half.start hK.sl (fun q hq => by rw [mk_done _ _ hq, hnl]) rfl
      have hsb : Half wr B wr.heap.size 5 bs bl [] nb' n7 n8 := Half.start hK.sb (fun q hq => by rw [mk_done _ _ (by rw [unhide HNLB] at hq; exact hq), hnb]) rfl
      have HSM : Hid (∀ (q : Nat) (p : Value), ll[q]? = some p → nl q ≤ 2048) := fun q p hp => by have := hK.sl.sm q p hp; rw [mk_len _ _ (Nat.zero_le _)] at this; rw [hnl]; exact this
      have HSN : Hid (∀ (q : Nat) (p : Value), bl[q]? = some p → nb' q ≤ 2048) := fun q p hp => by have := hK.sb.sm q p hp; rw [mk_len _ _ (Nat.zero_le _)] at this; rw [hnb]; exact this
      have HSL := hide hsl
      have HSB := hide hsb
      have HK2 := hide hK
      have HKp2 := hide hKp
      have hBw : B ≤ wr.heap.size := Nat.le_trans hB hKp.size
      clear hK hKp hsl hsb hnl hnb
      go_wp2_with fail
      clear c0
      obtain ⟨w2, hw2⟩ : ∃ w2 : World, w2 = wr := ⟨_, rfl⟩
      rw [← hw2]
      rw [← hw2] at HSL HSB HK2 HKp2 hBw
      clear hw2 wr
      go_loopw [6, 7, 8] (fun lw bw iv wr => ∃ (i : Nat) (gl hl : List Value), i ≤ ll.length ∧ iv = .int .i64 i ∧ gl.length = i ∧ hl.length = i ∧ wr.ownsRow w2.heap.size 51 1 lw i gl ∧ wr.ownsRow w2.heap.size 37 1 bw i hl ∧ Half wr B w2.heap.size 3 is ll gl nl m7 m8 ∧ Half wr B w2.heap.size 5 bs bl hl nb' n7 n8 ∧ Keeps kF w2 wr) (fun _ _ iv _ => ll.length - (intOf iv).toNat)
      case atStart => exact ⟨0, [], [], Nat.zero_le _, rfl, rfl, rfl, by simpa using World.ownsRow_nil w2 w2.heap.size 51 1, by simpa using World.ownsRow_nil w2 w2.heap.size 37 1, unhide HSL, unhide HSB, Keeps.refl _ _⟩
      case round =>
        obtain ⟨i, gl, hl, hi, rfl, hgl, hhl, hrl, hrb, h3, h5, hKp⟩ := hrel
        obtain ⟨hblk, hrL, hrB⟩ := (unhide HK2).read (by rw [← unhide HF]; exact hKp)
        simp only at hblk hrL hrB
        have c0 := cell_of_blk hblk 0
        have c1 := cell_of_blk hblk 1
        simp at c0 c1
        by_cases hlt : i < ll.length
        · obtain ⟨p, hp⟩ : ∃ p, ll[i]? = some p := ⟨_, List.getElem?_eq_getElem hlt⟩
          obtain ⟨q, hq⟩ : ∃ q, bl[i]? = some q := ⟨_, List.getElem?_eq_getElem (by have := unhide HNLB; omega)⟩
          obtain ⟨g0, cp1, e1, d1⟩ := row_at hrL hp
          obtain ⟨h0, cp2, e2, d2⟩ := row_at hrB hq
          simp at e1 e2
          obtain ⟨rfl, rfl⟩ := e1
          obtain ⟨rfl, rfl⟩ := e2
          have hrp := h3.rest i p (by omega) hp
          have hrq := h5.rest i q (by omega) hq
          have hnp := unhide HSM i p hp
          have hnq := unhide HSN i q hq
          have o3 : OneG wr wr B 3 is p p (nl i) 0 (m7 i) (m8 i) := OneG.start hrp (by simp [is])
          have o5 : OneG wr wr B 5 bs q q (nb' i) 0 (n7 i) (n8 i) := OneG.start hrq (by simp [bs])
          obtain ⟨po, pc, rfl, hpo⟩ := own_form hrp
          obtain ⟨qo, qc, rfl, hqo⟩ := own_form hrq
          obtain ⟨n, hn⟩ : ∃ n, n = nl i := ⟨_, rfl⟩
          obtain ⟨m, hmm⟩ : ∃ m, m = nb' i := ⟨_, rfl⟩
          rw [← hn] at hp hrp hnp d1 o3
          rw [← hmm] at hq hrq hnq d2 o5
          have i1 : (i : Int) < (ll.length : Int) := by omega
          have i0 : (0 : Int) ≤ (i : Int) := by omega
          have i2 : (i : Int) < (bl.length : Int) := by have := unhide HNLB; omega
          have i3 : (i : Int) < 200 := by omega
          have HP := hide hp
          have HQ := hide hq
          have HN := hide hn
          have HM := hide hmm
          have HPO : Hid (∃ ao cap, Value.slice po n pc = .slice ao n cap ∧ ∀ a, ao = some a → a.off = 0 ∧ a.spot = none) := ⟨_, _, rfl, hpo⟩
          have HQO : Hid (∃ ao cap, Value.slice qo m qc = .slice ao m cap ∧ ∀ a, ao = some a → a.off = 0 ∧ a.spot = none) := ⟨_, _, rfl, hqo⟩
          have H3 := hide h3
          have H5 := hide h5
          have HKp := hide hKp
          have HRL := hide hrl
          have HRB := hide hrb
          have HO3 := hide o3
          have HO5 := hide o5
          have HGL := hide hgl
          have HHL := hide hhl
          clear hp hq hn hmm hpo hqo h3 h5 hKp hrl hrb o3 o5 hrp hrq hrL hrB hblk hgl hhl
          go_wp2_with fail
          clear c0 c1 d1 d2
          obtain ⟨wi, hwi⟩ : ∃ wi : World, wi = wr := ⟨_, rfl⟩
          rw [← hwi]
          rw [← hwi] at H3 H5 HKp HRL HRB HO3 HO5
          clear hwi wr
          go_loopw [9, 10, 11] (fun gv hv jv wx => ∃ j : Nat, j ≤ 64 ∧ jv = .int .i64 j ∧ OneG wi wx B 3 is (.slice po n pc) gv n j (m7 i) (m8 i) ∧ OneG wi wx B 5 bs (.slice qo m qc) hv m j (n7 i) (n8 i) ∧ Keeps (fun x => (Value.slice po n pc).ownBlock = some x ∨ (Value.slice qo m qc).ownBlock = some x) wi wx) (fun _ _ jv _ => 64 - (intOf jv).toNat)
          case atStart => exact ⟨0, by omega, rfl, unhide HO3, unhide HO5, Keeps.refl _ _⟩
          case round =>
            obtain ⟨j, hj, rfl, o3, o5, hkx⟩ := hrel
            have O3 := hide o3
            have O5 := hide o5
            have HKX := hide hkx
            have hwx := hkx.size
            have hBi : B ≤ wi.heap.size := Nat.le_trans hBw (unhide HKp).size
            clear o3 o5 hkx
            by_cases hj64 : j < 64
            · have j1 : (j : Int) < 64 := by omega
              go_wp2_with (first
                | (at_builtin
                   refine wpList_append_two _ rfl _ _ _ rfl B 3 j3 _ 1 8 Try.underlying51 hi3 hz0 hz1 hz2 rfl (by omega) u9 (n + j) (is (List.replicate n (m7 i) ++ List.replicate j (m8 i))) rfl ((unhide O3).row.alloc _) ⟨wr.heap.size, 0, none⟩ 1 1 [.int .i64 (8000 + (i : Int))] rfl rfl (World.news_of_block (cs := #[.int .i64 (8000 + (i : Int))]) (t := 3) (fr := (0, 0)) (heap_alloc_new wr _)) (by simp [Value.oneCell']) (by omega) (by unfold maxLen; omega) (by omega) (by simp; omega) (wr.heap.size + 1) (by simp) ?_
                   intro g' cap' wy hown' hcase hlt'
                   have hgr := (unhide O3).grow is_append rfl (unhide HPO) hown' hcase hwx
                   have hk5 := (unhide O5).keep hgr.2 (fun x c hx e => by obtain ⟨_, c', h'⟩ := rowBlock (unhide O3).row e; exact blk_ne hx h' (by decide) rfl)
                   have hwy : wi.heap.size ≤ wy.heap.size := Nat.le_trans hwx hgr.2.size
                   have OY3 := hide hgr
                   have OY5 := hide hk5
                   clear hown' hcase hgr hk5)
                | (at_builtin
                   refine wpList_append_two _ rfl _ _ _ rfl B 5 j5 _ 1 1 Try.underlying37 hi5 hv0 hv1 hv2 rfl (by omega) u10 (m + j) (bs (List.replicate m (n7 i) ++ List.replicate j (n8 i))) rfl ((unhide OY5).row.alloc _) ⟨wy.heap.size, 0, none⟩ 1 1 [.int .u8 (200 + (i : Int) % 50)] rfl rfl (World.news_of_block (cs := #[.int .u8 (200 + (i : Int) % 50)]) (t := 5) (fr := (0, 0)) (heap_alloc_new wy _)) (by simp [Value.oneCell']) (by omega) (by unfold maxLen; omega) (by omega) (by simp; omega) (wy.heap.size + 1) (by simp) ?_
                   intro g2 cap2 wz hown2 hcase2 hlt2
                   have hgr2 := (unhide OY5).grow bs_append rfl (unhide HQO) hown2 hcase2 hwy
                   have hk3 := (unhide OY3).1.keep hgr2.2 (fun x c hx e => by obtain ⟨_, c', h'⟩ := rowBlock (unhide OY5).row e; exact blk_ne hx h' (by decide) rfl)
                   have OZ5 := hide hgr2
                   have OZ3 := hide hk3
                   clear hown2 hcase2 hgr2 hk3))
              go_roundw
              case rel =>
                refine ⟨j + 1, by omega, by go_num, unhide OZ3, (unhide OZ5).1, ?_⟩
                refine ((unhide HKX).then (unhide OY3).2 (fun x hx e => ?_)).then (unhide OZ5).2 (fun x hx e => ?_)
                · exact ((unhide O3).blk x e).elim Or.inl (fun h => by omega)
                · exact ((unhide OY5).blk x e).elim Or.inr (fun h => by omega)
              case measure => simp [intOf]; omega
            · obtain rfl : j = 64 := by omega
              clear hj64 hj
              have o3 := unhide O3
              have o5 := unhide O5
              have h3 := unhide H3
              have h5 := unhide H5
              have hgl := unhide HGL
              have hhl := unhide HHL
              have tp3 : ∀ x, (Value.slice po n pc).ownBlock = some x → x < w2.heap.size ∧ ∃ c, wi.heap[x]? = some (.cells c 3 (0, 0)) := h3.typ i _ (unhide HP)
              have tp5 : ∀ x, (Value.slice qo m qc).ownBlock = some x → x < w2.heap.size ∧ ∃ c, wi.heap[x]? = some (.cells c 5 (0, 0)) := h5.typ i _ (unhide HQ)
              have hwi2 : w2.heap.size ≤ wi.heap.size := (unhide HKp).size
              have n3 : Half wr B w2.heap.size 3 is ll (gl ++ [u9]) nl m7 m8 := by
                subst hgl
                refine h3.next (unhide HP) (P := fun x => (Value.slice qo m qc).ownBlock = some x) (unhide HKX) (fun x c hx e => ?_) ?_ (by simp [is]) hwi2
                · obtain ⟨_, c', h'⟩ := tp5 x e; exact blk_ne hx h' (by decide) rfl
                · rw [← unhide HN]; exact o3
              have n5 : Half wr B w2.heap.size 5 bs bl (hl ++ [u10]) nb' n7 n8 := by
                have hhl' := hhl
                clear hgl
                subst hhl
                refine h5.next (unhide HQ) (P := fun x => (Value.slice po n pc).ownBlock = some x) ((unhide HKX).mono (fun x _ e => e.symm)) (fun x c hx e => ?_) ?_ (by simp [bs]) hwi2
                · obtain ⟨_, c', h'⟩ := tp3 x e; exact blk_ne hx h' (by decide) rfl
                · rw [← unhide HM]; exact o5
              have hkF : Keeps kF w2 wr := (unhide HKp).trans ((unhide HKX).mono (fun x _ e => by rw [unhide HF]; exact e.elim (fun e => Or.inl ⟨i, _, unhide HP, e⟩) (fun e => Or.inr ⟨i, _, unhide HQ, e⟩)))
              have rl' := ownsRow_kept (unhide HRL) (unhide HKX) (fun x hx e => by
                have h1 := ((unhide HRL).lt x hx).1
                exact e.elim (fun e => by have := (tp3 x e).1; omega) (fun e => by have := (tp5 x e).1; omega))
              have rb' := ownsRow_kept (unhide HRB) (unhide HKX) (fun x hx e => by
                have h1 := ((unhide HRB).lt x hx).1
                exact e.elim (fun e => by have := (tp3 x e).1; omega) (fun e => by have := (tp5 x e).1; omega))
              obtain ⟨go', gc, rfl, _⟩ := own_form o3.row
              obtain ⟨ho', hc, rfl, _⟩ := own_form o5.row
              have N3 := hide n3
              have N5 := hide n5
              have HKF := hide hkF
              have RL' := hide rl'
              have RB' := hide rb'
              have hw2r : w2.heap.size ≤ wr.heap.size := hkF.size
              clear o3 o5 h3 h5 hgl hhl tp3 tp5 n3 n5 hkF rl' rb' O3 O5 HKX H3 H5 HKp HRL HRB HO3 HO5
              go_wp2_with (first
                | (at_builtin
                   refine wpList_append_lies _ rfl _ _ _ rfl w2.heap.size 51 j51 _ 1 24 Try.underlying32 hi1 hy0 hy1 hy2 rfl (by omega) u6 i gl rfl ((unhide RL').alloc _) ⟨wr.heap.size, 0, none⟩ 1 1 [.slice go' (n + 64) gc] rfl rfl (World.news_of_block (cs := #[.slice go' (n + 64) gc]) (t := 51) (fr := (0, 0)) (heap_alloc_new wr _)) (by simp [Value.oneCell']) (by omega) (by unfold maxLen; omega) (by omega) (by simp; omega) (wr.heap.size + 1) (by simp) ?_
                   intro g1 cap1 wa hrl1 hgr1 hat1 hlt1
                   have ka : Keeps (fun x => u6.ownBlock = some x) wr wa := ((Keeps.refl _ wr).alloc _).grown hgr1 (fun q e _ => e)
                   have na3 := (unhide N3).keep ka (fun x c hx e => by obtain ⟨_, c', h'⟩ := rowBlock (unhide RL') e; exact blk_ne hx h' (by decide) rfl)
                   have na5 := (unhide N5).keep ka (fun x c hx e => by obtain ⟨_, c', h'⟩ := rowBlock (unhide RL') e; exact blk_ne hx h' (by decide) rfl)
                   have rba := ownsRow_kept (unhide RB') ka (fun x hx e => row_ne (unhide RL') (unhide RB') (by decide) e hx)
                   have kfa := (unhide HKF).then ka (fun x hx e => by have := ((unhide RL').lt x e).1; omega)
                   have NA3 := hide na3
                   have NA5 := hide na5
                   have RBA := hide rba
                   have KFA := hide kfa
                   have RLA := hide hrl1
                   have hwa : w2.heap.size ≤ wa.heap.size := kfa.size
                   clear ka na3 na5 rba kfa hrl1 hgr1 hat1)
                | (at_builtin
                   refine wpList_append_lies _ rfl _ _ _ rfl w2.heap.size 37 j37 _ 1 24 Try.underlying33 hi2 hx0 hx1 hx2 rfl (by omega) u7 i hl rfl ((unhide RBA).alloc _) ⟨wa.heap.size, 0, none⟩ 1 1 [.slice ho' (m + 64) hc] rfl rfl (World.news_of_block (cs := #[.slice ho' (m + 64) hc]) (t := 37) (fr := (0, 0)) (heap_alloc_new wa _)) (by simp [Value.oneCell']) (by omega) (by unfold maxLen; omega) (by omega) (by simp; omega) (wa.heap.size + 1) (by simp) ?_
                   intro g2 cap2 wb hrb1 hgr2 hat2 hlt2
                   have kb : Keeps (fun x => u7.ownBlock = some x) wa wb := ((Keeps.refl _ wa).alloc _).grown hgr2 (fun q e _ => e)
                   have nb3 := (unhide NA3).keep kb (fun x c hx e => by obtain ⟨_, c', h'⟩ := rowBlock (unhide RBA) e; exact blk_ne hx h' (by decide) rfl)
                   have nb5 := (unhide NA5).keep kb (fun x c hx e => by obtain ⟨_, c', h'⟩ := rowBlock (unhide RBA) e; exact blk_ne hx h' (by decide) rfl)
                   have rlb := ownsRow_kept (unhide RLA) kb (fun x hx e => row_ne (unhide RLA) (unhide RBA) (by decide) hx e)
                   have kfb := (unhide KFA).then kb (fun x hx e => by have := ((unhide RBA).lt x e).1; omega)
                   have NB3 := hide nb3
                   have NB5 := hide nb5
                   have RLB := hide rlb
                   have KFB := hide kfb
                   have RBB := hide hrb1
                   clear kb nb3 nb5 rlb kfb hrb1 hgr2 hat2))
              go_roundw
              case rel => exact ⟨i + 1, gl ++ [_], hl ++ [_], by omega, by go_num, by have := unhide HGL; simp; omega, by have := unhide HHL; simp; omega, unhide RLB, unhide RBB, unhide NB3, unhide NB5, unhide KFB⟩
              case measure => simp [intOf]; omega
        · obtain rfl : i = ll.length := by omega
          clear hlt hi
          obtain ⟨lwo, lwc, rfl, _⟩ := own_form hrl
          obtain ⟨bwo, bwc, rfl, _⟩ := own_form hrb
          have H3 := hide h3
          have H5 := hide h5
          have HRL := hide hrL
          have HRB := hide hrB
          have HRl := hide hrl
          have HRb := hide hrb
          have HGL := hide hgl
          have HHL := hide hhl
          have HKF := hide ((unhide HKp2).trans hKp)
          clear h3 h5 hrL hrB hrl hrb hgl hhl hKp HSL HSB HK2 HKp2 hblk
          go_wp2_with fail
          go_loop [12] (fun iv => ∃ i : Nat, i ≤ ll.length ∧ iv = .int .i64 i) (fun iv => ll.length - (intOf iv).toNat)
          case atStart => exact ⟨0, Nat.zero_le _, rfl⟩
          case round =>
            obtain ⟨i, hi, rfl⟩ := hrel
            by_cases hlt : i < ll.length
            · obtain ⟨p, hp⟩ : ∃ p, ll[i]? = some p := ⟨_, List.getElem?_eq_getElem hlt⟩
              obtain ⟨q, hq⟩ : ∃ q, bl[i]? = some q := ⟨_, List.getElem?_eq_getElem (by have := unhide HNLB; omega)⟩
              obtain ⟨g, hg⟩ : ∃ g, gl[i]? = some g := ⟨_, List.getElem?_eq_getElem (by have := unhide HGL; omega)⟩
              obtain ⟨h, hh⟩ : ∃ h, hl[i]? = some h := ⟨_, List.getElem?_eq_getElem (by have := unhide HHL; omega)⟩
              obtain ⟨g0, cp1, e1, d1⟩ := row_at (unhide HRL) hp
              obtain ⟨h0, cp2, e2, d2⟩ := row_at (unhide HRB) hq
              have hrl' := unhide HRl
              have hrb' := unhide HRb
              rw [← unhide HGL] at hrl'
              rw [← unhide HHL] at hrb'
              obtain ⟨g9, cp3, e3, d3⟩ := row_at hrl' hg
              obtain ⟨h9, cp4, e4, d4⟩ := row_at hrb' hh
              simp at e1 e2
              simp at e3 e4
              obtain ⟨rfl, rfl⟩ := e1
              obtain ⟨rfl, rfl⟩ := e2
              have hlw := e3.1
              have hbw := e4.1
              subst hlw hbw
              obtain ⟨k1, k2⟩ := (unhide H3).done i p g hp hg
              obtain ⟨k3, k4⟩ := (unhide H5).done i q h hq hh
              have hnp := unhide HSM i p hp
              have hnq := unhide HSN i q hq
              obtain ⟨n, hn⟩ : ∃ n, n = nl i := ⟨_, rfl⟩
              obtain ⟨m, hmm⟩ : ∃ m, m = nb' i := ⟨_, rfl⟩
              rw [← hn] at k1 k2 hnp
              rw [← hmm] at k3 k4 hnq
              obtain ⟨po, pc, rfl⟩ := k1.form
              obtain ⟨qo, qc, rfl⟩ := k3.form
              obtain ⟨gb, gf, gc, rfl, _, kg⟩ := k2.cells (by rw [is_length]; simp)
              obtain ⟨hb, hf, hc, rfl, _, kh⟩ := k4.cells (by rw [bs_length]; simp)
              have e5 : (is (List.replicate n (m7 i))).length = n := by simp [is]
              have e6 : (bs (List.replicate m (n7 i))).length = m := by simp [bs]
              have e7 : (is (List.replicate n (m7 i) ++ List.replicate 64 (m8 i))).length = n + 64 := by simp [is]
              have e8 : (bs (List.replicate m (n7 i) ++ List.replicate 64 (n8 i))).length = m + 64 := by simp [bs]
              rw [e5] at d1
              rw [e6] at d2
              rw [e7] at d3
              rw [e8] at d4
              have K1 := hide k1
              have K3 := hide k3
              have KG := hide kg
              have KH := hide kh
              have E5 := hide e5
              have E6 := hide e6
              have i1 : (i : Int) < (ll.length : Int) := by omega
              have i0 : (0 : Int) ≤ (i : Int) := by omega
              have i2 : (i : Int) < (bl.length : Int) := by have := unhide HNLB; omega
              have i3 : (i : Int) < 200 := by omega
              clear hp hq hg hh k1 k2 k3 k4 kg kh e5 e6 e7 e8 hn hmm e3 e4 hrl' hrb'
              go_wp2_with fail
              go_loop [13] (fun jv => ∃ j : Nat, j ≤ n + 64 ∧ jv = .int .i64 j) (fun jv => n + 64 - (intOf jv).toNat)
              case atStart => exact ⟨0, Nat.zero_le _, rfl⟩
              case round =>
                obtain ⟨j, hj, rfl⟩ := hrel
                have j0 : (0 : Int) ≤ (j : Int) := by omega
                by_cases hjn : j < n
                · have j1 : (j : Int) < (n : Int) := by omega
                  have j2 : (j : Int) < (n : Int) + 64 := by omega
                  have j3' : ¬ (n : Int) ≤ (j : Int) := by omega
                  obtain ⟨pb, pf, pc', e1, _, kp⟩ := (unhide K1).cells (by rw [unhide E5]; omega)
                  simp at e1
                  obtain ⟨rfl, rfl⟩ := e1
                  have x1 : wr.cell? ⟨pb, pf + j, none⟩ = some (.int .i64 (7000 + (i : Int))) := kp j _ (by rw [is_get, List.getElem?_replicate, if_pos hjn]; rfl)
                  have x2 : wr.cell? ⟨gb, gf + j, none⟩ = some (.int .i64 (7000 + (i : Int))) := unhide KG j _ (by rw [is_get, List.getElem?_append_left (by simpa using hjn), List.getElem?_replicate, if_pos hjn]; rfl)
                  clear kp
                  rw [unhide E5] at *
                  go_wp2
                  go_round
                  case rel => exact ⟨j + 1, by omega, by go_num⟩
                  case measure => simp [intOf]; omega
                · by_cases hjm : j < n + 64
                  · have j1 : ¬ (j : Int) < (n : Int) := by omega
                    have j2 : (j : Int) < (n : Int) + 64 := by omega
                    have j3' : (n : Int) ≤ (j : Int) := by omega
                    have x2 : wr.cell? ⟨gb, gf + j, none⟩ = some (.int .i64 (8000 + (i : Int))) := unhide KG j _ (by rw [is_get, List.getElem?_append_right (by simpa using hjn), List.getElem?_replicate, if_pos (by simp; omega)]; rfl)
                    clear hjn
                    go_wp2
                    go_round
                    case rel => exact ⟨j + 1, by omega, by go_num⟩
                    case measure => simp [intOf]; omega
                  · have j2 : ¬ (j : Int) < (n : Int) + 64 := by omega
                    clear hjn hjm hj
                    go_wp2_with fail
                    go_loop [14] (fun jv => ∃ j : Nat, j ≤ m + 64 ∧ jv = .int .i64 j) (fun jv => m + 64 - (intOf jv).toNat)
                    case atStart => exact ⟨0, Nat.zero_le _, rfl⟩
                    case round =>
                      obtain ⟨r, hr, rfl⟩ := hrel
                      have r0 : (0 : Int) ≤ (r : Int) := by omega
                      have i4 : (i : Int) % 256 = (i : Int) := by omega
                      by_cases hrm : r < m
                      · have r1 : (r : Int) < (m : Int) := by omega
                        have r2 : (r : Int) < (m : Int) + 64 := by omega
                        have r3 : ¬ (m : Int) ≤ (r : Int) := by omega
                        obtain ⟨pb, pf, pc', e1, _, kp⟩ := (unhide K3).cells (by rw [unhide E6]; omega)
                        simp at e1
                        obtain ⟨rfl, rfl⟩ := e1
                        have x1 : wr.cell? ⟨pb, pf + r, none⟩ = some (.int .u8 (i : Int)) := kp r _ (by rw [bs_get, List.getElem?_replicate, if_pos hrm]; rfl)
                        have x2 : wr.cell? ⟨hb, hf + r, none⟩ = some (.int .u8 (i : Int)) := unhide KH r _ (by rw [bs_get, List.getElem?_append_left (by simpa using hrm), List.getElem?_replicate, if_pos hrm]; rfl)
                        clear kp
                        rw [unhide E6] at *
                        go_wp2
                        go_round
                        case rel => exact ⟨r + 1, by omega, by go_num⟩
                        case measure => simp [intOf]; omega
                      · by_cases hrm2 : r < m + 64
                        · have r1 : ¬ (r : Int) < (m : Int) := by omega
                          have r2 : (r : Int) < (m : Int) + 64 := by omega
                          have r3 : (m : Int) ≤ (r : Int) := by omega
                          have x2 : wr.cell? ⟨hb, hf + r, none⟩ = some (.int .u8 (200 + (i : Int) % 50)) := unhide KH r _ (by rw [bs_get, List.getElem?_append_right (by simpa using hrm), List.getElem?_replicate, if_pos (by simp; omega)]; rfl)
                          clear hrm
                          go_wp2
                          go_round
                          case rel => exact ⟨r + 1, by omega, by go_num⟩
                          case measure => simp [intOf]; omega
                        · have r2 : ¬ (r : Int) < (m : Int) + 64 := by omega
                          clear hrm hrm2 hr
                          go_wp2
                          go_round
                          case rel => exact ⟨i + 1, by omega, by go_num⟩
                          case measure => simp [intOf]; omega
            · go_wp2
              go_ret
              exact ⟨rfl, unhide HKF⟩

end Go.Proofs.Ytdkihkgmldnpmab
