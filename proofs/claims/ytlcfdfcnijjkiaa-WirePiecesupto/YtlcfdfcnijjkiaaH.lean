import Derived.Test.YtlcfdfcnijjkiaaG
namespace Go.Proofs.Ytlcfdfcnijjkiaa
open Go.RowKit Go.Maps

theorem lenP_drop (l : Txt) (a : Nat) : lenP (l.drop a) = (byteP l a + 256 * byteP l (a + 1)) + 65536 * (byteP l (a + 2) + 256 * byteP l (a + 3)) := by
  unfold lenP
  rw [byteP_drop, byteP_drop, byteP_drop, byteP_drop, Nat.add_zero]
  omega
theorem bytes_cut {w : World} {b off cap : Nat} {p : Txt} (h : BytesAt w (.slice (some ⟨b, off, none⟩) p.length cap) p) (j n : Nat) (hj : j + n ≤ p.length) (h0 : 0 < n) : BytesAt w (.slice (some ⟨b, off + j, none⟩) n (cap - j)) ((p.drop j).take n) := by
  have hc := RowAt.room h _ _ _ rfl
  have hln : ((p.drop j).take n).length = n := by rw [List.length_take, List.length_drop]; omega
  obtain ⟨b', off', cap', e, hb, hx⟩ := h.cells (by omega)
  simp at e
  obtain ⟨⟨rfl, rfl⟩, rfl⟩ := e
  unfold BytesAt
  rw [hln]
  refine ⟨⟨_, _, rfl⟩, fun _ => ⟨b, off + j, _, rfl, hb, fun i x hi => ?_⟩, fun ao m c e => by simp at e; omega⟩
  rw [bs_get] at hi
  cases hk : ((p.drop j).take n)[i]? with
  | none => rw [hk] at hi; cases hi
  | some c =>
    rw [hk] at hi
    simp at hi
    rw [List.getElem?_take] at hk
    split at hk
    · rw [List.getElem?_drop] at hk
      rw [← hi, Nat.add_assoc]
      exact hx _ _ hk
    · cases hk
/-- Parts that were answered, in new memory, each told by its bytes. -/
structure PartsAt (w : World) (lo : Nat) (v : Value) (ps : List Txt) (hs : List Value) : Prop where
  row : w.ownsRow lo 27 1 v ps.length hs
  each : ∀ (j : Nat) (p : Txt), ps[j]? = some p → ∃ h, hs[j]? = some h ∧ BtAt w lo h p
theorem PartsAt.keep {w w' : World} {lo hi : Nat} {v : Value} {ps : List Txt} {hs : List Value} (h : PartsAt w lo v ps hs) (hh : w.heap.size ≤ hi) {F : Nat → Prop} (hk : Keeps F w w') (hF : ∀ q, F q → q < lo ∨ hi ≤ q) : PartsAt w' lo v ps hs := by
  refine ⟨ownsRow_kept h.row hk (fun q e f => ?_), fun j p hj => ?_⟩
  · have h1 := own_geO h.row e
    have h2 := own_lt h.row e
    have := hF q f
    omega
  · obtain ⟨x, hx, hb⟩ := h.each j p hj
    refine ⟨x, hx, hb.keep hk (fun q e f => ?_)⟩
    have h1 := own_geO hb e
    have h2 := own_lt hb e
    have := hF q f
    omega

/-- Within a cutting. -/
structure Cutting (w wr : World) (l : Txt) (a : Nat) (v : Value) (ps : List Txt) (hs : List Value) : Prop where
  parts : PartsAt wr w.heap.size v ps hs
  keeps : Keeps (fun _ => False) w wr
  eq : cutP l = (ps ++ (cutP (l.drop a)).1, (cutP (l.drop a)).2)
  le : a ≤ l.length
def CutOut (w w' : World) (l : Txt) (e : Ending) : Prop :=
  ∃ (vo : Option Addr) (vc : Nat) (hs : List Value), e = .returned (.tuple #[.slice vo (cutP l).1.length vc, .int .i64 ((cutP l).2.1.length : Int), .bool (cutP l).2.2]) ∧ PartsAt w' w.heap.size (.slice vo (cutP l).1.length vc) (cutP l).1 hs ∧ Keeps (fun _ => False) w w'
theorem Cutting.start (w : World) (l : Txt) : Cutting w w l 0 (.slice none 0 0) [] [] :=
  ⟨⟨World.ownsRow_nil _ _ 27 1, fun j p h => by simp at h⟩, Keeps.refl _ _, by simp, Nat.zero_le _⟩
section
variable {w wr : World} {l : Txt} {a : Nat} {v : Value} {ps : List Txt} {hs : List Value}
theorem Cutting.out (h : Cutting w wr l a v ps hs) {r : Txt} {bb : Bool} (he : cutP (l.drop a) = ([], r, bb)) (k : Int) (hk : k = (r.length : Int)) : CutOut w wr l (.returned (.tuple #[v, .int .i64 k, .bool bb])) := by
  have e := h.eq
  rw [he] at e
  simp at e
  obtain ⟨vo, vc, rfl⟩ := (rowAt_own h.parts.row).form
  refine ⟨vo, vc, hs, ?_, ?_, h.keeps⟩
  · rw [e, hk]
  · rw [e]; exact h.parts
theorem Cutting.keepF {w2 : World} (h : Cutting w wr l a v ps hs) (hk : Keeps (fun _ => False) wr w2) : Cutting w w2 l a v ps hs :=
  ⟨h.parts.keep (Nat.le_refl _) hk (fun _ f => f.elim), h.keeps.trans hk, h.eq, h.le⟩
theorem Cutting.outK {w2 : World} (h : Cutting w wr l a v ps hs) (hK : Keeps (fun _ => False) wr w2) {r : Txt} {bb : Bool} (he : cutP (l.drop a) = ([], r, bb)) (k : Int) (hk : k = (r.length : Int)) : CutOut w w2 l (.returned (.tuple #[v, .int .i64 k, .bool bb])) := (h.keepF hK).out he k hk
theorem Cutting.few (h : Cutting w wr l a v ps hs) : ps.length ≤ l.length := by
  have := (cut_len _ l (Nat.le_refl _)).1
  rw [h.eq] at this
  simp at this
  omega
theorem Cutting.next {w2 w3 : World} {o : Obj} {g cap : Nat} {h1 : Value} (h : Cutting w wr l a v ps hs) (hb : ¬ (lenP (l.drop a) < 14 ∨ 32768 < lenP (l.drop a))) (hl : a + lenP (l.drop a) ≤ l.length)
    (hp : BtAt w2 wr.heap.size h1 ((l.drop a).take (lenP (l.drop a)))) (hk : Keeps (fun _ => False) wr w2) (hG : GrewL (w2.alloc o) w3 w.heap.size 27 ps.length 1 v g cap hs [h1]) :
    Cutting w w3 l (a + lenP (l.drop a)) (.slice (some ⟨g, 0, none⟩) (ps.length + 1) cap) (ps ++ [(l.drop a).take (lenP (l.drop a))]) (hs ++ [h1]) := by
  have hka : Keeps (fun _ => False) w2 (w2.alloc o) := (Keeps.refl _ _).alloc _
  have hr : (w2.alloc o).ownsRow w.heap.size 27 1 v ps.length hs := ownsRow_kept h.parts.row (hk.trans hka) (fun _ _ => id)
  have hlen : hs.length = ps.length := by have := h.parts.row.1; omega
  refine ⟨⟨by rw [List.length_append]; exact hG.own, fun j p hj => ?_⟩, hG.new h.keeps (hk.trans hka) (fun q e => own_geO hr e), ?_, hl⟩
  · by_cases hjl : j < ps.length
    · rw [List.getElem?_append_left hjl] at hj
      obtain ⟨x, hx, hb2⟩ := h.parts.each j p hj
      refine ⟨x, by rw [List.getElem?_append_left (by omega)]; exact hx, ((hb2.keepF hk).keepF hka).keep hG.keeps (fun q e f => ?_)⟩
      exact own_apart ((hb2.keepF hk).keepF hka) hr (by decide) q e f
    · rw [List.getElem?_append_right (by omega)] at hj
      have hj0 : j - ps.length = 0 := by
        have := get_lt hj
        simp at this
        omega
      rw [hj0] at hj
      simp at hj
      subst hj
      refine ⟨h1, by rw [List.getElem?_append_right (by omega), hlen, hj0]; rfl, ?_⟩
      have hp2 : BtAt (w2.alloc o) w.heap.size h1 ((l.drop a).take (lenP (l.drop a))) := ownsRow_low (hp.keepF hka) h.keeps.size
      exact hp2.keep hG.keeps (fun q e f => own_apart hp2 hr (by decide) q e f)
  · rw [h.eq, cut_part hb (by rw [List.length_drop]; omega), List.drop_drop]
    simp
end

set_option maxRecDepth 100000 in
set_option maxHeartbeats 4000000 in
theorem cut_v (w : World) (v : Value) (l : Txt) (h : BytesAt w v l) (hl : l.length ≤ 1073741824) :
    Calls Try.prog 9 #[v] w fun e w' => CutOut w w' l e := by
  obtain ⟨ao, cap, rfl⟩ := RowAt.form h
  have HR := hide h
  have HL := hide hl
  clear h hl
  go_enter Try.func9, Try.ntmps9
  go_wp2_with fail
  go_loopw [5, 6] (fun vv iv wr => ∃ (a : Nat) (ps : List Txt) (hs : List Value), iv = .int .i64 a ∧ Hid (Cutting w wr l a vv ps hs)) (fun _ iv _ => l.length - (intOf iv).toNat)
  case atStart => exact ⟨0, [], [], rfl, Cutting.start w l⟩
  case round =>
    obtain ⟨a, ps, hs, rfl, HD⟩ := hrel
    have hll := unhide HL
    have hle := (unhide HD).le
    by_cases h4 : a + 4 ≤ l.length
    · obtain ⟨b, off, cap', e0, hbl, _⟩ := (unhide HR).cells (by omega)
      simp at e0
      obtain ⟨rfl, rfl⟩ := e0
      have hcap : l.length ≤ cap := RowAt.room (unhide HR) _ _ _ rfl
      have HQ1 := hide (u16_v wr _ l ((unhide HR).keepF (unhide HD).keeps) a (a : Int) rfl (by omega) (by omega))
      have HQ2 := hide (fun n : Nat => u16_v (wr.drewN n) _ l (((unhide HR).keepF (unhide HD).keeps).keepF (keeps_drewN wr n)) (a + 2) ((a : Int) + 2) (by omega) (by omega) (by omega))
      have HE := hide (lenP_drop l a)
      have b0 := byteP_lt l a
      have b1 := byteP_lt l (a + 1)
      have b2 := byteP_lt l (a + 2)
      have b3 := byteP_lt l (a + 3)
      have e3 : a + 2 + 1 = a + 3 := rfl
      obtain ⟨x1, hx1⟩ : ∃ x, x = byteP l a + 256 * byteP l (a + 1) := ⟨_, rfl⟩
      obtain ⟨x2, hx2⟩ : ∃ x, x = byteP l (a + 2) + 256 * byteP l (a + 3) := ⟨_, rfl⟩
      rw [← hx1] at HQ1 HE
      rw [e3, ← hx2] at HQ2
      rw [← hx2] at HE
      have y1 : x1 < 65536 := by omega
      have y2 : x2 < 65536 := by omega
      have i0 : (a : Int) + 4 ≤ (l.length : Int) := by omega
      clear hx1 hx2 b0 b1 b2 b3 e3
      by_cases hb : lenP (l.drop a) < 14 ∨ 32768 < lenP (l.drop a)
      · have HC : Hid (cutP (l.drop a) = ([], [], true)) := cut_bad (by rw [List.length_drop]; omega) hb
        rw [unhide HE] at hb
        clear HE
        by_cases hb1 : x1 + 65536 * x2 < 14
        · have j0 : (x1 : Int) + 65536 * (x2 : Int) < 14 := by omega
          clear hb
          go_wp2_with fail
          refine (unhide HQ1).mono ?_
          rintro e w1 ⟨rfl, n1, rfl⟩
          go_wp2_with fail
          refine ((unhide HQ2) n1).mono ?_
          rintro e w1 ⟨rfl, n2, rfl⟩
          have HKD := hide (keeps_drewN wr (n1 + n2))
          go_wp2_with fail
          go_ret3
          exact (unhide HD).outK (unhide HKD) (unhide HC) 0 rfl
        · have j0 : ¬ (x1 : Int) + 65536 * (x2 : Int) < 14 := by omega
          have j1 : (x1 : Int) + 65536 * (x2 : Int) > 32768 := by omega
          clear hb
          go_wp2_with fail
          refine (unhide HQ1).mono ?_
          rintro e w1 ⟨rfl, n1, rfl⟩
          go_wp2_with fail
          refine ((unhide HQ2) n1).mono ?_
          rintro e w1 ⟨rfl, n2, rfl⟩
          have HKD := hide (keeps_drewN wr (n1 + n2))
          go_wp2_with fail
          go_ret3
          exact (unhide HD).outK (unhide HKD) (unhide HC) 0 rfl
      · have HB := hide hb
        rw [unhide HE] at hb
        have j0 : ¬ (x1 : Int) + 65536 * (x2 : Int) < 14 := by omega
        have j1 : ¬ (x1 : Int) + 65536 * (x2 : Int) > 32768 := by omega
        by_cases hw : (l.drop a).length < lenP (l.drop a)
        · have HC : Hid (cutP (l.drop a) = ([], l.drop a, false)) := cut_wait (by rw [List.length_drop]; omega) (unhide HB) hw
          have HN : Hid ((l.drop a).length = l.length - a) := List.length_drop ..
          rw [unhide HE, List.length_drop] at hw
          have j2 : (a : Int) + ((x1 : Int) + 65536 * (x2 : Int)) > (l.length : Int) := by omega
          clear hb HE hw
          go_wp2_with fail
          refine (unhide HQ1).mono ?_
          rintro e w1 ⟨rfl, n1, rfl⟩
          go_wp2_with fail
          refine ((unhide HQ2) n1).mono ?_
          rintro e w1 ⟨rfl, n2, rfl⟩
          have HKD := hide (keeps_drewN wr (n1 + n2))
          go_wp2_with fail
          go_ret3
          exact (unhide HD).outK (unhide HKD) (unhide HC) ((l.length : Int) - (a : Int)) (by have := unhide HN; omega)
        · have HN := hide hw
          have hw2 := hw
          rw [unhide HE, List.length_drop] at hw2
          have j2 : ¬ (a : Int) + ((x1 : Int) + 65536 * (x2 : Int)) > (l.length : Int) := by omega
          have HE2 : Hid ((x1 : Int) + 65536 * (x2 : Int) = ((lenP (l.drop a) : Nat) : Int)) := by show _ = _; rw [unhide HE]; omega
          clear hb hw hw2
          go_wp2_with fail
          refine (unhide HQ1).mono ?_
          rintro e w1 ⟨rfl, n1, rfl⟩
          go_wp2_with fail
          refine ((unhide HQ2) n1).mono ?_
          rintro e w1 ⟨rfl, n2, rfl⟩
          have HKD := hide (keeps_drewN wr (n1 + n2))
          go_wp2_with fail
          have hN2 := unhide HE2
          rw [show x1 + 65536 * x2 = lenP (l.drop a) by omega]
          have HCB := hide (copyBytes_any (wr.drewN (n1 + n2)) (.slice (some ⟨b, off + a, none⟩) (lenP (l.drop a)) (cap - a)) ((l.drop a).take (lenP (l.drop a))) (bytes_cut (((unhide HR).keepF (unhide HD).keeps).keepF (unhide HKD)) a (lenP (l.drop a)) (by omega) (by omega)) (by rw [List.length_take]; omega))
          refine (unhide HCB).mono ?_
          rintro e w3 ⟨v3, rfl, ho3, hk3⟩
          have hln : ((l.drop a).take (lenP (l.drop a))).length = lenP (l.drop a) := by rw [List.length_take, List.length_drop]; omega
          obtain ⟨vo3, vc3, rfl⟩ := (rowAt_own ho3).form
          rw [hln] at ho3 ⊢
          have HB3 : Hid (BtAt w3 wr.heap.size (.slice vo3 (lenP (l.drop a)) vc3) ((l.drop a).take (lenP (l.drop a)))) := by
            show BtAt _ _ _ _
            unfold BtAt
            rw [hln]
            rw [(drewN_os wr (n1 + n2)).2.2.2] at ho3
            exact ho3
          have HK3 := hide ((unhide HKD).trans hk3)
          have HN3 := hide hN2
          have HRO : Hid (w3.ownsRow w.heap.size 27 1 u5 ps.length hs) := ownsRow_kept (unhide HD).parts.row (unhide HK3) (fun _ _ => id)
          have HPL : Hid (ps.length + 1 ≤ 4398046511104) := by
            show _ ≤ _
            have := (unhide HD).few
            omega
          have HWS : Hid (w.heap.size ≤ w3.heap.size) := Nat.le_trans (unhide HD).keeps.size (unhide HK3).size
          have HLE : Hid (a + lenP (l.drop a) ≤ l.length) := by show _ ≤ _; omega
          clear ho3 hk3 hln HCB hN2
          go_wp2_with (at_builtin; refine append_list rfl _ _ rfl w.heap.size u5 ps.length hs rfl (ownsRow_kept (unhide HRO) ((Keeps.refl _ _).alloc _) (fun _ _ => id)) w3.heap.size 1 (.slice vo3 (lenP (l.drop a)) vc3) rfl (by rw [cell_of_blk (heap_alloc_new w3 _)]; rfl) rfl (unhide HPL) (Nat.le_trans (unhide HWS) (by simp)) ?_; intro g2 cap2 w4 HG)
          go_roundw
          case rel => exact ⟨a + lenP (l.drop a), _, _, congrArg (Value.int .i64) (by have := unhide HN3; omega), (unhide HD).next (unhide HB) (unhide HLE) (unhide HB3) (unhide HK3) HG⟩
          case measure =>
            have := unhide HN3
            have := unhide HLE
            have := unhide HB
            simp [intOf]
            omega
    · have HC : Hid (cutP (l.drop a) = ([], l.drop a, false)) := cut_short (by rw [List.length_drop]; omega)
      have HN : Hid ((l.drop a).length = l.length - a) := List.length_drop ..
      have i0 : ¬ (a : Int) + 4 ≤ (l.length : Int) := by omega
      go_wp2_with fail
      go_ret3
      exact (unhide HD).outK (Keeps.refl _ _) (unhide HC) ((l.length : Int) - (a : Int)) (by have := unhide HN; omega)
end Go.Proofs.Ytlcfdfcnijjkiaa
