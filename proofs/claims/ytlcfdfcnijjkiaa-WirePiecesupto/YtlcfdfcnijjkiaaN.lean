import Derived.Test.YtlcfdfcnijjkiaaM
import Derived.Deep.DeepCutAuto
import Derived.BigRegion
namespace Go.Proofs.Ytlcfdfcnijjkiaa
open Go.RowKit Go.Maps

theorem cut_nil : ∀ (n : Nat) (l : Txt), l.length ≤ n → (cutP l).2.2 = true → (cutP l).2.1 = []
  | 0, l, hn, h => by rw [cut_short (by omega)] at h; cases h
  | n + 1, l, hn, h => by
    by_cases h4 : l.length < 4
    · rw [cut_short h4] at h; cases h
    by_cases hb : lenP l < 14 ∨ 32768 < lenP l
    · rw [cut_bad (by omega) hb]
    by_cases hl : l.length < lenP l
    · rw [cut_wait (by omega) hb hl] at h; cases h
    rw [cut_part hb (by omega)] at h ⊢
    exact cut_nil n _ (by rw [List.length_drop]; omega) h
/-- The pieces that came in. -/
structure PsAt (w : World) (po : Option Addr) (n pc : Nat) (ls : List Txt) : Prop where
  len : ls.length = n
  room : n ≤ pc
  each : ∀ (i : Nat) (l : Txt), ls[i]? = some l → ∃ (b off : Nat) (ho : Option Addr) (hc : Nat), po = some ⟨b, off, none⟩ ∧ b < w.heap.size ∧ w.cell? ⟨b, off + i, none⟩ = some (.slice ho l.length hc) ∧ BytesAt w (.slice ho l.length hc) l
/-- How far the stream has come. -/
structure Cuts (ls : List Txt) (i : Nat) (S : Txt) (hs : List Value) (ps : List Txt) (r : Txt) (bb : Bool) : Prop where
  cut : cutP S = (ps, r, bb)
  str : bb = false → S = (ls.take i).flatten
  len : S.length ≤ 1048576
  hl : hs.length = ps.length
theorem Cuts.waits {ls : List Txt} {i : Nat} {S : Txt} {hs : List Value} {ps : List Txt} {r : Txt} {bb : Bool} (h : Cuts ls i S hs ps r bb) : (bb = false → Waits r) ∧ (bb = true → r = []) := by
  refine ⟨fun e => ?_, fun e => ?_⟩
  · subst e
    exact cut_rest _ S (Nat.le_refl _) ps r h.cut
  · have := cut_nil _ S (Nat.le_refl _) (by rw [h.cut]; exact e)
    rw [h.cut] at this
    exact this
theorem Cuts.few {ls : List Txt} {i : Nat} {S : Txt} {hs : List Value} {ps : List Txt} {r : Txt} {bb : Bool} (h : Cuts ls i S hs ps r bb) : ps.length ≤ 1048576 ∧ ∀ p ∈ ps, p.length ≤ 1048576 := by
  have := cut_len _ S (Nat.le_refl _)
  rw [h.cut] at this
  have hl := h.len
  exact ⟨by have := this.1; simp only at this; omega, fun p hp => by have := this.2.2 p hp; omega⟩
theorem flat_take {ls : List Txt} {i : Nat} {l : Txt} (h : ls[i]? = some l) : (ls.take (i + 1)).flatten = (ls.take i).flatten ++ l := by
  rw [take_snoc _ _ _ h, List.flatten_append]
  simp
theorem flat_len : ∀ (ls : List Txt) (i : Nat), (ls.take i).flatten.length ≤ ls.flatten.length
  | [], i => by simp
  | l :: ls, 0 => by simp
  | l :: ls, i + 1 => by
    have := flat_len ls i
    simp only [List.take_succ_cons, List.flatten_cons, List.length_append]
    omega
theorem Cuts.next {ls : List Txt} {i : Nat} {S : Txt} {hs hs' : List Value} {ps fp : List Txt} {r fr : Txt} {fb : Bool} {l : Txt} (h : Cuts ls i S hs ps r false) (hi : ls[i]? = some l) (ht : ls.flatten.length ≤ 1048576) (hF : cutP (r ++ l) = (fp, fr, fb)) (hl : hs'.length = fp.length) : Cuts ls (i + 1) (S ++ l) (hs ++ hs') (ps ++ fp) fr fb := by
  have e : S ++ l = (ls.take (i + 1)).flatten := by rw [flat_take hi, h.str rfl]
  refine ⟨?_, fun _ => e, ?_, by rw [List.length_append, List.length_append, h.hl, hl]⟩
  · rw [cut_app _ S (Nat.le_refl _) ps r h.cut l, hF]
  · rw [e]
    exact Nat.le_trans (flat_len ls _) ht
theorem Cuts.stay {ls : List Txt} {i : Nat} {S : Txt} {hs : List Value} {ps : List Txt} {r : Txt} (h : Cuts ls i S hs ps r true) : Cuts ls (i + 1) S hs ps [] true :=
  ⟨by rw [h.cut, h.waits.2 rfl], fun e => (by cases e), h.len, h.hl⟩
theorem BtAt.front {w : World} {B g cap n : Nat} {l m : Txt} (hX : BtAt w B (.slice (some ⟨g, 0, none⟩) n cap) (l ++ m)) : BytesAt w (.slice (some ⟨g, 0, none⟩) l.length cap) l := by
  have h1 := hX.len
  refine ⟨⟨_, _, rfl⟩, fun _ => ⟨g, 0, cap, rfl, own_lt hX rfl, fun j x hx => ?_⟩, fun ao m c e => by rw [List.length_append] at h1; simp at e; omega⟩
  rw [bs_get] at hx
  cases hk : l[j]? with
  | none => rw [hk] at hx; cases hx
  | some c =>
    rw [hk] at hx
    simp at hx
    rw [Nat.zero_add, hX.at_ (x := c) (by rw [List.getElem?_append_left (get_lt hk), hk]), hx]
theorem feed_nil (w : World) (v : Value) : Calls Try.prog 4 #[.pointer none, v] w fun e w' => e = .returned (.tuple #[.slice none 0 0, .int .i64 1]) ∧ w' = w := by
  go_enter Try.func4, Try.ntmps4
  go_wp2
  go_ret2
  exact ⟨rfl, rfl⟩
theorem Sys.start {w wr : World} {sb : Nat} (hk : Keeps (fun _ => False) w wr) (hb : wr.heap[sb]? = some (.cells #[.slice none 0 0, .bool false] 37 (0, 0))) (hs : w.heap.size ≤ sb) : Sys w wr sb (.slice none 0 0) [] false (.slice none 0 0) [] (.slice none 0 0) [] [] [] [] := by
  refine ⟨⟨hb, World.ownsRow_nil _ _ 5 1⟩, hs, World.ownsRow_nil _ _ 27 1, ⟨fun p hp => ?_, ?_⟩, hk⟩
  · simp [lones] at hp
    subst hp
    exact lone1_at (World.ownsRow_nil _ _ 5 1)
  · refine List.Pairwise.cons (fun p _ b hb => by cases lone1_has hb) ?_
    exact List.Pairwise.cons (fun p hp => by simp [lones] at hp) List.Pairwise.nil

set_option maxRecDepth 100000 in
set_option maxHeartbeats 8000000 in
theorem pieces_walk (w : World) (po : Option Addr) (pc : Nat) (ls : List Txt) (h : PsAt w po ls.length pc ls) (ht : ls.flatten.length ≤ 1048576) (hn : ls.length ≤ 1048576) :
    Calls Try.prog 3 #[.slice po ls.length pc] w fun e w' => e = .returned (.bool true) ∧ Keeps (fun _ => False) w w' := by
  have HH := hide h
  have HT := hide ht
  clear h ht
  go_enter Try.func3, Try.ntmps3
  go_wp2_with fail
  refine (feed_nil _ _).mono ?_
  rintro e w1 ⟨rfl, rfl⟩
  go_wp2_with fail
  refine (new_v _).mono ?_
  rintro e w1 ⟨rfl, rfl⟩
  have HB := hide (heap_alloc_new (w.alloc (.cells #[.int .u8 14, .int .u8 0, .int .u8 0, .int .u8 0] 5)) (.cells #[.slice none 0 0, .bool false] 37))
  have HK := hide (((Keeps.refl (fun _ => False) w).alloc (.cells #[.int .u8 14, .int .u8 0, .int .u8 0, .int .u8 0] 5)).alloc (.cells #[.slice none 0 0, .bool false] 37))
  have HSB : Hid (w.heap.size ≤ (w.alloc (.cells #[.int .u8 14, .int .u8 0, .int .u8 0, .int .u8 0] 5)).heap.size) := by show _ ≤ _; simp
  generalize hsb : (w.alloc (.cells #[.int .u8 14, .int .u8 0, .int .u8 0, .int .u8 0] 5)).heap.size = sb at *
  generalize (w.alloc (.cells #[.int .u8 14, .int .u8 0, .int .u8 0, .int .u8 0] 5)).alloc (.cells #[.slice none 0 0, .bool false] 37) = w1 at *
  go_wp2_with fail
  refine (rest_none _).mono ?_
  rintro e w2 ⟨rfl, rfl⟩
  go_wp2_with fail
  refine (rest_v _ sb none 0 0 false (unhide HB)).mono ?_
  rintro e w2 ⟨rfl, rfl⟩
  have HS0 := hide (Sys.start (unhide HK) (unhide HB) (unhide HSB))
  clear hsb
  go_wp2_with fail
  go_loopw [7, 8, 9, 10, 11] (fun sv dv bv kv iv wr => ∃ (i : Nat) (rv : Value) (r : Txt) (bb : Bool) (S : Txt) (hs : List Value) (ps : List Txt), i ≤ ls.length ∧ iv = .int .i64 i ∧ dv = .int .i64 ps.length ∧ bv = .bool bb ∧ Hid (Sys w wr sb rv r bb sv S kv hs hs ps []) ∧ Hid (Cuts ls i S hs ps r bb)) (fun _ _ _ _ iv _ => ls.length - (intOf iv).toNat)
  case atStart => exact ⟨0, _, [], false, [], [], [], Nat.zero_le _, rfl, rfl, rfl, HS0, ⟨cut_short (by simp), fun _ => rfl, by simp, rfl⟩⟩
  case round =>
    clear HS0 HB HK
    obtain ⟨i, rv, r, bb, S, hs, ps, hi, rfl, rfl, rfl, HD, HC⟩ := hrel
    by_cases hlt : i < ls.length
    · obtain ⟨l, hli⟩ : ∃ l, ls[i]? = some l := ⟨_, List.getElem?_eq_getElem hlt⟩
      obtain ⟨b0, off, ho, hc, rfl, hbl, hcell, hbytes⟩ := (unhide HH).each i l hli
      have hll : l.length ≤ 1048576 := by
        have h1 := flat_len ls (i + 1)
        rw [flat_take hli, List.length_append] at h1
        have h2 := unhide HT
        omega
      have c0 := ((unhide HD).keeps.cell hbl id).trans hcell
      have HCELL := hide hcell
      have HBY := hide hbytes
      have HLI := hide hli
      have i1 : (i : Int) < (ls.length : Int) := by omega
      have i0 : (0 : Int) ≤ (i : Int) := by omega
      clear hcell hbytes hli
      go_wp2_with fail
      refine (roomy_v wr _ l ((unhide HBY).keepF (unhide HD).keeps) (by omega)).mono ?_
      rintro e w1 ⟨g, c, rfl, hX, hk1⟩
      have HS1 := hide ((unhide HD).lend hX hk1)
      have HF := hide (feed_v w1 w.heap.size sb rv r l bb ([lone1 (.slice (some ⟨g, 0, none⟩) (l ++ padT 64).length c) (l ++ padT 64)] ++ (lone1 u7 S :: lones hs ps)) g 0 c (unhide HS1).base (unhide HS1).spl (unhide HS1).bag (unhide HC).waits.1 (unhide HC).waits.2 hX.front (own_lt hX rfl) (fun e => by
          obtain ⟨_, cc, hcc⟩ := own_typed hX rfl
          rw [e, (unhide HS1).spl.box] at hcc
          simp at hcc) (fun e => (List.pairwise_cons.1 (unhide HS1).bag.apart).1 _ (List.mem_append_left _ (List.mem_cons_self ..)) g (Or.inl e) (Or.inl rfl)) (by omega))
      clear hX hk1 c0
      go_wp2_with fail
      refine (unhide HF).mono ?_
      clear HF
      rintro e w2 ⟨vo, vc, hs', rv', ec, rfl, hec, hrow, hS, hb2, hk2⟩
      obtain ⟨fp, fr, fb, hF⟩ : ∃ fp fr fb, feedF bb (r ++ l) = (fp, fr, fb) := ⟨_, _, _, rfl⟩
      rw [hF] at hrow hS hb2 hec ⊢
      have HEC : Hid (ec = if fb then 240 else 0) := hec
      have HFE := hide hF
      have HS2 := hide ((unhide HS1).fed hS hb2 hk2)
      have HK12 : Hid (w1.heap.size ≤ w2.heap.size) := hk2.size
      have HROW := hide hrow
      have hX2 : BtAt w2 w.heap.size (.slice (some ⟨g, 0, none⟩) (l ++ padT 64).length c) (l ++ padT 64) := ((unhide HS2).bag.all (lone1 (.slice (some ⟨g, 0, none⟩) (l ++ padT 64).length c) (l ++ padT 64)) (List.mem_cons_of_mem _ (List.mem_append_left _ (List.mem_append_right _ (List.mem_cons_self ..))))).1
      have HU := hide (untouched_v w2 (.slice ho l.length hc) l g c w.heap.size ((unhide HBY).keepF (unhide HS2).keeps) hX2 (by omega))
      have c0 := ((unhide HS2).keeps.cell hbl id).trans (unhide HCELL)
      clear hF hrow hS hb2 hk2 hX2 hec
      go_wp2_with fail
      refine (unhide HU).mono ?_
      rintro e w3 ⟨rfl, n, rfl⟩
      have HS3 := hide ((unhide HS2).keepF (keeps_drewN w2 n))
      have HROW3 := hide (ownsRow_kept (unhide HROW) (keeps_drewN w2 n) (fun _ _ => id))
      clear HU c0
      cases bb with
      | true =>
        have hf := unhide HFE
        unfold feedF at hf
        simp at hf
        obtain ⟨rfl, rfl, rfl⟩ := hf
        obtain rfl : ec = 240 := unhide HEC
        go_wp2_with fail
        obtain ⟨ao, cap, rfl⟩ := (unhide HS3).spl.form
        refine (rest_v _ sb ao 0 cap true (unhide HS3).spl.box).mono ?_
        rintro e w4 ⟨rfl, rfl⟩
        go_wp2_with fail
        go_roundw
        case rel => exact ⟨i + 1, _, [], true, S, hs, ps, by omega, by go_num, rfl, rfl, (unhide HS3).drop, (unhide HC).stay⟩
        case measure => simp [intOf]; omega
      | false =>
        have hf : cutP (r ++ l) = (fp, fr, fb) := unhide HFE
        have hcn := (unhide HC).next (hs' := hs') (unhide HLI) (unhide HT) hf (by have := (unhide HROW3).1; omega)
        have HCN := hide hcn
        have hsl := hcn.len
        rw [List.length_append] at hsl
        have c0 := ((unhide HS3).keeps.cell hbl id).trans (unhide HCELL)
        clear hf hcn HFE
        go_wp2_with (at_builtin; refine append_any rfl _ _ rfl w.heap.size u7 S rfl (unhide HS3).sv_at (.slice ho l.length hc) l rfl ((unhide HBY).keepF (unhide HS3).keeps) (by omega) (unhide HS3).base ?_; intro sv' w4 HG)
        have HS4 := hide ((unhide HS3).streamed HG)
        have HK34 := hide HG.keeps
        have HSV3 := hide (unhide HS3).sv_at
        have HROW4 : Hid (w4.ownsRow w1.heap.size 27 1 (.slice vo fp.length vc) fp.length hs') := ownsRow_kept (unhide HROW3) HG.keeps (fun q e f => own_apart (unhide HROW3) (unhide HS3).sv_at (by decide) q e f)
        have HSVB := hide (rowAt_own (unhide HS4).sv_at)
        clear HG c0
        refine (cut_v w4 sv' (S ++ l) (unhide HSVB) (by rw [List.length_append]; omega)).mono ?_
        rintro e w5 ⟨wo, wc, ws, rfl, hP, hk5⟩
        rw [(unhide HCN).cut] at hP ⊢
        have HP : Hid (PartsAt w5 w4.heap.size (.slice wo (ps ++ fp).length wc) (ps ++ fp) ws) := hP
        have HS5 := hide ((unhide HS4).keepF hk5)
        have HROW5 := hide (ownsRow_kept (unhide HROW4) hk5 (fun _ _ => id))
        have HW45 : Hid (w4.heap.size ≤ w5.heap.size) := hk5.size
        clear hP hk5
        clear hsl
        obtain ⟨ao, cap, rfl⟩ := (unhide HS5).spl.form
        have hpl : ps.length + fp.length ≤ 1048576 := by
          have := (unhide HCN).few.1
          rw [List.length_append] at this
          exact this
        have HW14 : Hid (w1.heap.size ≤ w4.heap.size) := Nat.le_trans (unhide HK12) (Nat.le_trans (Nat.le_of_eq (by rw [(drewN_os w2 n).2.2.2])) (unhide HK34).size)
        cases fb with
        | true =>
          obtain rfl : ec = 240 := unhide HEC
          clear HEC
          go_wp2_with fail
          refine (rest_v w5 sb ao fr.length cap true (unhide HS5).spl.box).mono ?_
          rintro e w6 ⟨rfl, rfl⟩
          go_wp2_with fail
          go_loopw [10, 19] (fun kv kk wq => ∃ (k : Nat) (KS : List Value), k ≤ fp.length ∧ kk = .int .i64 k ∧ Hid (KS = hs ++ hs'.take k) ∧ Hid (Sys w wq sb (.slice ao fr.length cap) fr true sv' (S ++ l) kv KS hs ps (lones hs' fp ++ [lone1 (.slice (some ⟨g, 0, none⟩) (l ++ padT 64).length c) (l ++ padT 64)])) ∧ Hid (Keeps (fun q => q < w1.heap.size ∨ w6.heap.size ≤ q) w6 wq) ∧ Hid (∀ q, kv.ownBlock = some q → q < w1.heap.size ∨ w6.heap.size ≤ q)) (fun _ kk _ => fp.length - (intOf kk).toNat)
          case atStart => exact ⟨0, hs, Nat.zero_le _, rfl, (by show _ = _; simp), HS5, Keeps.refl _ _, fun q e => Or.inl (own_lt (unhide HS1).row e)⟩
          case round =>
            obtain ⟨k, KS, hk, rfl, HKS, HQ, HKW, HKB⟩ := hrel
            by_cases hlk : k < fp.length
            · obtain ⟨p, hpk⟩ : ∃ p, fp[k]? = some p := ⟨_, List.getElem?_eq_getElem hlk⟩
              have hrow := unhide HROW5
              obtain ⟨x, hxk⟩ : ∃ x, hs'[k]? = some x := ⟨_, List.getElem?_eq_getElem (by have := hrow.1; omega)⟩
              have hrq := ownsRow_kept hrow (unhide HKW) (fun q e f => by
                have h1 := own_geO hrow e
                have h2 := own_lt hrow e
                omega)
              have hpq := (unhide HP).keep (Nat.le_refl _) (unhide HKW) (fun q f => f.imp (fun e => Nat.lt_of_lt_of_le e (unhide HW14)) id)
              obtain ⟨gl, vcc, e1, _, hgl⟩ := hrq.form (by omega)
              have HGL := hide hgl
              simp at e1
              obtain ⟨rfl, rfl⟩ := e1
              have hwlen : (ps ++ fp).length = ps.length + fp.length := List.length_append ..
              obtain ⟨gw, wcc, e2, _, _⟩ := hpq.row.form (by omega)
              simp at e2
              obtain ⟨rfl, rfl⟩ := e2
              obtain ⟨y, hy, hyb⟩ := hpq.each (ps.length + k) p (by rw [List.getElem?_append_right (by omega), Nat.add_sub_cancel_left]; exact hpk)
              have hxb : BtAt _ w.heap.size x p := ((unhide HQ).bag.all (lone1 x p) (List.mem_cons_of_mem _ (List.mem_append_left _ (List.mem_append_left _ (List.mem_of_getElem? (lones_get hxk hpk)))))).1
              obtain ⟨xo, xc, rfl⟩ := (rowAt_own hxb).form
              obtain ⟨yo, yc, rfl⟩ := (rowAt_own hyb).form
              have c1 := (hrq.cellAt k (by omega)).trans hxk
              have c2 := (hpq.row.cellAt (ps.length + k) (by omega)).trans hy
              have HEQ : Hid (Calls Try.prog 10 #[.slice xo p.length xc, .slice yo p.length yc] wr.drew fun e w' => e = .returned (.bool true) ∧ Keeps (fun _ => False) wr w') := by
                refine (eqBytes_any wr.drew _ _ p p ((rowAt_own hxb).drewN 1) ((rowAt_own hyb).drewN 1) (by have := (unhide HCN).few.2 p (List.mem_append_right _ (List.mem_of_getElem? hpk)); unfold maxLen; omega)).mono ?_
                rintro e w' ⟨rfl, n, rfl⟩
                exact ⟨ret_bool (by simp), ((Keeps.refl (fun _ => False) wr).drewN 1).drewN n⟩
              have HXK := hide hxk
              have i2 : (k : Int) < (fp.length : Int) := by omega
              have i3 : (0 : Int) ≤ (k : Int) := by omega
              have i4 : (ps.length : Int) + (k : Int) < (ps.length : Int) + (fp.length : Int) := by omega
              have i5 : (0 : Int) ≤ (ps.length : Int) + (k : Int) := by omega
              have i6 : IntKind.i64.wrap ((ps.length : Int) + (k : Int)) = (ps.length : Int) + (k : Int) := by rw [IntKind.wrap_i64]; omega
              have i7 : ((ps.length : Int) + (k : Int)).toNat = ps.length + k := by omega
              have i8 : (k : Int).toNat = k := by omega
              have HKL : Hid (KS.length + 1 ≤ 4398046511104) := by
                show _ ≤ _
                rw [unhide HKS, List.length_append, List.length_take, (unhide HC).hl]
                omega
              clear hrow hrq hpq hpk hy hyb hxb hxk hwlen
              go_upto_region 27 with fail
              go_region_with (go_at_call 10; refine (unhide HEQ).mono ?_; rintro e w9 ⟨rfl, hk9⟩; have HK9 := hide hk9; clear hk9)
              all_goals
                have c19 := ((unhide HK9).cell (o := k) (unhide HGL) id).trans c1
                have HS9 := hide ((unhide HQ).keepF (unhide HK9))
                have HW9 : Hid (w.heap.size ≤ w9.heap.size) := (unhide HS9).base
                have HW69 : Hid (w6.heap.size ≤ w9.heap.size) := Nat.le_trans (unhide HKW).size (unhide HK9).size
                go_wp2_with (at_builtin; refine append_list rfl _ _ rfl w.heap.size u10 KS.length KS rfl (ownsRow_kept (unhide HS9).row ((Keeps.refl _ _).alloc _) (fun _ _ => id)) w9.heap.size 1 (.slice xo p.length xc) rfl (by rw [cell_of_blk (heap_alloc_new w9 _)]; rfl) rfl (unhide HKL) (Nat.le_trans (unhide HW9) (by simp)) ?_; intro g2 cap2 w10 HG)
                go_roundw
                case rel =>
                  refine ⟨k + 1, KS ++ [.slice xo p.length xc], by omega, by go_num, ?_, (unhide HS9).took HG, ?_, ?_⟩
                  · show _ = _
                    rw [take_snoc _ _ _ (unhide HXK), ← List.append_assoc, ← unhide HKS]
                  · exact (((unhide HKW).trans (unhide HK9).any).trans ((Keeps.refl (fun _ => False) w9).alloc _).any).then HG.keeps (fun q _ e => (unhide HKB) q e)
                  · intro q e
                    simp [Value.ownBlock] at e
                    subst e
                    rcases HG.how with ⟨e, _⟩ | ⟨e, _⟩
                    · exact (unhide HKB) _ (by rw [e]; rfl)
                    · refine Or.inr (Nat.le_trans (unhide HW69) (Nat.le_trans ?_ e))
                      simp
                case measure => simp [intOf]; omega
            · have hkl : k = fp.length := by omega
              have HX6 := hide ((unhide HQ).bag.all (lone1 (.slice (some ⟨g, 0, none⟩) (l ++ padT 64).length c) (l ++ padT 64)) (List.mem_cons_of_mem _ (List.mem_append_left _ (List.mem_append_right _ (List.mem_cons_self ..))))).1
              have HSC := hide (scribble_v wr (l ++ padT 64) l.length g c w.heap.size (unhide HX6) (by rw [List.length_append]; omega) (by rw [List.length_append, padT_len]; omega))
              have hks : KS = hs ++ hs' := by
                rw [unhide HKS, hkl, List.take_of_length_le]
                have := (unhide HROW5).1
                omega
              subst hks
              have HMG := hide ((unhide HQ).merge (unhide HC).hl)
              have i2 : ¬ (k : Int) < (fp.length : Int) := by omega
              clear hkl
              go_wp2_with fail
              refine (unhide HSC).mono ?_
              rintro e w7 ⟨rfl, hk7⟩
              have HS7 := hide ((unhide HMG).scrib hk7)
              clear hk7
              go_wp2_with fail
              go_roundw
              case rel => exact ⟨i + 1, _, fr, true, S ++ l, hs ++ hs', ps ++ fp, by omega, by go_num, congrArg (Value.int .i64) (by rw [List.length_append]; omega), rfl, HS7, HCN⟩
              case measure => simp [intOf]; omega
        | false =>
          obtain rfl : ec = 0 := unhide HEC
          clear HEC
          go_wp2_with fail
          refine (rest_v w5 sb ao fr.length cap false (unhide HS5).spl.box).mono ?_
          rintro e w6 ⟨rfl, rfl⟩
          go_wp2_with fail
          go_loopw [10, 19] (fun kv kk wq => ∃ (k : Nat) (KS : List Value), k ≤ fp.length ∧ kk = .int .i64 k ∧ Hid (KS = hs ++ hs'.take k) ∧ Hid (Sys w wq sb (.slice ao fr.length cap) fr false sv' (S ++ l) kv KS hs ps (lones hs' fp ++ [lone1 (.slice (some ⟨g, 0, none⟩) (l ++ padT 64).length c) (l ++ padT 64)])) ∧ Hid (Keeps (fun q => q < w1.heap.size ∨ w6.heap.size ≤ q) w6 wq) ∧ Hid (∀ q, kv.ownBlock = some q → q < w1.heap.size ∨ w6.heap.size ≤ q)) (fun _ kk _ => fp.length - (intOf kk).toNat)
          case atStart => exact ⟨0, hs, Nat.zero_le _, rfl, (by show _ = _; simp), HS5, Keeps.refl _ _, fun q e => Or.inl (own_lt (unhide HS1).row e)⟩
          case round =>
            obtain ⟨k, KS, hk, rfl, HKS, HQ, HKW, HKB⟩ := hrel
            by_cases hlk : k < fp.length
            · obtain ⟨p, hpk⟩ : ∃ p, fp[k]? = some p := ⟨_, List.getElem?_eq_getElem hlk⟩
              have hrow := unhide HROW5
              obtain ⟨x, hxk⟩ : ∃ x, hs'[k]? = some x := ⟨_, List.getElem?_eq_getElem (by have := hrow.1; omega)⟩
              have hrq := ownsRow_kept hrow (unhide HKW) (fun q e f => by
                have h1 := own_geO hrow e
                have h2 := own_lt hrow e
                omega)
              have hpq := (unhide HP).keep (Nat.le_refl _) (unhide HKW) (fun q f => f.imp (fun e => Nat.lt_of_lt_of_le e (unhide HW14)) id)
              obtain ⟨gl, vcc, e1, _, hgl⟩ := hrq.form (by omega)
              have HGL := hide hgl
              simp at e1
              obtain ⟨rfl, rfl⟩ := e1
              have hwlen : (ps ++ fp).length = ps.length + fp.length := List.length_append ..
              obtain ⟨gw, wcc, e2, _, _⟩ := hpq.row.form (by omega)
              simp at e2
              obtain ⟨rfl, rfl⟩ := e2
              obtain ⟨y, hy, hyb⟩ := hpq.each (ps.length + k) p (by rw [List.getElem?_append_right (by omega), Nat.add_sub_cancel_left]; exact hpk)
              have hxb : BtAt _ w.heap.size x p := ((unhide HQ).bag.all (lone1 x p) (List.mem_cons_of_mem _ (List.mem_append_left _ (List.mem_append_left _ (List.mem_of_getElem? (lones_get hxk hpk)))))).1
              obtain ⟨xo, xc, rfl⟩ := (rowAt_own hxb).form
              obtain ⟨yo, yc, rfl⟩ := (rowAt_own hyb).form
              have c1 := (hrq.cellAt k (by omega)).trans hxk
              have c2 := (hpq.row.cellAt (ps.length + k) (by omega)).trans hy
              have HEQ : Hid (Calls Try.prog 10 #[.slice xo p.length xc, .slice yo p.length yc] wr.drew fun e w' => e = .returned (.bool true) ∧ Keeps (fun _ => False) wr w') := by
                refine (eqBytes_any wr.drew _ _ p p ((rowAt_own hxb).drewN 1) ((rowAt_own hyb).drewN 1) (by have := (unhide HCN).few.2 p (List.mem_append_right _ (List.mem_of_getElem? hpk)); unfold maxLen; omega)).mono ?_
                rintro e w' ⟨rfl, n, rfl⟩
                exact ⟨ret_bool (by simp), ((Keeps.refl (fun _ => False) wr).drewN 1).drewN n⟩
              have HXK := hide hxk
              have i2 : (k : Int) < (fp.length : Int) := by omega
              have i3 : (0 : Int) ≤ (k : Int) := by omega
              have i4 : (ps.length : Int) + (k : Int) < (ps.length : Int) + (fp.length : Int) := by omega
              have i5 : (0 : Int) ≤ (ps.length : Int) + (k : Int) := by omega
              have i6 : IntKind.i64.wrap ((ps.length : Int) + (k : Int)) = (ps.length : Int) + (k : Int) := by rw [IntKind.wrap_i64]; omega
              have i7 : ((ps.length : Int) + (k : Int)).toNat = ps.length + k := by omega
              have i8 : (k : Int).toNat = k := by omega
              have HKL : Hid (KS.length + 1 ≤ 4398046511104) := by
                show _ ≤ _
                rw [unhide HKS, List.length_append, List.length_take, (unhide HC).hl]
                omega
              clear hrow hrq hpq hpk hy hyb hxb hxk hwlen
              go_upto_region 27 with fail
              go_region_with (go_at_call 10; refine (unhide HEQ).mono ?_; rintro e w9 ⟨rfl, hk9⟩; have HK9 := hide hk9; clear hk9)
              all_goals
                have c19 := ((unhide HK9).cell (o := k) (unhide HGL) id).trans c1
                have HS9 := hide ((unhide HQ).keepF (unhide HK9))
                have HW9 : Hid (w.heap.size ≤ w9.heap.size) := (unhide HS9).base
                have HW69 : Hid (w6.heap.size ≤ w9.heap.size) := Nat.le_trans (unhide HKW).size (unhide HK9).size
                go_wp2_with (at_builtin; refine append_list rfl _ _ rfl w.heap.size u10 KS.length KS rfl (ownsRow_kept (unhide HS9).row ((Keeps.refl _ _).alloc _) (fun _ _ => id)) w9.heap.size 1 (.slice xo p.length xc) rfl (by rw [cell_of_blk (heap_alloc_new w9 _)]; rfl) rfl (unhide HKL) (Nat.le_trans (unhide HW9) (by simp)) ?_; intro g2 cap2 w10 HG)
                go_roundw
                case rel =>
                  refine ⟨k + 1, KS ++ [.slice xo p.length xc], by omega, by go_num, ?_, (unhide HS9).took HG, ?_, ?_⟩
                  · show _ = _
                    rw [take_snoc _ _ _ (unhide HXK), ← List.append_assoc, ← unhide HKS]
                  · exact (((unhide HKW).trans (unhide HK9).any).trans ((Keeps.refl (fun _ => False) w9).alloc _).any).then HG.keeps (fun q _ e => (unhide HKB) q e)
                  · intro q e
                    simp [Value.ownBlock] at e
                    subst e
                    rcases HG.how with ⟨e, _⟩ | ⟨e, _⟩
                    · exact (unhide HKB) _ (by rw [e]; rfl)
                    · refine Or.inr (Nat.le_trans (unhide HW69) (Nat.le_trans ?_ e))
                      simp
                case measure => simp [intOf]; omega
            · have hkl : k = fp.length := by omega
              have HX6 := hide ((unhide HQ).bag.all (lone1 (.slice (some ⟨g, 0, none⟩) (l ++ padT 64).length c) (l ++ padT 64)) (List.mem_cons_of_mem _ (List.mem_append_left _ (List.mem_append_right _ (List.mem_cons_self ..))))).1
              have HSC := hide (scribble_v wr (l ++ padT 64) l.length g c w.heap.size (unhide HX6) (by rw [List.length_append]; omega) (by rw [List.length_append, padT_len]; omega))
              have hks : KS = hs ++ hs' := by
                rw [unhide HKS, hkl, List.take_of_length_le]
                have := (unhide HROW5).1
                omega
              subst hks
              have HMG := hide ((unhide HQ).merge (unhide HC).hl)
              have i2 : ¬ (k : Int) < (fp.length : Int) := by omega
              clear hkl
              go_wp2_with fail
              refine (unhide HSC).mono ?_
              rintro e w7 ⟨rfl, hk7⟩
              have HS7 := hide ((unhide HMG).scrib hk7)
              clear hk7
              go_wp2_with fail
              go_roundw
              case rel => exact ⟨i + 1, _, fr, false, S ++ l, hs ++ hs', ps ++ fp, by omega, by go_num, congrArg (Value.int .i64) (by rw [List.length_append]; omega), rfl, HS7, HCN⟩
              case measure => simp [intOf]; omega
    · have i1 : ¬ (i : Int) < (ls.length : Int) := by omega
      have HSVB := hide (rowAt_own (unhide HD).sv_at)
      go_wp2_with fail
      refine (cut_v wr u7 S (unhide HSVB) (by have := (unhide HC).len; omega)).mono ?_
      rintro e w5 ⟨wo, wc, ws, rfl, hP, hk5⟩
      rw [(unhide HC).cut] at hP ⊢
      have HP : Hid (PartsAt w5 wr.heap.size (.slice wo ps.length wc) ps ws) := hP
      have HS5 := hide ((unhide HD).keepF hk5)
      obtain ⟨ko, kc, rfl⟩ := (rowAt_own (unhide HS5).row).form
      have hl := (unhide HC).hl
      have HROW : Hid (w5.ownsRow w.heap.size 27 1 (.slice ko ps.length kc) ps.length hs) := by have := (unhide HS5).row; rw [hl] at this; exact this
      have HBAG : Hid (Bag w5 w.heap.size (lones hs ps)) := Bag.right (L := [lone1 rv r, lone1 u7 S]) (unhide HS5).bag
      have HKK := hide (unhide HS5).keeps
      have hpl : ps.length ≤ 1048576 := (unhide HC).few.1
      rw [hl]
      clear hP hk5 hl HD HS5
      go_wp2_with fail
      go_loopw [24] (fun kk wq => ∃ k : Nat, k ≤ ps.length ∧ kk = .int .i64 k ∧ Hid (Keeps (fun _ => False) w5 wq)) (fun kk _ => ps.length - (intOf kk).toNat)
      case atStart => exact ⟨0, Nat.zero_le _, rfl, Keeps.refl _ _⟩
      case round =>
        obtain ⟨k, hk, rfl, HKW⟩ := hrel
        by_cases hlk : k < ps.length
        · obtain ⟨p, hpk⟩ : ∃ p, ps[k]? = some p := ⟨_, List.getElem?_eq_getElem hlk⟩
          have hrow := unhide HROW
          obtain ⟨x, hxk⟩ : ∃ x, hs[k]? = some x := ⟨_, List.getElem?_eq_getElem (by have := hrow.1; omega)⟩
          have hrq := ownsRow_kept hrow (unhide HKW) (fun _ _ => id)
          have hpq := (unhide HP).keep (Nat.le_refl _) (unhide HKW) (fun q f => f.elim)
          obtain ⟨gl, vcc, e1, _, _⟩ := hrq.form (by omega)
          simp at e1
          obtain ⟨rfl, rfl⟩ := e1
          obtain ⟨gw, wcc, e2, _, _⟩ := hpq.row.form (by omega)
          simp at e2
          obtain ⟨rfl, rfl⟩ := e2
          obtain ⟨y, hy, hyb⟩ := hpq.each k p hpk
          have hxb : BtAt _ w.heap.size x p := (((unhide HBAG).keepF (unhide HKW)).all (lone1 x p) (List.mem_of_getElem? (lones_get hxk hpk))).1
          obtain ⟨xo, xc, rfl⟩ := (rowAt_own hxb).form
          obtain ⟨yo, yc, rfl⟩ := (rowAt_own hyb).form
          have c1 := (hrq.cellAt k (by omega)).trans hxk
          have c2 := (hpq.row.cellAt k (by omega)).trans hy
          have HEQ : Hid (Calls Try.prog 10 #[.slice xo p.length xc, .slice yo p.length yc] wr.drew fun e w' => e = .returned (.bool true) ∧ Keeps (fun _ => False) wr w') := by
            refine (eqBytes_any wr.drew _ _ p p ((rowAt_own hxb).drewN 1) ((rowAt_own hyb).drewN 1) (by have := (unhide HC).few.2 p (List.mem_of_getElem? hpk); unfold maxLen; omega)).mono ?_
            rintro e w' ⟨rfl, n, rfl⟩
            exact ⟨ret_bool (by simp), ((Keeps.refl (fun _ => False) wr).drewN 1).drewN n⟩
          have i2 : (k : Int) < (ps.length : Int) := by omega
          have i3 : (0 : Int) ≤ (k : Int) := by omega
          have i8 : (k : Int).toNat = k := by omega
          clear hrow hrq hpq hpk hy hyb hxb hxk
          go_upto_region 37 with fail
          go_region_with (go_at_call 10; refine (unhide HEQ).mono ?_; rintro e w9 ⟨rfl, hk9⟩; have HK9 := hide hk9; clear hk9)
          all_goals
            go_wp2_with fail
            go_roundw
            case rel => exact ⟨k + 1, by omega, by go_num, (unhide HKW).trans (unhide HK9)⟩
            case measure => simp [intOf]; omega
        · have i2 : ¬ (k : Int) < (ps.length : Int) := by omega
          have HAP := hide (apart_v wr w.heap.size ko kc hs ps [] (ownsRow_kept (unhide HROW) (unhide HKW) (fun _ _ => id)) (by rw [List.append_nil]; exact (unhide HBAG).keepF (unhide HKW)) (Nat.le_trans (unhide HKK).size (unhide HKW).size) (by omega) (fun p hp => by have := (unhide HC).few.2 p hp; omega))
          go_wp2_with fail
          refine (unhide HAP).mono ?_
          rintro e w9 ⟨rfl, hk9⟩
          have HK9 := hide hk9
          clear hk9
          go_wp2_with fail
          go_ret
          exact ⟨rfl, narrowO ((unhide HKK).trans (unhide HKW)) (unhide HK9) (fun q e => e)⟩
end Go.Proofs.Ytlcfdfcnijjkiaa
