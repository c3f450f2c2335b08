import Derived.Test.YtlcfdfcnijjkiaaJ
namespace Go.Proofs.Ytlcfdfcnijjkiaa
open Go.RowKit Go.Maps

def lenA (ps : List Txt) (j : Nat) : Nat := (ps.getD j []).length
theorem lenA_at {ps : List Txt} {j : Nat} {p : Txt} (h : ps[j]? = some p) : lenA ps j = p.length := by
  unfold lenA
  rw [List.getD_eq_getElem?_getD, h]
  rfl
def upA (i k : Nat) (f : Nat → Nat) (j : Nat) : Nat := if j < i then f j else if j = i then k else 0
theorem upA_end (i : Nat) (f : Nat → Nat) (j : Nat) : upA i (f i) f j = upA (i + 1) 0 f j := by
  unfold upA
  by_cases h : j < i
  · rw [if_pos h, if_pos (by omega)]
  · rw [if_neg h]
    by_cases h2 : j = i
    · rw [if_pos h2, if_pos (by omega), h2]
    · rw [if_neg h2, if_neg (by omega)]
      split <;> rfl
theorem upA_self (i k : Nat) (f : Nat → Nat) : upA i k f i = k := by unfold upA; rw [if_neg (by omega), if_pos rfl]
theorem upA_ne {i k k' : Nat} {f : Nat → Nat} {j : Nat} (h : j ≠ i) : upA i k' f j = upA i k f j := by
  unfold upA
  rw [if_neg h, if_neg h]
theorem upA_zero (f : Nat → Nat) (j : Nat) : upA 0 0 f j = 0 := by unfold upA; split; omega; split <;> rfl
theorem upA_below {i k : Nat} {f : Nat → Nat} {j : Nat} (h : j < i) : upA i k f j = f j := by unfold upA; rw [if_pos h]

section
variable {w wr : World} {B : Nat} {vo : Option Addr} {vc : Nat} {hs : List Value} {ps : List Txt} {t u : Nat → Nat} {its : List Itm} {mv : Value} {ms : List Value}
/-- What a round reads of the lists. -/
theorem Mk.round {i : Nat} (h : Mk w wr B (.slice vo ps.length vc) hs ps t its) (hi : i < ps.length) (ht : t i = 0) : ∃ (g : Nat) (p : Txt) (xo : Option Addr) (xc : Nat), vo = some ⟨g, 0, none⟩ ∧ ps[i]? = some p ∧ hs[i]? = some (.slice xo p.length xc) ∧ p.length ≤ xc ∧ (0 < p.length → ∃ b, xo = some ⟨b, 0, none⟩) := by
  obtain ⟨g, c, e, _, _⟩ := h.row.form (by omega)
  simp at e
  obtain ⟨p, hp⟩ : ∃ p, ps[i]? = some p := ⟨_, List.getElem?_eq_getElem hi⟩
  obtain ⟨x, hx⟩ : ∃ x, hs[i]? = some x := ⟨_, List.getElem?_eq_getElem (by rw [h.lens]; exact hi)⟩
  have hb : BtAt wr B x (overL p (markB i) (t i)) := (h.bag.all _ (List.mem_of_getElem? (h.each i x p hx hp))).1
  rw [ht, overL_zero] at hb
  obtain ⟨xo, xc, rfl⟩ := (rowAt_own hb).form
  refine ⟨g, p, xo, xc, e.1, hp, hx, (rowAt_own hb).room _ _ _ rfl, fun h0 => ?_⟩
  obtain ⟨b, cap, e, _⟩ := hb.form h0
  simp at e
  exact ⟨b, e.1⟩
theorem Gw.round {i : Nat} (h : Gw w wr B (.slice vo ps.length vc) hs ps u mv ms its) (hi : i < ps.length) (hu : u i = 0) : ∃ (g : Nat) (p : Txt) (xo : Option Addr) (xc : Nat), vo = some ⟨g, 0, none⟩ ∧ ps[i]? = some p ∧ hs[i]? = some (.slice xo p.length xc) ∧ its[i]? = some ⟨.slice xo p.length xc, markP i p, .slice xo p.length xc, List.replicate 0 251⟩ := by
  obtain ⟨g, c, e, _, _⟩ := h.row.form (by omega)
  simp at e
  obtain ⟨p, hp⟩ : ∃ p, ps[i]? = some p := ⟨_, List.getElem?_eq_getElem hi⟩
  obtain ⟨x, hx⟩ : ∃ x, hs[i]? = some x := ⟨_, List.getElem?_eq_getElem (by rw [h.lens]; exact hi)⟩
  obtain ⟨vm, e1, _, e3⟩ := h.each i x p hx hp
  obtain rfl := e3 hu
  have hb : BtAt wr B vm (markP i p) := (h.bag.all _ (List.mem_of_getElem? e1)).1
  obtain ⟨xo, xc, rfl⟩ := (rowAt_own hb).form
  rw [markP_len] at *
  rw [hu] at e1
  exact ⟨g, p, xo, xc, e.1, hp, hx, e1⟩
end

set_option maxRecDepth 100000 in
set_option maxHeartbeats 8000000 in
theorem apart_v (w : World) (B : Nat) (vo : Option Addr) (vc : Nat) (hs : List Value) (ps : List Txt) (L : List Itm) (hr : w.ownsRow B 27 1 (.slice vo ps.length vc) ps.length hs) (hb : Bag w B (lones hs ps ++ L)) (hB : B ≤ w.heap.size) (hn : ps.length ≤ 1073741824) (hp : ∀ p ∈ ps, p.length ≤ 1073741824) :
    Calls Try.prog 12 #[.slice vo ps.length vc] w fun e w' => e = .returned (.bool true) ∧ Keeps (fun q => B ≤ q) w w' := by
  have HM := hide (Mk.start hr hb)
  have HR := hide hr
  have HP := hide hp
  have HB := hide hB
  clear hr hb hp hB
  go_enter Try.func12, Try.ntmps12
  go_wp2_with fail
  go_loopw [3] (fun iv wr => ∃ (i : Nat) (its : List Itm), i ≤ ps.length ∧ iv = .int .i64 i ∧ Hid (Mk w wr B (.slice vo ps.length vc) hs ps (upA i 0 (lenA ps)) its)) (fun iv _ => ps.length - (intOf iv).toNat)
  case atStart => exact ⟨0, _, Nat.zero_le _, rfl, (unhide HM).same (fun j p _ => by rw [upA_zero])⟩
  case round =>
    obtain ⟨i, its, hi, rfl, HD⟩ := hrel
    by_cases hlt : i < ps.length
    · obtain ⟨g, p, xo, xc, rfl, hpi, hxi, hxc, hxb⟩ := (unhide HD).round hlt (upA_self ..)
      have hpl : p.length ≤ 1073741824 := unhide HP p (List.mem_of_getElem? hpi)
      have HPI := hide hpi
      have HXI := hide hxi
      have HXB := hide hxb
      have i1 : (i : Int) < (ps.length : Int) := by omega
      have i0 : (0 : Int) ≤ (i : Int) := by omega
      clear hpi hxi hxb
      go_wp2_with fail
      go_loopw [4] (fun kv wq => ∃ (k : Nat) (its : List Itm), k ≤ p.length ∧ kv = .int .i64 k ∧ Hid (Mk w wq B (.slice (some ⟨g, 0, none⟩) ps.length vc) hs ps (upA i k (lenA ps)) its)) (fun kv _ => p.length - (intOf kv).toNat)
      case atStart => exact ⟨0, _, Nat.zero_le _, rfl, HD⟩
      case round =>
        clear HD
        obtain ⟨k, its2, hk, rfl, HD⟩ := hrel
        have c0 := (unhide HD).cell rfl (unhide HXI)
        by_cases hlk : k < p.length
        · obtain ⟨b, rfl⟩ := unhide HXB (by omega)
          have hbt : BtAt _ B (.slice (some ⟨b, 0, none⟩) p.length xc) (overL p (markB i) (upA i k (lenA ps) i)) := ((unhide HD).bag.all _ (List.mem_of_getElem? ((unhide HD).each i _ p (unhide HXI) (unhide HPI)))).1
          rw [upA_self] at hbt
          obtain ⟨⟨d, c1⟩, f1⟩ := hbt.open_ (j := k) (by rw [overL_len (by omega)]; exact hlk)
          have HPUT := hide ((unhide HD).put (t' := upA i (k + 1) (lenA ps)) (unhide HXI) (unhide HPI) (by rw [upA_self]; exact hlk) (by rw [upA_self, upA_self]) (fun j hj => upA_ne hj))
          rw [upA_self, mark_num] at HPUT
          have i2 : (k : Int) < (p.length : Int) := by omega
          have i3 : (0 : Int) ≤ (k : Int) := by omega
          clear hbt
          go_wp2_with fail
          go_roundw
          case rel => exact ⟨k + 1, _, by omega, by go_num, HPUT⟩
          case measure => simp [intOf]; omega
        · have HE := hide ((unhide HD).same (t' := upA (i + 1) 0 (lenA ps)) (fun j p' hj => by
            have : k = lenA ps i := by rw [lenA_at (unhide HPI)]; omega
            rw [this, upA_end]))
          go_wp2_with fail
          go_roundw
          case rel => exact ⟨i + 1, _, by omega, by go_num, HE⟩
          case measure => simp [intOf]; omega
    · have hie : i = ps.length := by omega
      have HG := hide (Gw.start (unhide HD) (unhide HR) (fun j p hj => by rw [upA_below (by rw [hie]; exact get_lt hj), lenA_at hj]))
      clear HD HM
      have i1 : ¬ (i : Int) < (ps.length : Int) := by omega
      clear hie
      go_wp2_with fail
      go_loopw [5, 6] (fun mv iv wr => ∃ (i : Nat) (ms : List Value) (its : List Itm), i ≤ ps.length ∧ iv = .int .i64 i ∧ ms.length = i ∧ Hid (Gw w wr B (.slice vo ps.length vc) hs ps (upA i 0 (fun _ => 64)) mv ms its)) (fun _ iv _ => ps.length - (intOf iv).toNat)
      case atStart => exact ⟨0, [], _, Nat.zero_le _, rfl, rfl, (unhide HG).same (fun j _ => by rw [upA_zero])⟩
      case round =>
        clear HG i1
        obtain ⟨i, ms, its, hi, rfl, hms, HD⟩ := hrel
        by_cases hlt : i < ps.length
        · obtain ⟨g, p, xo, xc, rfl, hpi, hxi, hti⟩ := (unhide HD).round hlt (upA_self ..)
          have hpl : p.length ≤ 1073741824 := unhide HP p (List.mem_of_getElem? hpi)
          have c0 := (unhide HD).cell rfl hxi
          have HPI := hide hpi
          have HXI := hide hxi
          have HTI := hide hti
          have i1 : (i : Int) < (ps.length : Int) := by omega
          have i0 : (0 : Int) ≤ (i : Int) := by omega
          clear hpi hxi hti
          go_wp2_with fail
          go_loopw [7, 8] (fun lv kv wq => ∃ (k : Nat) (its : List Itm), k ≤ 64 ∧ kv = .int .i64 k ∧ Hid (Gw w wq B (.slice (some ⟨g, 0, none⟩) ps.length vc) hs ps (upA i k (fun _ => 64)) u5 ms its) ∧ Hid (its[i]? = some ⟨.slice xo p.length xc, markP i p, lv, List.replicate k 251⟩)) (fun _ kv _ => 64 - (intOf kv).toNat)
          case atStart => exact ⟨0, _, Nat.zero_le _, rfl, HD, HTI⟩
          case round =>
            clear HD HTI c0
            rename_i wr0
            obtain ⟨k, its2, hk, rfl, HD, HTI⟩ := hrel
            have HLV : Hid (BtAt wr B u7 (markP i p ++ List.replicate k 251)) := ((unhide HD).bag.all _ (List.mem_of_getElem? (unhide HTI))).2
            have HLL : Hid ((markP i p ++ List.replicate k (251 : UInt8)).length = p.length + k) := by show _ = _; rw [List.length_append, markP_len, List.length_replicate]
            have HBW : Hid (B ≤ wr.heap.size) := Nat.le_trans (unhide HB) (unhide HD).keeps.size
            by_cases hlk : k < 64
            · have i2 : (k : Int) < 64 := by omega
              go_wp2_with (at_builtin; refine append_bytes rfl _ _ rfl B u7 (markP i p ++ List.replicate k 251) rfl ((unhide HLV).alloc _) wr.heap.size 0 1 1 [251] rfl rfl (cell1 rfl) (by omega) (by rw [unhide HLL]; omega) (Nat.le_trans (unhide HBW) (by simp)) ?_; intro g2 cap2 w3 HG)
              go_roundw
              case rel =>
                have := (unhide HD).grow (u' := upA i (k + 1) (fun _ => 64)) (unhide HXI) (unhide HPI) (unhide HTI) (by omega) (by rw [upA_self]) (fun j hj => upA_ne hj) rfl HG
                refine ⟨k + 1, _, by omega, by go_num, this.1, ?_⟩
                show _ = _
                simpa only [List.length_append, List.length_replicate] using this.2
              case measure => simp [intOf]; omega
            · obtain rfl : k = 64 := by omega
              obtain ⟨lo, lc, rfl⟩ := (rowAt_own (unhide HLV)).form
              have HMR : Hid (wr.ownsRow w.heap.size 27 1 u5 ms.length ms) := (unhide HD).mrow
              have HWW : Hid (w.heap.size ≤ wr.heap.size) := (unhide HD).keeps.size
              rw [unhide HLL] at *
              go_wp2_with (at_builtin; refine append_list rfl _ _ rfl w.heap.size u5 ms.length ms rfl (ownsRow_kept (unhide HMR) ((Keeps.refl _ _).alloc _) (fun _ _ => id)) wr.heap.size 1 (.slice lo (p.length + 64) lc) rfl (by rw [cell_of_blk (heap_alloc_new wr _)]; rfl) rfl (by omega) (Nat.le_trans (unhide HWW) (by simp)) ?_; intro g2 cap2 w3 HG)
              go_roundw
              case rel =>
                have := ((unhide HD).more (unhide HXI) (unhide HPI) (unhide HTI) hms HG (unhide HB)).same (u' := upA (i + 1) 0 (fun _ => 64)) (fun j _ => upA_end i (fun _ => 64) j)
                rw [hms] at this
                exact ⟨i + 1, _, _, by omega, by go_num, (by rw [List.length_append, hms]; rfl), this⟩
              case measure => simp [intOf]; omega
        · obtain rfl : i = ps.length := by omega
          have i1 : ¬ (ps.length : Int) < (ps.length : Int) := by omega
          have HG := HD
          have HMS := hide hms
          clear HD hms
          go_wp2_with fail
          go_loopw [9] (fun iv wq => ∃ i : Nat, i ≤ ps.length ∧ iv = .int .i64 i ∧ wq = wr) (fun iv _ => ps.length - (intOf iv).toNat)
          case atStart => exact ⟨0, Nat.zero_le _, rfl, rfl⟩
          case round =>
            obtain ⟨i, hi, rfl, rfl⟩ := hrel
            by_cases hlt : i < ps.length
            · obtain ⟨g, _, e, _, _⟩ := (unhide HG).row.form (by omega)
              simp at e
              obtain ⟨rfl, rfl⟩ := e
              obtain ⟨p, hpi⟩ : ∃ p, ps[i]? = some p := ⟨_, List.getElem?_eq_getElem hlt⟩
              obtain ⟨x, hxi⟩ : ∃ x, hs[i]? = some x := ⟨_, List.getElem?_eq_getElem (by rw [(unhide HG).lens]; exact hlt)⟩
              have hms := unhide HMS
              obtain ⟨mg, mc, rfl, _, _⟩ := (unhide HG).mrow.form (by omega)
              obtain ⟨xo, xc, yg, yc, rfl, hmi, hxc, hyc, hx, hy⟩ := (unhide HG).ends hxi hpi (upA_below hlt) (by omega)
              have c0 := (unhide HG).cell rfl hxi
              have c1 := ((unhide HG).mrow.cellAt i (by omega)).trans hmi
              have hpl : p.length ≤ 1073741824 := unhide HP p (List.mem_of_getElem? hpi)
              have HX := hide hx
              have HY := hide hy
              have i1 : (i : Int) < (ps.length : Int) := by omega
              have i0 : (0 : Int) ≤ (i : Int) := by omega
              have i3 : (i : Int) < (ms.length : Int) := by omega
              clear hx hy hmi hxi hpi hms
              go_wp2_with fail
              go_loopw [11] (fun kv wz => ∃ k : Nat, k ≤ p.length + 64 ∧ kv = .int .i64 k ∧ wz = wr) (fun kv _ => p.length + 64 - (intOf kv).toNat)
              case atStart => exact ⟨0, Nat.zero_le _, rfl, rfl⟩
              case round =>
                obtain ⟨k, hk, rfl, rfl⟩ := hrel
                have k0 : (0 : Int) ≤ (k : Int) := by omega
                by_cases hlk : k < p.length
                · obtain ⟨b, rfl, d0⟩ := unhide HX k hlk
                  have k1 : (k : Int) < (p.length : Int) := by omega
                  have k2 : (k : Int) < (p.length : Int) + 64 := by omega
                  go_wp2_with fail
                  go_roundw
                  case rel => exact ⟨k + 1, by omega, by go_num, trivial⟩
                  case measure => simp [intOf]; omega
                by_cases hlk2 : k < p.length + 64
                · have d0 := unhide HY k (by omega) hlk2
                  have k1 : ¬ (k : Int) < (p.length : Int) := by omega
                  have k2 : (k : Int) < (p.length : Int) + 64 := by omega
                  go_wp2_with fail
                  go_roundw
                  case rel => exact ⟨k + 1, by omega, by go_num, trivial⟩
                  case measure => simp [intOf]; omega
                · have k2 : ¬ (k : Int) < (p.length : Int) + 64 := by omega
                  go_wp2_with fail
                  go_roundw
                  case rel => exact ⟨i + 1, by omega, by go_num, trivial⟩
                  case measure => simp [intOf]; omega
            · have i1 : ¬ (i : Int) < (ps.length : Int) := by omega
              go_wp2_with fail
              go_ret
              exact ⟨rfl, (unhide HG).keeps⟩
end Go.Proofs.Ytlcfdfcnijjkiaa
