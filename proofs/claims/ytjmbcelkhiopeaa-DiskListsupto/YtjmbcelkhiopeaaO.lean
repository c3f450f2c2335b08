import Derived.Test.YtjmbcelkhiopeaaN
namespace Go.Proofs.Ytjmbcelkhiopeaa
open Go.RowKit Go.Maps
attribute [local go_sem ↓] Go.wp_at_zero Go.wp_at_succ

set_option maxRecDepth 100000 in
set_option maxHeartbeats 4000000 in
theorem played_any (w wp : World) (D n s : Nat) (r : Int) (A0 : AS) (v : Value) (acts : List Pt) (arm : Int) (S0 : DS) (hA : Acts w v acts) (hlen : acts.length ≤ 2147483647) (hI0 : PInv w D r A0 acts n s 0 S0 wp) (hd0 : S0.dead = false) (harm : S0.left = max arm (-1)) (h4 : s ≤ 1024) (h3 : 32 ≤ s) :
    Calls Try.prog 17 #[.pointer (some ⟨D, 0, none⟩), v, .int .i64 arm, .int .i64 n, .int .i64 s] wp fun e w' => ∃ (m : Nat) (S : DS), m ≤ acts.length ∧ e = .returned (.tuple #[.int .i64 m, .bool true]) ∧ PInv w D r A0 acts n s m S w' ∧ (S.dead = false → m = acts.length) := by
  obtain ⟨ao, cap, rfl⟩ := hA.form
  have HA := hide hA
  have HI0 := hide hI0
  have HD0 := hide hd0
  have hmax : max arm (-1) = S0.left := harm.symm
  clear hA hI0 hd0 harm
  have hcase : (arm ≤ -1 ∧ S0.left = -1) ∨ (-1 < arm ∧ S0.left = arm) := by omega
  have HC := hide hcase
  clear hmax hcase
  go_enter Try.func17, Try.ntmps17
  go_wp2_with fail
  all_goals
    go_loopw [12, 13] (fun l i wr => ∃ (k : Nat) (S : DS), k ≤ acts.length ∧ i = .int .i64 k ∧ l = .int .i64 S.left ∧ S.dead = false ∧ PInv w D r A0 acts n s k S wr) (fun _ i _ => acts.length - (intOf i).toNat)
    case atStart =>
      refine ⟨0, S0, Nat.zero_le _, rfl, ?_, unhide HD0, unhide HI0⟩
      have := unhide HC
      congr 1
      omega
    case round =>
      obtain ⟨k, S, hk, rfl, rfl, hdead, hI⟩ := hrel
      clear HC HI0 HD0
      by_cases hlt : k < acts.length
      · obtain ⟨b, off, cap', e1, hblt, hc⟩ := (unhide HA).cells (by omega)
        simp at e1
        obtain ⟨rfl, rfl⟩ := e1
        obtain ⟨p, hp⟩ : ∃ p, acts[k]? = some p := ⟨_, List.getElem?_eq_getElem hlt⟩
        obtain ⟨c0, c1, c2⟩ := hc k p hp
        obtain ⟨fl, sc, bb⟩ := p
        simp only at c0 c1 c2
        have HP := hide hp
        have i1 : (k : Int) < (acts.length : Int) := by omega
        have i0 : (0 : Int) ≤ (k : Int) := by omega
        have d0 := (hI.below.cell (p := ⟨b, off + k * 3, none⟩) hblt).trans c0
        have d1 := (hI.below.cell (p := ⟨b, off + k * 3 + 1, none⟩) hblt).trans c1
        have d2 := (hI.below.cell (p := ⟨b, off + k * 3 + 2, none⟩) hblt).trans c2
        have hl0 := hI.left0
        have hl1 := hI.left1
        have HI := hide hI
        have HD := hide hdead
        clear hc hp c0 c1 c2 hI hdead
        cases fl with
        | true =>
          have HF := hide (flush_ok wr _ S (unhide HI).disk (unhide HD) (by have := (unhide HI).ws; omega) (unhide HI).f0 (by have := (unhide HI).f1; omega))
          rw [(unhide HI).D] at HF
          go_wp2_with fail
          refine (unhide HF).mono ?_
          rintro e w3 ⟨rfl, M, hd, hk3⟩
          have HX := hide hd
          have HK := hide hk3
          clear hd hk3
          go_wp2
          go_roundw
          case rel => exact ⟨k + 1, S.flushed M, by omega, by go_num, rfl, unhide HD, (unhide HI).flush (unhide HD) (unhide HX) (unhide HK) (unhide HP) rfl⟩
          case measure => simp [intOf]; omega
        | false =>
          by_cases hin : 0 ≤ sc ∧ sc < (n : Int)
          · obtain ⟨ha0, ha1⟩ := hin
            obtain ⟨c, rfl⟩ := Int.eq_ofNat_of_zero_le ha0
            have hneg : ¬ ((c : Int) < 0) := by omega
            by_cases hz : S.left = 0
            · have HZ := hide hz
              rw [hz]
              clear hz
              go_wp2_with fail
              go_region_held3 (fun w' => w'.cell? ⟨b, off + k * 3 + 1, none⟩ = some (.int .i64 c) ∧ w'.cell? ⟨b, off + k * 3 + 2, none⟩ = some (.int .u8 bb))
                (go_keep)
                (first
                  | (go_at_call 13
                     refine (text_any bb s _ h4).mono ?_
                     rintro e wt ⟨tv, rfl, ht, hkt⟩
                     obtain ⟨g, tc, rfl, hg1, hg2⟩ := ht.form (by omega)
                     have k1 : wt.cell? ⟨b, off + k * 3 + 1, none⟩ = some (.int .i64 c) := (hkt.cell (Nat.lt_of_lt_of_le hblt (unhide HI).below.size) id).trans d1
                     have k2 : wt.cell? ⟨b, off + k * 3 + 2, none⟩ = some (.int .u8 bb) := (hkt.cell (Nat.lt_of_lt_of_le hblt (unhide HI).below.size) id).trans d2
                     have HT1 := hide ht
                     have HK1 := hide hkt
                     clear ht hkt)
                  | (go_at_call 12
                     refine (PInv.writes (unhide HI) (unhide HD) ((Keeps.refl _ _).drew.trans (unhide HK1)) (unhide HT1) (by omega) (by omega) (unhide HP)).mono ?_
                     rintro e w3 ⟨he, S', hI', hl', hd'⟩
                     rw [if_pos (unhide HZ)] at he
                     subst he
                     have k3 : w3.cell? ⟨b, off + k * 3 + 1, none⟩ = some (.int .i64 c) := (hI'.below.cell (p := ⟨b, _, none⟩) hblt).trans (((unhide HI).below.cell (p := ⟨b, _, none⟩) hblt).symm.trans d1)
                     have k4 : w3.cell? ⟨b, off + k * 3 + 2, none⟩ = some (.int .u8 bb) := (hI'.below.cell (p := ⟨b, _, none⟩) hblt).trans (((unhide HI).below.cell (p := ⟨b, _, none⟩) hblt).symm.trans d2)
                     have HI' := hide hI'
                     have HL' := hide hl'
                     have HD' := hide hd'
                     clear hI' hl' hd'))
              have hb' := (unhide HI').disk.blk
              rw [(unhide HI').D] at hb'
              have c6 : w3.cell? ⟨D, 6, none⟩ = some (.bool true) := by
                have e1 : S'.dead = true := by rw [unhide HD', unhide HZ]; rfl
                rw [cell_of_blk hb', ← e1]; rfl
              clear hb'
              go_wp2_with fail
              refine (dead_any _ _ _ c6).mono ?_
              rintro e w4 ⟨rfl, rfl⟩
              go_wp2
              go_ret2
              exact ⟨k + 1, S', by omega, by go_num, unhide HI', fun e => by rw [unhide HD', unhide HZ] at e; cases e⟩
            · have h0 : (S.left == 0) = false := beq_eq_false_iff_ne.2 hz
              have HZ := hide hz
              clear hz
              by_cases hp0 : 0 < S.left
              · go_wp2_with fail
                go_region_held3 (fun w' => w'.cell? ⟨b, off + k * 3 + 1, none⟩ = some (.int .i64 c) ∧ w'.cell? ⟨b, off + k * 3 + 2, none⟩ = some (.int .u8 bb))
                  (go_keep)
                  (first
                    | (go_at_call 13
                       refine (text_any bb s _ h4).mono ?_
                       rintro e wt ⟨tv, rfl, ht, hkt⟩
                       obtain ⟨g, tc, rfl, hg1, hg2⟩ := ht.form (by omega)
                       have k1 : wt.cell? ⟨b, off + k * 3 + 1, none⟩ = some (.int .i64 c) := (hkt.cell (Nat.lt_of_lt_of_le hblt (unhide HI).below.size) id).trans d1
                       have k2 : wt.cell? ⟨b, off + k * 3 + 2, none⟩ = some (.int .u8 bb) := (hkt.cell (Nat.lt_of_lt_of_le hblt (unhide HI).below.size) id).trans d2
                       have HT1 := hide ht
                       have HK1 := hide hkt
                       clear ht hkt)
                    | (go_at_call 12
                       refine (PInv.writes (unhide HI) (unhide HD) ((Keeps.refl _ _).drew.trans (unhide HK1)) (unhide HT1) (by omega) (by omega) (unhide HP)).mono ?_
                       rintro e w3 ⟨he, S', hI', hl', hd'⟩
                       rw [if_neg (unhide HZ)] at he
                       subst he
                       have k3 : w3.cell? ⟨b, off + k * 3 + 1, none⟩ = some (.int .i64 c) := (hI'.below.cell (p := ⟨b, _, none⟩) hblt).trans (((unhide HI).below.cell (p := ⟨b, _, none⟩) hblt).symm.trans d1)
                       have k4 : w3.cell? ⟨b, off + k * 3 + 2, none⟩ = some (.int .u8 bb) := (hI'.below.cell (p := ⟨b, _, none⟩) hblt).trans (((unhide HI).below.cell (p := ⟨b, _, none⟩) hblt).symm.trans d2)
                       have HI' := hide hI'
                       have HL' := hide hl'
                       have HD' := hide hd'
                       clear hI' hl' hd'))
                go_wp2
                go_roundw
                case rel =>
                  refine ⟨k + 1, S', by omega, by go_num, ?_, ?_, unhide HI'⟩
                  · rw [unhide HL', if_neg (by omega)]
                  · rw [unhide HD', decide_eq_false (unhide HZ)]
                case measure => simp [intOf]; omega
              · go_wp2_with fail
                go_region_held3 (fun w' => w'.cell? ⟨b, off + k * 3 + 1, none⟩ = some (.int .i64 c) ∧ w'.cell? ⟨b, off + k * 3 + 2, none⟩ = some (.int .u8 bb))
                  (go_keep)
                  (first
                    | (go_at_call 13
                       refine (text_any bb s _ h4).mono ?_
                       rintro e wt ⟨tv, rfl, ht, hkt⟩
                       obtain ⟨g, tc, rfl, hg1, hg2⟩ := ht.form (by omega)
                       have k1 : wt.cell? ⟨b, off + k * 3 + 1, none⟩ = some (.int .i64 c) := (hkt.cell (Nat.lt_of_lt_of_le hblt (unhide HI).below.size) id).trans d1
                       have k2 : wt.cell? ⟨b, off + k * 3 + 2, none⟩ = some (.int .u8 bb) := (hkt.cell (Nat.lt_of_lt_of_le hblt (unhide HI).below.size) id).trans d2
                       have HT1 := hide ht
                       have HK1 := hide hkt
                       clear ht hkt)
                    | (go_at_call 12
                       refine (PInv.writes (unhide HI) (unhide HD) ((Keeps.refl _ _).drew.trans (unhide HK1)) (unhide HT1) (by omega) (by omega) (unhide HP)).mono ?_
                       rintro e w3 ⟨he, S', hI', hl', hd'⟩
                       rw [if_neg (unhide HZ)] at he
                       subst he
                       have k3 : w3.cell? ⟨b, off + k * 3 + 1, none⟩ = some (.int .i64 c) := (hI'.below.cell (p := ⟨b, _, none⟩) hblt).trans (((unhide HI).below.cell (p := ⟨b, _, none⟩) hblt).symm.trans d1)
                       have k4 : w3.cell? ⟨b, off + k * 3 + 2, none⟩ = some (.int .u8 bb) := (hI'.below.cell (p := ⟨b, _, none⟩) hblt).trans (((unhide HI).below.cell (p := ⟨b, _, none⟩) hblt).symm.trans d2)
                       have HI' := hide hI'
                       have HL' := hide hl'
                       have HD' := hide hd'
                       clear hI' hl' hd'))
                go_wp2
                go_roundw
                case rel =>
                  refine ⟨k + 1, S', by omega, by go_num, ?_, ?_, unhide HI'⟩
                  · rw [unhide HL', if_pos (by omega)]
                  · rw [unhide HD', decide_eq_false (unhide HZ)]
                case measure => simp [intOf]; omega
          · have HO := hide (show sc < 0 ∨ (n : Int) ≤ sc by omega)
            have hcs : sc < 0 ∨ (¬ sc < 0 ∧ (n : Int) ≤ sc) := by omega
            clear hin
            rcases hcs with hneg | ⟨hneg, hbig⟩
            all_goals
              go_wp2_with fail
              go_region_held3 (fun w' => w'.cell? ⟨b, off + k * 3 + 1, none⟩ = some (.int .i64 sc) ∧ w'.cell? ⟨b, off + k * 3 + 2, none⟩ = some (.int .u8 bb))
                (go_keep)
                (first
                  | (go_at_call 13
                     refine (text_any bb s _ h4).mono ?_
                     rintro e wt ⟨tv, rfl, ht, hkt⟩
                     have k1 : wt.cell? ⟨b, off + k * 3 + 1, none⟩ = some (.int .i64 sc) := (hkt.cell (Nat.lt_of_lt_of_le hblt (unhide HI).below.size) id).trans d1
                     have k2 : wt.cell? ⟨b, off + k * 3 + 2, none⟩ = some (.int .u8 bb) := (hkt.cell (Nat.lt_of_lt_of_le hblt (unhide HI).below.size) id).trans d2
                     have HT1 := hide ht
                     have HK1 := hide hkt
                     clear ht hkt)
                  | (go_at_call 12
                     refine (PInv.refuses (unhide HI) (unhide HD) ((Keeps.refl _ _).drew.trans (unhide HK1)) _ (unhide HP) rfl (unhide HO)).mono ?_
                     rintro e w3 ⟨rfl, hI'⟩
                     have k3 : w3.cell? ⟨b, off + k * 3 + 1, none⟩ = some (.int .i64 sc) := (hI'.below.cell (p := ⟨b, _, none⟩) hblt).trans (((unhide HI).below.cell (p := ⟨b, _, none⟩) hblt).symm.trans d1)
                     have k4 : w3.cell? ⟨b, off + k * 3 + 2, none⟩ = some (.int .u8 bb) := (hI'.below.cell (p := ⟨b, _, none⟩) hblt).trans (((unhide HI).below.cell (p := ⟨b, _, none⟩) hblt).symm.trans d2)
                     have HI' := hide hI'
                     clear hI'))
              go_wp2
              go_roundw
              case rel => exact ⟨k + 1, S, by omega, by go_num, rfl, unhide HD, unhide HI'⟩
              case measure => simp [intOf]; omega
      · obtain rfl : k = acts.length := by omega
        have hb' := hI.disk.blk
        rw [hI.D] at hb'
        have c6 : wr.cell? ⟨D, 6, none⟩ = some (.bool false) := by rw [cell_of_blk hb', ← hdead]; rfl
        have HI := hide hI
        have HD := hide hdead
        clear hb' hI hdead
        go_wp2_with fail
        refine (dead_any _ _ _ c6).mono ?_
        rintro e w4 ⟨rfl, rfl⟩
        go_wp2
        go_ret2
        exact ⟨acts.length, S, Nat.le_refl _, rfl, unhide HI, fun _ => rfl⟩

end Go.Proofs.Ytjmbcelkhiopeaa
