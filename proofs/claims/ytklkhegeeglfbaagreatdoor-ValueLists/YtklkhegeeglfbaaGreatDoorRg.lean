import Derived.Test.YtklkhegeeglfbaaGreatDoorJs
namespace Go.Proofs.YtklkhegeeglfbaaGreatDoor
open Go.RowKit Go.Maps

/-- How much is left of a text that is still read. -/
def leftB : Value → Value → Nat
  | .string s, .bool true => s.size + 1
  | _, _ => 0
theorem drewN_heap (w : World) (n : Nat) : (w.drewN n).heap = w.heap := (drewN_os w n).2.2.2

set_option maxRecDepth 100000 in
set_option maxHeartbeats 4000000 in
theorem val_parseSchema (t : Txt) (w : World) (ht : t.length ≤ 4294967280) (hE : Env w) :
    Calls Tryz.prog 18 #[str t] w fun e w' => ∃ v', e = .returned (.tuple #[.agg #[v'], .int .i64 (parseSchemaB t).2]) ∧ w'.ownsRow w.heap.size 69 3 v' (parseSchemaB t).1.length (fcs (parseSchemaB t).1) ∧ Keeps (fun _ => False) w w' := by
  obtain ⟨i0, hi, hz0, hz1, hz2⟩ := info_parts Tryz.info69
  obtain ⟨D, HD⟩ : ∃ D, Hid (parseSchemaB t = D) := ⟨_, rfl⟩
  rw [unhide HD]
  obtain ⟨w2, hw2⟩ : ∃ w2, w2 = (w.alloc (.cells #[.slice none 0 0] 26)).alloc (.cells #[.slice none 0 0] 26) := ⟨_, rfl⟩
  have hK : Keeps (fun _ => False) w w2 := by rw [hw2]; exact ((Keeps.refl _ _).alloc _).alloc _
  have hs2 : w2.heap.size = w.heap.size + 2 := by rw [hw2]; simp
  have b0 : w2.heap[w.heap.size]? = some (.cells #[.slice none 0 0] 26 (0, 0)) := by
    rw [hw2, Below.heap_alloc _ _ _ (by simp)]
    exact heap_alloc_new w _
  have b1 : w2.heap[w.heap.size + 1]? = some (.cells #[.slice none 0 0] 26 (0, 0)) := by
    rw [hw2]
    have := heap_alloc_new (w.alloc (.cells #[.slice none 0 0] 26)) (.cells #[.slice none 0 0] 26)
    simpa using this
  have HE : Hid (D = match psLoop (t.length + 1) t [] 0 with | none => ([], 63) | some l => if schemaB l then (l, 0) else ([], 60)) := by show _ = _; rw [← unhide HD]; rfl
  have HW := hide hw2
  have HK := hide hK
  have B0 := hide b0
  have B1 := hide b1
  have HS := hide hs2
  have HEN2 := hide (hE.keepF hK)
  have hglob : 4 < w.heap.size := by obtain ⟨ev, h, _⟩ := hE.rang; exact World.block_lt_of_cell? w _ h
  clear hw2 hK b0 b1 hs2 hE
  go_enter Tryz.func18, Tryz.ntmps18
  go_wp2_with fail
  rw [← unhide HW]
  go_loopw [0, 5] (fun x mo wr => ∃ (a f n oc : Nat) (oo : Option Addr) (acc : List FieldA), x = str (t.drop a) ∧ mo = .bool (decide (a ≤ t.length)) ∧ a ≤ t.length + 1 ∧ t.length + 1 ≤ a + f ∧ Hid ((acc.take 9).length = n) ∧ n ≤ 9 ∧ Hid (acc.length < 9 → acc.length = n) ∧ wr.heap[w.heap.size + 1]? = some (.cells #[.slice oo n oc] 26 (0, 0)) ∧ wr.ownsRow w2.heap.size 69 3 (.slice oo n oc) n (fcs (acc.take 9)) ∧ Hid (psLoop (t.length + 1) t [] 0 = psLoop f t acc a) ∧ Keeps (fun q => w.heap.size + 1 ≤ q) w2 wr) (fun x mo _ => leftB x mo)
  case atStart => exact ⟨0, t.length + 1, 0, 0, none, [], by simp, by simp, by omega, by omega, rfl, by omega, fun _ => rfl, unhide B1, World.ownsRow_nil w2 w2.heap.size 69 3, rfl, Keeps.refl _ _⟩
  case round =>
    obtain ⟨a, f, n, oc, oo, acc, rfl, rfl, ha, haf, HN, hn9, HN2, hbo, hown, HU, hkp⟩ := hrel
    have HBo := hide hbo
    have HO := hide hown
    have HP := hide hkp
    have p2 : wr.cell? ⟨w.heap.size + 1, 0, none⟩ = some (.slice oo n oc) := by rw [cell_of_blk hbo]; rfl
    have f2 := frozen_of_blk hbo 0
    have z2 := lt_of_block hbo
    have hb0 : wr.heap[w.heap.size]? = some (.cells #[.slice none 0 0] 26 (0, 0)) := by rw [hkp.block _ (lt_of_block (unhide B0)) (by show ¬ _ ≤ _; omega)]; exact unhide B0
    have s2 : w2.heap.size ≤ wr.heap.size := hkp.size
    have hs2 : w2.heap.size = w.heap.size + 2 := unhide HS
    by_cases hal : a ≤ t.length
    · obtain ⟨f, rfl⟩ : ∃ f', f = f' + 1 := ⟨f - 1, by omega⟩
      obtain ⟨en, HEN⟩ : ∃ en, Hid (comma t a = en) := ⟨_, rfl⟩
      have hen : a ≤ en ∧ en ≤ t.length := by rw [← unhide HEN]; exact ⟨scan_ge _ _ _, scan_le _ _ _ hal⟩
      obtain ⟨X, HX⟩ : ∃ X : Txt, Hid (t.drop a = X) := ⟨_, hide rfl⟩
      have hXl : X.length = t.length - a := by rw [← unhide HX, List.length_drop]
      have HQ := hide (cut_v X [44] wr (by omega) ((unhide HEN2).most.imp fun m h => by
        rw [hkp.cell (World.block_lt_of_cell? w2 _ h) (show ¬ w.heap.size + 1 ≤ 1 by omega)]; exact h))
      rw [← unhide HX, cut44 t a hal, unhide HEN] at HQ
      obtain ⟨s, HSS⟩ : ∃ s : Txt, Hid ((t.drop a).take (en - a) = s) := ⟨_, hide rfl⟩
      obtain ⟨Y, HY⟩ : ∃ Y : Txt, Hid (t.drop (en + 1) = Y) := ⟨_, hide rfl⟩
      have hsl : s.length ≤ 4294967280 := by rw [← unhide HSS]; simp; omega
      rw [unhide HSS, unhide HY, unhide HX] at HQ
      have HU2 := hide ((unhide HU).trans (psLoop_step (f := f) hal))
      rw [unhide HEN, unhide HSS] at HU2
      rw [unhide HX, decide_eq_true hal]
      have HTw : Hid (Types wr) := (unhide HEN2).types.keep (unhide HP) (by show ¬ _ ≤ _; omega)
      have H0 := hide hb0
      have hXs := hide hXl
      clear hbo hown hkp hb0 hXl
      go_wp2_with fail
      refine (unhide HQ).mono ?_
      rintro e w4 ⟨rfl, nd, hwd⟩
      have hk4 : Keeps (fun _ => False) wr w4 := by rw [hwd]; exact keeps_drewN wr nd
      have HK4 := hide hk4
      have HQ2 := hide (parseField_v s w4 hsl ((unhide HTw).keepF hk4))
      clear hwd hk4 HQ
      generalize sfieldB s = R at *
      go_wp2_with fail
      refine (unhide HQ2).mono ?_
      rintro e w5 ⟨x, rfl, hxR, hk5'⟩
      have hk5 := (unhide HK4).trans hk5'
      have z0 : w.heap.size < wr.heap.size := by omega
      have z5 : w.heap.size + 1 < w5.heap.size := Nat.lt_of_lt_of_le z2 hk5.size
      have hb5 : w5.heap[w.heap.size]? = some (.cells #[.slice none 0 0] 26 (0, 0)) := by rw [hk5.block _ z0 id]; exact unhide H0
      have hbo5 : w5.heap[w.heap.size + 1]? = some (.cells #[.slice oo n oc] 26 (0, 0)) := by rw [hk5.block _ z2 id]; exact unhide HBo
      have c5 : w5.cell? ⟨w.heap.size, 0, none⟩ = some (.slice none 0 0) := by rw [cell_of_blk hb5]; rfl
      have f5 := frozen_of_blk hb5 0
      have p5 : w5.cell? ⟨w.heap.size + 1, 0, none⟩ = some (.slice oo n oc) := by rw [cell_of_blk hbo5]; rfl
      have g5 := frozen_of_blk hbo5 0
      have z05 : w.heap.size < w5.heap.size := by omega
      have s5 : w2.heap.size ≤ w5.heap.size := by have := hk5.size; omega
      have HO5 := hide (ownsRow_kept (unhide HO) hk5 (fun _ _ => id))
      have HP5 := hide ((unhide HP).then hk5 (fun _ _ h => h.elim))
      have HB5 := hide hb5
      have HBo5 := hide hbo5
      have HXR := hide hxR
      clear hk5 hb5 hbo5 HQ2 p2 f2 z2 hs2 s2 hk5' HK4 hxR
      cases R with
      | none =>
        have HE9 : Hid (D = ([], 63)) := by show _ = _; rw [unhide HE, unhide HU2]
        simp only [Option.isSome_none]
        go_wp2_with fail
        have hq2 : ((w5.setCell ⟨w.heap.size, 0, none⟩ (.slice none 0 0)).alloc (.cells #[str x.name, .int .i64 x.type, .bool x.opt] 69)).cell? ⟨w.heap.size, 0, none⟩ = some (.slice none 0 0) := by
          rw [cell_of_blk (show _ = _ from (Below.heap_alloc _ _ _ (by simp; omega)).trans (heap_setCell_at (unhide HB5) _))]; rfl
        refine bodyPost_ret (v := .tuple #[.agg #[.slice none 0 0], .int .i64 63]) (by simp [results, go_sem, hq2]) rfl ?_
        refine ⟨.slice none 0 0, by rw [unhide HE9], ?_, ?_⟩
        · rw [unhide HE9]; exact World.ownsRow_nil _ w.heap.size 69 3
        · exact (unhide HK).narrow (F := fun q => w.heap.size ≤ q) ((((unhide HP5).mono (G := fun q => w.heap.size ≤ q) (fun q _ h => by omega)).then (keeps_set w5 w.heap.size 0 _) (fun q _ h => by omega)).alloc _) (fun q h => h)
      | some y =>
        obtain rfl : x = y := (unhide HXR) y rfl
        have HU3 : Hid (psLoop (t.length + 1) t [] 0 = psLoop f t (acc ++ [x]) (en + 1)) := unhide HU2
        have HN5 := hide (ownsRow_ne (unhide HO5) (unhide HBo5) (by decide))
        have HME : Hid (leftB (str Y) (.bool (decide (en < t.length))) < leftB (str X) (.bool true)) := by
          show _ < X.length + 1
          by_cases h : en < t.length
          · rw [decide_eq_true h]
            show Y.length + 1 < X.length + 1
            rw [← unhide HY, ← unhide HX, List.length_drop, List.length_drop]
            omega
          · rw [decide_eq_false h]
            show 0 < _
            omega
        have HDE : Hid (decide (en < t.length) = decide (en + 1 ≤ t.length)) := rfl
        simp only [Option.isSome_some]
        by_cases hn8 : n ≤ 8
        · have hn8' : (n : Int) ≤ 8 := by omega
          have HAC : Hid (acc.length = n) := by
            have h1 := unhide HN
            rw [List.length_take] at h1
            show _ = _
            omega
          have HAT : Hid (acc.take 9 = acc) := List.take_of_length_le (by have := unhide HAC; omega)
          have HAT2 : Hid ((acc ++ [x]).take 9 = acc ++ [x]) := List.take_of_length_le (by rw [List.length_append, unhide HAC]; simp; omega)
          rw [unhide HAT] at HO5
          go_wp2_with (at_builtin; refine wpList_append_lies _ rfl _ _ _ rfl w2.heap.size 69 i0 _ 3 32 Tryz.underlying24 hi hz0 hz1 hz2 rfl (by omega) (.slice oo n oc) n (fcs acc) rfl (((unhide HO5).alloc _).alloc _) ⟨w5.heap.size + 1, 0, none⟩ 1 1 x.cs rfl rfl (World.news_of_block (cs := #[str x.name, .int .i64 x.type, .bool x.opt]) (t := 69) (fr := (0, 0)) (by have q := heap_alloc_new (w5.alloc (.cells #[str x.name, .int .i64 x.type, .bool x.opt] 69)) (.cells #[str x.name, .int .i64 x.type, .bool x.opt] 69); rw [World.size_alloc] at q; exact q)) (by simp [Value.oneCell', FieldA.cs]) (by omega) (by unfold maxLen; omega) (by omega) (by simp; omega) (w5.heap.size + 2) (by simp) ?_; intro g cap' w6 hown1 hgrow hat hlt1; have hb6 := (hgrow.block (w.heap.size + 1) (by simp; omega) (Ne.symm (unhide HN5))).trans ((Below.heap_alloc _ _ _ (by simp; omega)).trans ((Below.heap_alloc _ _ _ (by omega)).trans (unhide HBo5))); have p6 := cell_of_blk hb6 0; have f6 := frozen_of_blk hb6 0; simp at p6; have H6 := hide hb6; clear hb6)
          all_goals
            have hb6 := unhide H6
            go_roundw
            case rel =>
              refine ⟨en + 1, f, n + 1, cap', some ⟨g, 0, none⟩, acc ++ [x], by rw [unhide HY], rfl, by omega, by omega, ?_, by omega, ?_, ?_, ?_, unhide HU3, ?_⟩
              · show _ = _; rw [unhide HAT2, List.length_append, unhide HAC]; rfl
              · intro _; rw [List.length_append, unhide HAC]; rfl
              · rw [heap_setCell_at hb6]; rfl
              · rw [unhide HAT2, fcs_snocZ]
                exact ownsRow_kept (F := fun q => q = w.heap.size + 1) hown1 (keeps_set w6 _ 0 _) (fun q e e2 => by subst e2; exact ownsRow_ne hown1 hb6 (by decide) e)
              · exact ((((unhide HP5).alloc _).alloc _).grown hgrow (fun q e hq => by have := ((unhide HO5).lt q e).1; have := unhide HS; omega)).then (keeps_set w6 (w.heap.size + 1) 0 _) (fun q _ h => by omega)
            case measure => exact unhide HME
        · have hn8' : ¬ (n : Int) ≤ 8 := by omega
          have HA9 : Hid (9 ≤ acc.length) := by
            have h1 := unhide HN
            rw [List.length_take] at h1
            show _ ≤ _
            omega
          have HAT : Hid ((acc ++ [x]).take 9 = acc.take 9) := List.take_append_of_le_length (unhide HA9)
          go_wp2_with fail
          go_roundw
          case rel =>
            refine ⟨en + 1, f, n, oc, oo, acc ++ [x], by rw [unhide HY], rfl, by omega, by omega, ?_, by omega, ?_, ?_, ?_, unhide HU3, (unhide HP5).alloc _⟩
            · show _ = _; rw [unhide HAT]; exact unhide HN
            · intro h; rw [List.length_append] at h; have := unhide HA9; simp at h; omega
            · exact (Below.heap_alloc _ _ _ z5).trans (unhide HBo5)
            · rw [unhide HAT]; exact (unhide HO5).alloc _
          case measure => exact unhide HME
    · have HUE : Hid (psLoop (t.length + 1) t [] 0 = some acc) := by show _ = _; rw [unhide HU, psLoop_end (by omega)]
      obtain ⟨L, HL⟩ : ∃ L, Hid (acc.take 9 = L) := ⟨_, hide rfl⟩
      have HDE : Hid (D = if schemaB L then (L, 0) else ([], 60)) := by
        show _ = _
        rw [unhide HE, unhide HUE, ← unhide HL]
        obtain ⟨h1, h2⟩ := schema_take9 acc
        cases hs : schemaB acc with
        | true =>
          rw [hs] at h1
          simp only [hs, if_true, h2 hs]
        | false =>
          rw [hs] at h1
          simp only [hs, ← h1, Bool.false_eq_true, if_false]
      rw [unhide HL] at HN hown HO
      have HFA : Hid (FldsAt wr (.slice oo n oc) L) := by
        have h1 := rowAt_own hown
        unfold FldsAt
        rw [unhide HN]
        exact h1
      have HTw : Types wr := (unhide HEN2).types.keep hkp (show ¬ w.heap.size + 1 ≤ 0 by omega)
      have HQ := hide (checkSchema_v L _ wr HTw (unhide HFA))
      rw [decide_eq_false hal]
      have H0 := hide hb0
      clear hbo hown hkp hb0 hs2 HTw
      go_wp2_with fail
      refine (unhide HQ).mono ?_
      rintro e w5 ⟨rfl, hk5⟩
      have z0 : w.heap.size < wr.heap.size := by omega
      have hb5 : w5.heap[w.heap.size]? = some (.cells #[.slice none 0 0] 26 (0, 0)) := by rw [hk5.block _ z0 id]; exact unhide H0
      have hbo5 : w5.heap[w.heap.size + 1]? = some (.cells #[.slice oo n oc] 26 (0, 0)) := by rw [hk5.block _ z2 id]; exact unhide HBo
      have c5 : w5.cell? ⟨w.heap.size, 0, none⟩ = some (.slice none 0 0) := by rw [cell_of_blk hb5]; rfl
      have f5 := frozen_of_blk hb5 0
      have p5 : w5.cell? ⟨w.heap.size + 1, 0, none⟩ = some (.slice oo n oc) := by rw [cell_of_blk hbo5]; rfl
      have HO5 := hide (ownsRow_kept (unhide HO) hk5 (fun _ _ => id))
      have HP5 := hide ((unhide HP).then hk5 (fun _ _ h => h.elim))
      have HB5 := hide hb5
      have HNE := hide (ownsRow_ne (unhide HO5) hb5 (by decide))
      clear hk5 hb5 hbo5 HQ p2 f2 z2 s2
      rcases errS_eq L with ⟨hs, he⟩ | ⟨hs, he⟩
      · rw [he]
        have HE9 : Hid (D = (L, 0)) := by show _ = _; rw [unhide HDE, if_pos hs]
        clear hs he
        have hq1 : (w5.setCell ⟨w.heap.size, 0, none⟩ (.slice oo n oc)).cell? ⟨w.heap.size, 0, none⟩ = some (.slice oo n oc) := by rw [cell_of_blk (heap_setCell_at (unhide HB5) _)]; rfl
        go_wp2_with fail
        refine bodyPost_ret (v := .tuple #[.agg #[.slice oo n oc], .int .i64 0]) (by simp [results, go_sem, hq1]) rfl ?_
        refine ⟨.slice oo n oc, by rw [unhide HE9], ?_, ?_⟩
        · rw [unhide HE9]
          show World.ownsRow _ _ _ _ _ L.length _
          rw [unhide HN]
          exact ownsRow_lower (ownsRow_kept (F := fun q => q = w.heap.size) (unhide HO5) (keeps_set w5 _ 0 _) (fun q e e2 => by subst e2; exact unhide HNE e)) (by have := unhide HS; omega)
        · exact (unhide HK).narrow (F := fun q => w.heap.size ≤ q) (((unhide HP5).mono (G := fun q => w.heap.size ≤ q) (fun q _ h => by omega)).then (keeps_set w5 w.heap.size 0 _) (fun q _ h => by omega)) (fun q h => h)
      · rw [he]
        have HE9 : Hid (D = ([], 60)) := by show _ = _; rw [unhide HDE]; simp [hs]
        clear hs he
        have hq1 : (w5.setCell ⟨w.heap.size, 0, none⟩ (.slice none 0 0)).cell? ⟨w.heap.size, 0, none⟩ = some (.slice none 0 0) := by rw [cell_of_blk (heap_setCell_at (unhide HB5) _)]; rfl
        go_wp2_with fail
        refine bodyPost_ret (v := .tuple #[.agg #[.slice none 0 0], .int .i64 60]) (by simp [results, go_sem, hq1]) rfl ?_
        refine ⟨.slice none 0 0, by rw [unhide HE9], ?_, ?_⟩
        · rw [unhide HE9]; exact World.ownsRow_nil _ w.heap.size 69 3
        · exact (unhide HK).narrow (F := fun q => w.heap.size ≤ q) (((unhide HP5).mono (G := fun q => w.heap.size ≤ q) (fun q _ h => by omega)).then (keeps_set w5 w.heap.size 0 _) (fun q _ h => by omega)) (fun q h => h)
end Go.Proofs.YtklkhegeeglfbaaGreatDoor
