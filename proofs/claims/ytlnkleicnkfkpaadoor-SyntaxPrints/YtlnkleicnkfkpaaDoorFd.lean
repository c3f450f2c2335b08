import Derived.Test.YtlnkleicnkfkpaaDoorFc
namespace Go.Proofs.YtlnkleicnkfkpaaDoor
open Go.RowKit Go.Maps

set_option maxRecDepth 100000 in
set_option maxHeartbeats 3200000 in
theorem bstmts_v (B g : Nat) (N : Nat) : ∀ (l : SL), l.size < N → l.size ≤ 2147483647 → ∀ (w : World) (up : Nat) (v vS vE : Value) (LE LS : List (Nat × Nat)), B ≤ w.heap.size → SlS (argZ B) w up v l → Bh w B g LE LS vS vE → LE.length + 2 * l.size ≤ 100000000000 → LS.length + 2 * l.size ≤ 100000000000 →
    Calls Tryd.prog 7 #[.pointer (some ⟨g, 0, none⟩), v] w (CPost B g l LE LS w) := by
  induction N with
  | zero => intro l h; omega
  | succ N ih =>
    intro l hsz hlen' w up v vS vE LE LS hB hS hBh hbd hbs
    have hlen : l.len ≤ 2147483647 := by have := SL.len_le l; omega
    obtain ⟨ao, cap, b, off, rfl, hcap, ha, hx⟩ := hS.open
    obtain ⟨c0, hc0, hrun⟩ := run_mkS l.len hlen w
    have hlo := hBh.lo
    have IH := hide ih
    have HX := hide hx
    have HA := hide ha
    have HBH := hide hBh
    clear hS ih hx ha hBh
    go_enter Tryd.func7, Tryd.ntmps7
    go_wp2_with fail
    have HK0 : Hid (Keeps (fun _ => False) w (w.alloc (.cells c0 51))) := hide ((Keeps.refl _ w).alloc _)
    go_loopw [6] (fun i wr => ∃ (pre rest : SL) (k : Nat) (c : Array Value) (LE' LS' : List (Nat × Nat)) (vS' vE' : Value), i = .int .i64 k ∧ l = pre.app rest ∧ k = pre.len ∧ wr.heap[w.heap.size]? = some (.cells c 51 (0, 0)) ∧ c.size = (l.len + 8) * 5 ∧ StIn cpyZ wr pre w.heap.size 0 ∧ Bh wr B g LE' LS' vS' vE' ∧ LE'.length ≤ LE.length + pre.size ∧ LS'.length ≤ LS.length + 2 * pre.size ∧ (∀ p ∈ LE', p ∈ LE ∨ w.heap.size + 1 ≤ p.1) ∧ (∀ p ∈ LS', p ∈ LS ∨ w.heap.size + 1 ≤ p.1) ∧ Keeps (BF w B g) w wr ∧ StIn (argZ B) wr rest b (off + k * 5)) (fun i _ => l.len - (intOf i).toNat)
    case atStart => exact ⟨.nil, l, 0, c0, LE, LS, vS, vE, rfl, rfl, rfl, heap_alloc_new w _, hc0, trivial, (unhide HBH).keepF (unhide HK0), by simp [SL.size], by simp [SL.size], fun p hp => Or.inl hp, fun p hp => Or.inl hp, (unhide HK0).any, by simpa using (unhide HX).keepF (unhide HK0)⟩
    case round =>
      obtain ⟨pre, rest, k, c, LE', LS', vS', vE', rfl, happ, hkp, hblk, hcs, hpre, hbh, hle, hls', hnew, hnewS, hkeep, hr⟩ := hrel
      have hll := congrArg SL.len happ
      have hls := congrArg SL.size happ
      rw [SL.len_app] at hll
      rw [SL.size_app] at hls
      have HAPP := hide happ
      have happ' := happ
      have HKP := hide hkp
      clear happ
      cases rest with
      | nil =>
        rw [SL.app_nil] at happ'
        subst happ'
        simp only [SL.len, SL.size] at hll hls
        have i1 : ¬ (k : Int) < (l.len : Int) := by omega
        have i3 : (l.len : Int) ≤ 2147483647 := by omega
        have hkl : k = l.len := hkp
        have hsw : w.heap.size < wr.heap.size := lt_of_block hblk
        have HPRE := hide hpre
        have HBH1 := hide hbh
        have HNEW := hide hnew
        have HNEWS := hide hnewS
        have HBLK := hide hblk
        have HK := hide hkeep
        have HLE := hide hle
        have HLS := hide hls'
        clear hr hpre hbh hnew hnewS hblk hkeep hle hls' hkp hll hls
        go_wp2_with fail
        go_loopw [7] (fun i w2 => ∃ (j : Nat) (c : Array Value), i = .int .i64 j ∧ l.len ≤ j ∧ j ≤ l.len + 8 ∧ w2.heap[w.heap.size]? = some (.cells c 51 (0, 0)) ∧ c.size = (l.len + 8) * 5 ∧ (∀ q, l.len ≤ q → q < j → c[q * 5]? = some (.int .i64 (9000 + (q : Int))) ∧ c[q * 5 + 1]? = some (str behindT)) ∧ StIn cpyZ w2 l w.heap.size 0 ∧ Bh w2 B g LE' LS' vS' vE' ∧ Keeps (BF w B g) w w2) (fun i _ => l.len + 8 - (intOf i).toNat)
        case atStart => exact ⟨l.len, c, rfl, Nat.le_refl _, by omega, unhide HBLK, hcs, fun q h1 h2 => by omega, unhide HPRE, unhide HBH1, unhide HK⟩
        case round =>
          obtain ⟨j, c2, rfl, hj1, hj2, hblk, hcs2, hmk, hpre, hbh, hkeep⟩ := hrel
          have HPRE2 := hide hpre
          have HBH2 := hide hbh
          have HBLK2 := hide hblk
          have HK2 := hide hkeep
          have HMK := hide hmk
          clear HPRE HBH1 HBLK HK
          by_cases hj8 : j < l.len + 8
          · have j1 : (j : Int) < (l.len : Int) + 8 := by omega
            have j0 : (0 : Int) ≤ (j : Int) := by omega
            obtain ⟨x0, hx0⟩ : ∃ x, c2[j * 5]? = some x := ⟨_, Array.getElem?_eq_getElem (by omega)⟩
            have a0 := (cell_of_blk hblk (j * 5)).trans hx0
            have z0 := frozen_of_blk hblk (j * 5)
            obtain ⟨x1, hx1⟩ : ∃ x, c2[j * 5 + 1]? = some x := ⟨_, Array.getElem?_eq_getElem (by omega)⟩
            have a1 := (cell_of_blk hblk (j * 5 + 1)).trans hx1
            have z1 := frozen_of_blk hblk (j * 5 + 1)
            obtain ⟨x2, hx2⟩ : ∃ x, c2[j * 5 + 2]? = some x := ⟨_, Array.getElem?_eq_getElem (by omega)⟩
            have a2 := (cell_of_blk hblk (j * 5 + 2)).trans hx2
            have z2 := frozen_of_blk hblk (j * 5 + 2)
            obtain ⟨x3, hx3⟩ : ∃ x, c2[j * 5 + 3]? = some x := ⟨_, Array.getElem?_eq_getElem (by omega)⟩
            have a3 := (cell_of_blk hblk (j * 5 + 3)).trans hx3
            have z3 := frozen_of_blk hblk (j * 5 + 3)
            obtain ⟨x4, hx4⟩ : ∃ x, c2[j * 5 + 4]? = some x := ⟨_, Array.getElem?_eq_getElem (by omega)⟩
            have a4 := (cell_of_blk hblk (j * 5 + 4)).trans hx4
            have z4 := frozen_of_blk hblk (j * 5 + 4)
            clear hpre hbh hblk hkeep hmk
            go_wp2_with fail
            obtain ⟨c3, hc3, hs3, e0, e1, e2, e3, e4, eo⟩ := set5_blk (unhide HBLK2) j (.int .i64 (9000 + (j : Int))) (str behindT) (.slice none 0 0) (.slice none 0 0) (.slice none 0 0) (by omega)
            have hks := set5_keeps wr w.heap.size j (.int .i64 (9000 + (j : Int))) (str behindT) (.slice none 0 0) (.slice none 0 0) (.slice none 0 0)
            have hbh0 := unhide HBH
            have hne : ∀ p ∈ LE', p.1 ≠ w.heap.size := fun p hp => by
              rcases (unhide HNEW) p hp with h | h
              · have := hbh0.ltE h; omega
              · omega
            have hneS : ∀ p ∈ LS', p.1 ≠ w.heap.size := fun p hp => by
              rcases (unhide HNEWS) p hp with h | h
              · have := hbh0.ltS h; omega
              · omega
            go_roundw
            case rel =>
              refine ⟨j + 1, c3, by go_num, by omega, by omega, hc3, by omega, fun q h1 h2 => ?_, set5_high (unhide HPRE2) hj1 _ _ _ _ _, (unhide HBH2).apart (s := true) ⟨c2, unhide HBLK2⟩ hne hneS hks, (unhide HK2).then hks (fun i hi e => by omega)⟩
              by_cases hq : q = j
              · subst hq
                exact ⟨e0, e1⟩
              · rw [eo (q * 5) (by omega), eo (q * 5 + 1) (by omega)]
                exact (unhide HMK) q h1 (by omega)
            case measure => simp [intOf]; omega
          · have j1 : ¬ (j : Int) < (l.len : Int) + 8 := by omega
            obtain rfl : j = l.len + 8 := by omega
            obtain ⟨i0, hi, hz0, hz1, hz2⟩ := info_parts Tryd.info22
            have cg := (cell_of_blk hbh.blk 0).trans (show (#[vS', vE'] : Array Value)[0]? = some vS' from rfl)
            have zg := frozen_of_blk hbh.blk 0
            have hgl := lt_of_block hbh.blk
            have hgE : ¬ vS'.ownBlock = some g := fun e => by
              obtain ⟨_, c, hc⟩ := own_block hbh.rowS e
              exact kind_ne hc hbh.blk (by decide) rfl
            have hl9 : LS'.length ≤ LS.length + 2 * l.size := unhide HLS
            have hBr : B ≤ wr.heap.size := by have := hkeep.size; omega
            have HMKE : Hid (MarkS wr (w.heap.size, l.len)) := hide ⟨c2, hblk, fun q h1 h2 => hmk q h1 h2, hlen⟩
            clear hpre hbh hblk hkeep hmk
            go_wp2_with (at_builtin; refine wpList_append_lies _ rfl _ _ _ rfl B 22 i0 _ 1 24 Tryd.underlying29 hi hz0 hz1 hz2 rfl (by omega) vS' LS'.length (LS'.map slv) rfl ((unhide HBH2).rowS.alloc _) ⟨wr.heap.size, 0, none⟩ 1 1 [slv (w.heap.size, l.len)] rfl rfl (World.news_of_block (cs := #[Value.slice (some ⟨w.heap.size, 0, none⟩) (l.len + 8) (l.len + 8)]) (t := 22) (fr := (0, 0)) (heap_alloc_new wr _)) (by simp [Value.oneCell', slv]) (by omega) (by unfold maxLen; omega) (by omega) (by simp; omega) (wr.heap.size + 1) (by simp) ?_; intro g' cap6 w6 hown6 hgrow hat hlt6; have k6 : Keeps (fun q => vS'.ownBlock = some q) wr w6 := ((Keeps.refl _ wr).alloc _).trans ((Keeps.refl (fun q => vS'.ownBlock = some q) _).grown hgrow (fun q e _ => e)); have cg6 := (k6.cell (o := 0) hgl hgE).trans cg; have zg6 := frozen_of_blk ((k6.block g hgl hgE).trans (unhide HBH2).blk) 0; have HO6 := hide hown6; have HGR := hide hgrow; clear hown6 hgrow hat k6)
            go_ret
            obtain ⟨hbh7, hk7⟩ := (unhide HBH2).lentS (unhide HMKE) _ (unhide HO6) (unhide HGR)
            have hle2 := unhide HLE
            refine ⟨LE', LS' ++ [(w.heap.size, l.len)], _, _, rfl, fun up hup => ⟨_, _, rfl, by omega, fun _ => ⟨w.heap.size, 0, rfl, hup, StIn.bf (unhide HBH2) hk7 (unhide HPRE2)⟩⟩, hbh7, hle2, by simp; omega, fun p hp => ?_, fun p hp => ?_, bf_trans (unhide HK2) hk7⟩
            · rcases (unhide HNEW) p hp with h | h
              · exact Or.inl h
              · exact Or.inr (by omega)
            · rcases List.mem_append.1 hp with hp | hp
              · rcases (unhide HNEWS) p hp with h | h
                · exact Or.inl h
                · exact Or.inr (by omega)
              · obtain rfl : p = (w.heap.size, l.len) := by simpa using hp
                exact Or.inr (Nat.le_refl _)
      | cons op f ex th el rest =>
        obtain ⟨h1, h2, h3, h4, ⟨xv, h5, hxs⟩, ⟨tao, tcap, h6, h6', h8⟩, ⟨eao, ecap, h7, h7', g8⟩, h9⟩ := hr
        simp only [SL.len, SL.size] at hll hls
        have hkl : k + (rest.len + 1) = l.len := by omega
        have hks : pre.size + (ex.size + th.size + el.size + rest.size + 1) = l.size := by omega
        clear hll hls hkp happ'
        obtain ⟨rfl, hp⟩ := (unhide HA) (by omega)
        have HTH : Hid (SlS (argZ B) wr b (.slice tao th.len tcap) th) := ⟨tao, tcap, rfl, h6', h8⟩
        have HEL : Hid (SlS (argZ B) wr b (.slice eao el.len ecap) el) := ⟨eao, ecap, rfl, h7', g8⟩
        have HEX := hide hxs
        obtain ⟨xao, xcap, rfl, hxl⟩ := hxs.head
        have HR := hide h9
        have HK := hide hkeep
        have HPRE := hide hpre
        have HBH1 := hide hbh
        have HNEW := hide hnew
        have HNEWS := hide hnewS
        have HBLK := hide hblk
        have hbB : b < B := h2
        have i1 : (k : Int) < (l.len : Int) := by omega
        have i0 : (0 : Int) ≤ (k : Int) := by omega
        have i2 : (k : Int) < (l.len : Int) + 8 := by omega
        have hsw : w.heap.size < wr.heap.size := lt_of_block hblk
        have HD : Hid (Keeps (fun _ => False) wr wr.drew) := hide (Keeps.refl _ wr).drew
        have HCALL := hide (bexprs_v B B g (ex.size + 1) ex (by omega) (by omega) wr.drew b (.slice xao ex.len xcap) vS' vE' LE' LS' (by show B ≤ wr.heap.size; omega) (by show B ≤ wr.heap.size; omega) (((unhide HEX).keepF (unhide HD)).mix (Nat.le_refl B) b) ((unhide HBH1).keepF (unhide HD)) (by omega))
        obtain ⟨x0, hx0⟩ : ∃ x, c[k * 5]? = some x := ⟨_, Array.getElem?_eq_getElem (by omega)⟩
        obtain ⟨x1, hx1⟩ : ∃ x, c[k * 5 + 1]? = some x := ⟨_, Array.getElem?_eq_getElem (by omega)⟩
        obtain ⟨x2, hx2⟩ : ∃ x, c[k * 5 + 2]? = some x := ⟨_, Array.getElem?_eq_getElem (by omega)⟩
        obtain ⟨x3, hx3⟩ : ∃ x, c[k * 5 + 3]? = some x := ⟨_, Array.getElem?_eq_getElem (by omega)⟩
        obtain ⟨x4, hx4⟩ : ∃ x, c[k * 5 + 4]? = some x := ⟨_, Array.getElem?_eq_getElem (by omega)⟩
        have hnbf := cpy_bf hbh (s := true) ⟨c, hblk⟩
        have hab : w.heap.size ≠ b := by omega
        have hle9 := hle
        have hls9 := hls'
        clear h2 h8 h9 hkeep hpre hbh hnew hnewS hblk hxs g8 hle hls'
        go_wp2_with fail
        go_region_held3 (fun w' => w'.cell? ⟨b, off + k * 5, none⟩ = some (.int .i64 op) ∧ w'.cell? ⟨b, off + k * 5 + 1, none⟩ = some (str f) ∧ w'.cell? ⟨b, off + k * 5 + 2, none⟩ = some (.slice xao ex.len xcap) ∧ w'.cell? ⟨b, off + k * 5 + 3, none⟩ = some (.slice tao th.len tcap) ∧ w'.cell? ⟨b, off + k * 5 + 4, none⟩ = some (.slice eao el.len ecap)) (first | (refine ⟨?_, ?_, ?_, ?_, ?_⟩ <;> (simp only [cell_far hab]; assumption)) | exact ⟨u3, u4, u5, u6, u7⟩ | exact ⟨t3, t4, t5, t6, t7⟩ | exact ⟨s3, s4, s5, s6, s7⟩ | exact ⟨h3, h4, h5, h6, h7⟩)
          ((first
            | (go_at_call 8; refine (unhide HCALL).mono ?_; rintro e w1 ⟨LE1, vE1, rfl, hsl, hbh1, hle1, hnew1, hk1⟩; have s3 := (hk1.cell h1 (fun f => by have := f.lo hlo; omega)).trans h3; have s4 := (hk1.cell h1 (fun f => by have := f.lo hlo; omega)).trans h4; have s5 := (hk1.cell h1 (fun f => by have := f.lo hlo; omega)).trans h5; have s6 := (hk1.cell h1 (fun f => by have := f.lo hlo; omega)).trans h6; have s7 := (hk1.cell h1 (fun f => by have := f.lo hlo; omega)).trans h7; have hl1 : wr.heap.size ≤ w1.heap.size := hk1.size; have h1a : b < w1.heap.size := (by omega); have HSL := hide hsl; have HBH2 := hide hbh1; have HLE1 := hide hle1; have HNEW1 := hide hnew1; have HK1 := hide hk1; clear hsl hbh1 hle1 hnew1 hk1)
            | (go_at_call_of 7 (Value.slice tao th.len tcap); refine (unhide IH th (by omega) (by omega) w1 b (.slice tao th.len tcap) vS' vE1 LE1 LS' (by omega) (((unhide HTH).keepF (unhide HD)).argKeep (unhide HK1) (fun k f => f.lo hlo)) (unhide HBH2) (by have := unhide HLE1; omega) (by omega)).mono ?_; rintro e w2 ⟨LE2, LS2, vS2, vE2, rfl, hsl, hbh1, hle1, hls1, hnew1, hnewS1, hk1⟩; have t3 := (hk1.cell h1a (fun f => by have := f.lo hlo; omega)).trans s3; have t4 := (hk1.cell h1a (fun f => by have := f.lo hlo; omega)).trans s4; have t5 := (hk1.cell h1a (fun f => by have := f.lo hlo; omega)).trans s5; have t6 := (hk1.cell h1a (fun f => by have := f.lo hlo; omega)).trans s6; have t7 := (hk1.cell h1a (fun f => by have := f.lo hlo; omega)).trans s7; have hl2 : w1.heap.size ≤ w2.heap.size := hk1.size; have h1b : b < w2.heap.size := (by omega); clear s3 s4 s5 s6 s7; have HSL2 := hide hsl; have HBH3 := hide hbh1; have HLE2 := hide hle1; have HLS2 := hide hls1; have HNEW2 := hide hnew1; have HNEWS2 := hide hnewS1; have HK2 := hide hk1; clear hsl hbh1 hle1 hls1 hnew1 hnewS1 hk1)
            | (go_at_call_of 7 (Value.slice eao el.len ecap); refine (unhide IH el (by omega) (by omega) w2 b (.slice eao el.len ecap) vS2 vE2 LE2 LS2 (by omega) ((((unhide HEL).keepF (unhide HD)).argKeep (unhide HK1) (fun k f => f.lo hlo)).argKeep (unhide HK2) (fun k f => f.lo hlo)) (unhide HBH3) (by have := unhide HLE1; have := unhide HLE2; omega) (by have := unhide HLS2; omega)).mono ?_; rintro e w3 ⟨LE3, LS3, vS3, vE3, rfl, hsl, hbh1, hle1, hls1, hnew1, hnewS1, hk1⟩; have u3 := (hk1.cell h1b (fun f => by have := f.lo hlo; omega)).trans t3; have u4 := (hk1.cell h1b (fun f => by have := f.lo hlo; omega)).trans t4; have u5 := (hk1.cell h1b (fun f => by have := f.lo hlo; omega)).trans t5; have u6 := (hk1.cell h1b (fun f => by have := f.lo hlo; omega)).trans t6; have u7 := (hk1.cell h1b (fun f => by have := f.lo hlo; omega)).trans t7; have hl3 : w2.heap.size ≤ w3.heap.size := hk1.size; clear t3 t4 t5 t6 t7; have hkk := bf_trans (bf_trans (unhide HK1) (unhide HK2)) hk1; have hb1 := (hkk.block w.heap.size hsw hnbf).trans (unhide HBLK); have a0 := (cell_of_blk hb1 (k * 5)).trans hx0; have z0 := frozen_of_blk hb1 (k * 5); have a1 := (cell_of_blk hb1 (k * 5 + 1)).trans hx1; have z1 := frozen_of_blk hb1 (k * 5 + 1); have a2 := (cell_of_blk hb1 (k * 5 + 2)).trans hx2; have z2 := frozen_of_blk hb1 (k * 5 + 2); have a3 := (cell_of_blk hb1 (k * 5 + 3)).trans hx3; have z3 := frozen_of_blk hb1 (k * 5 + 3); have a4 := (cell_of_blk hb1 (k * 5 + 4)).trans hx4; have z4 := frozen_of_blk hb1 (k * 5 + 4); have HB1 := hide hb1; have HKK := hide hkk; have HSL3 := hide hsl; have HBH4 := hide hbh1; have HLE3 := hide hle1; have HLS3 := hide hls1; have HNEW3 := hide hnew1; have HNEWS3 := hide hnewS1; have HK3 := hide hk1; have HNUM := hide (And.intro hl1 (And.intro hl2 (And.intro hl3 (And.intro hsz (And.intro hlen' (And.intro hB (And.intro hbd (And.intro hbs (And.intro hlen (And.intro hkl (And.intro hks (And.intro hsw (And.intro hle9 (And.intro hls9 hcs)))))))))))))); clear hb1 hkk hsl hbh1 hle1 hls1 hnew1 hnewS1 hk1 h3 h4 h5 h6 h7 h6' h7' hrun hc0 hcap hxl h1 h1a h1b hl1 hl2 hl3 hsz hlen' hB hbd hbs hkl hks hle9 hls9 hcs hbB hx0 hx1 hx2 hx3 hx4 hnbf)))
        go_wp2_with fail
        obtain ⟨hl1, hl2, hl3, hsz, hlen', hB, hbd, hbs, hlen2, hkl, hks, hsw2, hle9, hls9, hcs⟩ := unhide HNUM
        have hk := unhide HKP
        have hbh0 := unhide HBH
        have hbd1 := (unhide HBH1).keepF (unhide HD)
        have q1 := StIn.bf (unhide HBH3) (unhide HK3) (StIn.bf (unhide HBH2) (unhide HK2) (StIn.bf hbd1 (unhide HK1) ((unhide HPRE).keepF (unhide HD))))
        have q2 := SlE.bf (unhide HBH3) (unhide HK3) (SlE.bf (unhide HBH2) (unhide HK2) ((unhide HSL) w.heap.size hsw))
        have q3 := SlS.bf (unhide HBH3) (unhide HK3) ((unhide HSL2) w.heap.size (by omega))
        have q4 := (unhide HSL3) w.heap.size (by omega)
        obtain ⟨⟨c2, hc2, hcs2⟩, hx9⟩ := copyS_step (op := op) (f := f) (unhide HB1) hk (by omega) q1 q2 q3 q4
        have hne : ∀ p ∈ LE3, p.1 ≠ w.heap.size ∧ (p ∈ LE ∨ w.heap.size + 1 ≤ p.1) := fun p hp => by
          have key : p ∈ LE' ∨ wr.heap.size ≤ p.1 := by
            rcases (unhide HNEW3) p hp with h | h
            · rcases (unhide HNEW2) p h with h | h
              · exact (unhide HNEW1) p h
              · exact Or.inr (by omega)
            · exact Or.inr (by omega)
          rcases key with h | h
          · rcases (unhide HNEW) p h with h | h
            · have := hbh0.ltE h
              exact ⟨by omega, Or.inl h⟩
            · exact ⟨by omega, Or.inr h⟩
          · exact ⟨by omega, Or.inr (by omega)⟩
        have hneS : ∀ p ∈ LS3, p.1 ≠ w.heap.size ∧ (p ∈ LS ∨ w.heap.size + 1 ≤ p.1) := fun p hp => by
          have key : p ∈ LS' ∨ wr.heap.size ≤ p.1 := by
            rcases (unhide HNEWS3) p hp with h | h
            · rcases (unhide HNEWS2) p h with h | h
              · exact Or.inl h
              · exact Or.inr (by omega)
            · exact Or.inr (by omega)
          rcases key with h | h
          · rcases (unhide HNEWS) p h with h | h
            · have := hbh0.ltS h
              exact ⟨by omega, Or.inl h⟩
            · exact ⟨by omega, Or.inr h⟩
          · exact ⟨by omega, Or.inr (by omega)⟩
        have hks2 := set5_keeps w3 w.heap.size k (.int .i64 op) (str f) (.slice (some ⟨wr.heap.size, 0, none⟩) ex.len (ex.len + 8)) (.slice (some ⟨w1.heap.size, 0, none⟩) th.len (th.len + 8)) (.slice (some ⟨w2.heap.size, 0, none⟩) el.len (el.len + 8))
        have hkk := bf_trans (bf_any (unhide HD)) (unhide HKK)
        go_roundw
        case rel =>
          refine ⟨pre.app (.cons op f ex th el .nil), rest, k + 1, c2, LE3, LS3, vS3, vE3, by go_num, ?_, ?_, hc2, by omega, hx9, ?_, ?_, ?_, fun p hp => (hne p hp).2, fun p hp => (hneS p hp).2, ?_, ?_⟩
          · rw [app_oneS]; exact unhide HAPP
          · rw [SL.len_app, hk]; rfl
          · exact (unhide HBH4).apart (s := true) ⟨c, unhide HB1⟩ (fun p hp => (hne p hp).1) (fun p hp => (hneS p hp).1) hks2
          · have := unhide HLE1
            have := unhide HLE2
            have := unhide HLE3
            rw [SL.size_app]
            simp only [SL.size]
            omega
          · have := unhide HLS2
            have := unhide HLS3
            rw [SL.size_app]
            simp only [SL.size]
            omega
          · exact (bf_trans (unhide HK) hkk).then hks2 (fun i hi e => by omega)
          · rw [show off + (k + 1) * 5 = off + k * 5 + 5 by omega]
            exact ((unhide HR).argKeep hkk (fun k f => f.lo hbh0.lo)).argKeep hks2 (fun k e => by omega)
        case measure => simp [intOf]; omega
end Go.Proofs.YtlnkleicnkfkpaaDoor
