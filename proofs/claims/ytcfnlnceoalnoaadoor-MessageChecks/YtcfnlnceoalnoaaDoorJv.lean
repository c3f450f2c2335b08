import Derived.Test.YtcfnlnceoalnoaaDoorHf
import Derived.Deep.Onto
namespace Go.Proofs.YtcfnlnceoalnoaaDoor
open Go.RowKit Go.Maps
/-- What a copy of a message has laid so far. -/
structure Got (w2 : World) (B R : Nat) (k : Int) (key : Txt) (vv cv : Value) (vals : List ValA) (code : Txt) (o1 o2 : Option Value) (cur : World) : Prop where
  kept : Keeps (fun _ => False) w2 cur
  res : cur.heap[R]? = some (.cells #[.int .i64 0, .string ⟨#[]⟩, .slice none 0 0, .slice none 0 0] 28 (0, 0))
  vsrc : ValsAt cur vv vals
  csrc : BytesAt cur cv code
  v : ∀ x, o1 = some x → cur.ownsRow w2.heap.size 48 3 x vals.length (vcs vals)
  c : ∀ x, o2 = some x → cur.ownsRow w2.heap.size 5 1 x code.length (bs code)
theorem Got.keep {w2 : World} {B R : Nat} {k : Int} {key : Txt} {vv cv : Value} {vals : List ValA} {code : Txt} {o1 o2 : Option Value} {cur w' : World} (h : Got w2 B R k key vv cv vals code o1 o2 cur) (hk : Keeps (fun _ => False) cur w') : Got w2 B R k key vv cv vals code o1 o2 w' :=
  ⟨h.kept.trans hk, (hk.block _ (lt_of_block h.res) id).trans h.res, h.vsrc.keepF hk, h.csrc.keepF hk, fun x e => ownsRow_kept (h.v x e) hk (fun _ _ => id), fun x e => ownsRow_kept (h.c x e) hk (fun _ _ => id)⟩
theorem Got.drew {w2 : World} {B R : Nat} {k : Int} {key : Txt} {vv cv : Value} {vals : List ValA} {code : Txt} {o1 o2 : Option Value} {cur : World} (h : Got w2 B R k key vv cv vals code o1 o2 cur) : Got w2 B R k key vv cv vals code o1 o2 cur.drew := h.keep (Keeps.refl _ _).drew
theorem got_vals {w2 : World} {B R : Nat} {k : Int} {key : Txt} {vv cv : Value} {vals : List ValA} {code : Txt} {o2 : Option Value} {cur : World} (h : Got w2 B R k key vv cv vals code none o2 cur) (hl : vals.length ≤ 4398046511104) :
    Calls Tryd.prog 10 #[vv] cur fun e w' => ∃ ao c, e = .returned (.slice ao vals.length c) ∧ Got w2 B R k key vv cv vals code (some (.slice ao vals.length c)) o2 w' := by
  refine (copyVals_any cur vv vals h.vsrc hl).mono ?_
  rintro e w' ⟨v', rfl, how, hk⟩
  obtain ⟨ao, c, rfl⟩ := RowAt.form (rowAt_own how)
  have h2 := h.keep hk
  refine ⟨ao, c, rfl, h2.kept, h2.res, h2.vsrc, h2.csrc, fun x e => ?_, h2.c⟩
  cases e
  exact how.mono h.kept.size
theorem got_bytes {w2 : World} {B R : Nat} {k : Int} {key : Txt} {vv cv : Value} {vals : List ValA} {code : Txt} {o1 : Option Value} {cur : World} (h : Got w2 B R k key vv cv vals code o1 none cur) (hl : code.length ≤ 140737488355328) :
    Calls Tryd.prog 11 #[cv] cur fun e w' => ∃ ao c, e = .returned (.slice ao code.length c) ∧ Got w2 B R k key vv cv vals code o1 (some (.slice ao code.length c)) w' := by
  refine (copyBytes_any cur cv code h.csrc hl).mono ?_
  rintro e w' ⟨v', rfl, how, hk⟩
  obtain ⟨ao, c, rfl⟩ := RowAt.form (rowAt_own how)
  have h2 := h.keep hk
  refine ⟨ao, c, rfl, h2.kept, h2.res, h2.vsrc, h2.csrc, h2.v, fun x e => ?_⟩
  cases e
  exact how.mono h.kept.size
theorem own_off {w : World} {B e size n : Nat} {v : Value} {xs : List Value} (h : w.ownsRow B e size v n xs) {R : Nat} {cs : Array Value} {t : TypeId} {fr : Nat × Nat} (hR : w.heap[R]? = some (.cells cs t fr)) (ht : t ≠ e) : ∀ k, v.ownBlock = some k → ¬ k = R := by
  intro k hk q
  subst q
  rcases h.2 with ⟨rfl, _⟩ | ⟨g, cap, cur, rfl, _, hb, _⟩
  · cases hk
  · simp only [Value.ownBlock, Option.some.injEq] at hk
    subst hk
    rw [hb] at hR
    simp only [Option.some.injEq, Obj.cells.injEq] at hR
    exact ht hR.2.1.symm
/-- A copy that is done. -/
theorem Got.fin {w w2 : World} {B R : Nat} {k : Int} {key : Txt} {vv cv : Value} {vals : List ValA} {code : Txt} {x y : Value} {cur : World} (h : Got w2 B R k key vv cv vals code (some x) (some y) cur) (hw : Keeps (fun _ => False) w w2) (hR : w.heap.size ≤ R) (a b : Value) :
    ((((cur.setCell ⟨R, 0, none⟩ a).setCell ⟨R, 1, none⟩ b).setCell ⟨R, 2, none⟩ x).setCell ⟨R, 3, none⟩ y).cell? ⟨R, 0, none⟩ = some a ∧ ((((cur.setCell ⟨R, 0, none⟩ a).setCell ⟨R, 1, none⟩ b).setCell ⟨R, 2, none⟩ x).setCell ⟨R, 3, none⟩ y).cell? ⟨R, 1, none⟩ = some b ∧ ((((cur.setCell ⟨R, 0, none⟩ a).setCell ⟨R, 1, none⟩ b).setCell ⟨R, 2, none⟩ x).setCell ⟨R, 3, none⟩ y).cell? ⟨R, 2, none⟩ = some x ∧ ((((cur.setCell ⟨R, 0, none⟩ a).setCell ⟨R, 1, none⟩ b).setCell ⟨R, 2, none⟩ x).setCell ⟨R, 3, none⟩ y).cell? ⟨R, 3, none⟩ = some y ∧
      ((((cur.setCell ⟨R, 0, none⟩ a).setCell ⟨R, 1, none⟩ b).setCell ⟨R, 2, none⟩ x).setCell ⟨R, 3, none⟩ y).ownsRow w.heap.size 48 3 x vals.length (vcs vals) ∧ ((((cur.setCell ⟨R, 0, none⟩ a).setCell ⟨R, 1, none⟩ b).setCell ⟨R, 2, none⟩ x).setCell ⟨R, 3, none⟩ y).ownsRow w.heap.size 5 1 y code.length (bs code) ∧
      Keeps (fun _ => False) w ((((cur.setCell ⟨R, 0, none⟩ a).setCell ⟨R, 1, none⟩ b).setCell ⟨R, 2, none⟩ x).setCell ⟨R, 3, none⟩ y) := by
  obtain ⟨t0, t1, t2, t3⟩ := set4c h.res a b x y
  have ks := keeps_set4 cur R a b x y
  exact ⟨t0, t1, t2, t3, (ownsRow_kept (h.v x rfl) ks (own_off (h.v x rfl) h.res (by decide))).mono hw.size, (ownsRow_kept (h.c y rfl) ks (own_off (h.c y rfl) h.res (by decide))).mono hw.size, (hw.trans h.kept).then ks (fun i hi e => by omega)⟩
set_option maxRecDepth 100000 in
set_option maxHeartbeats 4000000 in
theorem copyMsg_v (m : MsgA) (vv cv : Value) (w : World) (hv : ValsAt w vv m.vals) (hc : BytesAt w cv m.code) (hlv : m.vals.length ≤ 4398046511104) (hlc : m.code.length ≤ 140737488355328) :
    Calls Tryd.prog 5 #[.agg #[.int .i64 m.kind, str m.key, vv, cv]] w fun e w' => ∃ v1 c1, e = .returned (.agg #[.int .i64 m.kind, str m.key, v1, c1]) ∧ w'.ownsRow w.heap.size 48 3 v1 m.vals.length (vcs m.vals) ∧ w'.ownsRow w.heap.size 5 1 c1 m.code.length (bs m.code) ∧ Keeps (fun _ => False) w w' := by
  obtain ⟨vo, vc, rfl⟩ := RowAt.form hv
  obtain ⟨co, cc, rfl⟩ := RowAt.form hc
  have k1 := kAlloc w (.cells #[.int .i64 m.kind, str m.key, .slice vo m.vals.length vc, .slice co m.code.length cc] 28)
  have k2 := kAlloc (w.alloc (.cells #[.int .i64 m.kind, str m.key, .slice vo m.vals.length vc, .slice co m.code.length cc] 28)) (.cells #[.int .i64 0, .string ⟨#[]⟩, .slice none 0 0, .slice none 0 0] 28)
  have h1 := heap_alloc_new w (.cells #[.int .i64 m.kind, str m.key, .slice vo m.vals.length vc, .slice co m.code.length cc] 28)
  have h2 := heap_alloc_new (w.alloc (.cells #[.int .i64 m.kind, str m.key, .slice vo m.vals.length vc, .slice co m.code.length cc] 28)) (.cells #[.int .i64 0, .string ⟨#[]⟩, .slice none 0 0, .slice none 0 0] 28)
  rw [show (w.alloc (.cells #[.int .i64 m.kind, str m.key, .slice vo m.vals.length vc, .slice co m.code.length cc] 28)).heap.size = w.heap.size + 1 by simp] at h2
  have h1' := (k2.block _ (lt_of_block h1) id).trans h1
  have HW := hide (k1.trans k2)
  have HVS := hide (hv.keepF (unhide HW))
  have HCS := hide (hc.keepF (unhide HW))
  generalize hW2 : (w.alloc (.cells #[.int .i64 m.kind, str m.key, .slice vo m.vals.length vc, .slice co m.code.length cc] 28)).alloc (.cells #[.int .i64 0, .string ⟨#[]⟩, .slice none 0 0, .slice none 0 0] 28) = W2 at *
  have SK : ∀ w' : World, Keeps (fun q => q = w.heap.size + 1) W2 w' → w'.cell? ⟨w.heap.size, 0, none⟩ = some (.int .i64 m.kind) ∧ w'.cell? ⟨w.heap.size, 1, none⟩ = some (str m.key) ∧ w'.cell? ⟨w.heap.size, 2, none⟩ = some (.slice vo m.vals.length vc) ∧ w'.cell? ⟨w.heap.size, 3, none⟩ = some (.slice co m.code.length cc) := fun w' hk => by
    have hb := (hk.block _ (lt_of_block h1') (by omega)).trans h1'
    exact ⟨(cell_of_blk hb _).trans rfl, (cell_of_blk hb _).trans rfl, (cell_of_blk hb _).trans rfl, (cell_of_blk hb _).trans rfl⟩
  have HSK := hide SK
  have HL := hide (⟨Keeps.refl _ _, h2, unhide HVS, unhide HCS, fun x e => by (cases e), fun x e => by (cases e)⟩ : Got W2 w.heap.size (w.heap.size + 1) m.kind m.key (.slice vo m.vals.length vc) (.slice co m.code.length cc) m.vals m.code none none W2)
  obtain ⟨z0, z1, z2, z3⟩ := SK W2 (Keeps.refl _ _)
  have HZ := hide (lt_of_block h2)
  clear hv hc k1 k2 h1 h1' h2 SK
  go_enter Tryd.func5, Tryd.ntmps5
  go_wp2_with fail
  go_region_held3 (fun w' => w'.cell? ⟨w.heap.size, 0, none⟩ = some (.int .i64 m.kind) ∧ w'.cell? ⟨w.heap.size, 1, none⟩ = some (str m.key) ∧ w'.cell? ⟨w.heap.size, 2, none⟩ = some (.slice vo m.vals.length vc) ∧ w'.cell? ⟨w.heap.size, 3, none⟩ = some (.slice co m.code.length cc))
    (first | with_reducible exact unhide HSK _ (unhide HL).kept.any | with_reducible exact unhide HSK _ (unhide HL).kept.drew.any | with_reducible exact unhide HSK _ ((unhide HL).kept.any.trans (keeps_set4 _ _ _ _ _ _)))
    ((first
    | (go_at_call 10; refine (got_vals (by first | with_reducible exact unhide HL | with_reducible exact (unhide HL).drew) hlv).mono ?_; rintro e w1 ⟨ao, c, rfl, hl1⟩; have m0 := cell_of_blk hl1.res 0; have m1 := cell_of_blk hl1.res 1; have m2 := cell_of_blk hl1.res 2; have m3 := cell_of_blk hl1.res 3; simp at m0 m1 m2 m3; have g0 := frozen_of_blk hl1.res 0; have g1 := frozen_of_blk hl1.res 1; have g2 := frozen_of_blk hl1.res 2; have g3 := frozen_of_blk hl1.res 3; have HL := hide hl1; clear hl1)
    | (go_at_call 11; refine (got_bytes (by first | with_reducible exact unhide HL | with_reducible exact (unhide HL).drew) hlc).mono ?_; rintro e w1 ⟨ao, c, rfl, hl1⟩; have m0 := cell_of_blk hl1.res 0; have m1 := cell_of_blk hl1.res 1; have m2 := cell_of_blk hl1.res 2; have m3 := cell_of_blk hl1.res 3; simp at m0 m1 m2 m3; have g0 := frozen_of_blk hl1.res 0; have g1 := frozen_of_blk hl1.res 1; have g2 := frozen_of_blk hl1.res 2; have g3 := frozen_of_blk hl1.res 3; have HL := hide hl1; clear hl1)))
  all_goals go_wp2_with fail
  all_goals
    obtain ⟨t0, t1, t2, t3, hx, hy, hkf⟩ := (unhide HL).fin (unhide HW) (Nat.le_succ _) (.int .i64 m.kind) (str m.key)
    refine bodyPost_ret (v := .agg #[.int .i64 m.kind, str m.key, _, _]) (by simp [results, go_sem, t0, t1, t2, t3]; exact ⟨rfl, rfl⟩) rfl ?_
    exact ⟨_, _, rfl, hx, hy, hkf⟩
end Go.Proofs.YtcfnlnceoalnoaaDoor
namespace Go.Proofs.YtcfnlnceoalnoaaDoor
open Go.RowKit Go.Maps
set_option maxRecDepth 100000 in
set_option maxHeartbeats 4000000 in
theorem eqMsg_v (w : World) (k : Int) (key : Txt) (va vb ca cb : Value) (l : List ValA) (t : Txt) (h1 : ValsAt w va l) (h2 : ValsAt w vb l) (h3 : BytesAt w ca t) (h4 : BytesAt w cb t) (hl : l.length ≤ maxLen) (ht : t.length ≤ maxLen) :
    Calls Tryd.prog 9 #[.agg #[.int .i64 k, str key, va, ca], .agg #[.int .i64 k, str key, vb, cb]] w fun e w' => e = .returned (.bool true) ∧ Keeps (fun _ => False) w w' := by
  obtain ⟨ao, ac, rfl⟩ := RowAt.form h1
  obtain ⟨bo, bc, rfl⟩ := RowAt.form h2
  obtain ⟨co, cc, rfl⟩ := RowAt.form h3
  obtain ⟨d_, dc, rfl⟩ := RowAt.form h4
  have hk := (kAlloc w (.cells #[.int .i64 k, str key, .slice ao l.length ac, .slice co t.length cc] 28)).alloc (.cells #[.int .i64 k, str key, .slice bo l.length bc, .slice d_ t.length dc] 28)
  have HQ := hide (eqVals_any _ _ _ l l (h1.keepF hk) (h2.keepF hk) hl)
  rw [decide_eq_true (show l = l from rfl)] at HQ
  have hb1 := heap_alloc_new w (.cells #[.int .i64 k, str key, .slice ao l.length ac, .slice co t.length cc] 28)
  have hb2 := heap_alloc_new (w.alloc (.cells #[.int .i64 k, str key, .slice ao l.length ac, .slice co t.length cc] 28)) (.cells #[.int .i64 k, str key, .slice bo l.length bc, .slice d_ t.length dc] 28)
  rw [show (w.alloc (.cells #[.int .i64 k, str key, .slice ao l.length ac, .slice co t.length cc] 28)).heap.size = w.heap.size + 1 by simp] at hb2
  have hb1' := ((kAlloc (w.alloc (.cells #[.int .i64 k, str key, .slice ao l.length ac, .slice co t.length cc] 28)) (.cells #[.int .i64 k, str key, .slice bo l.length bc, .slice d_ t.length dc] 28)).block _ (lt_of_block hb1) id).trans hb1
  have HB1 := hide hb1'
  have HB2 := hide hb2
  have HK := hide hk
  have H3 := hide (h3.keepF hk)
  have H4 := hide (h4.keepF hk)
  clear h1 h2 h3 h4 hk hb1 hb2 hb1'
  go_enter Tryd.func9, Tryd.ntmps9
  go_wp2_with fail
  refine (unhide HQ).mono ?_
  rintro e w1 ⟨rfl, hk1⟩
  have a3 : w1.cell? ⟨w.heap.size, 3, none⟩ = some (.slice co t.length cc) := (hk1.cell (lt_of_block (unhide HB1)) id).trans ((cell_of_blk (unhide HB1) _).trans rfl)
  have b3 : w1.cell? ⟨w.heap.size + 1, 3, none⟩ = some (.slice d_ t.length dc) := (hk1.cell (lt_of_block (unhide HB2)) id).trans ((cell_of_blk (unhide HB2) _).trans rfl)
  have HQ2 := hide (eqBytes_any w1 _ _ t t ((unhide H3).keepF hk1) ((unhide H4).keepF hk1) ht)
  rw [decide_eq_true (show t = t from rfl)] at HQ2
  have HK1 := hide ((unhide HK).trans hk1)
  clear hk1 HQ HB1 HB2 H3 H4
  go_wp2_with fail
  refine (unhide HQ2).mono ?_
  rintro e w2 ⟨rfl, n, rfl⟩
  clear HQ2
  go_wp2_with fail
  go_ret
  exact ⟨rfl, (unhide HK1).drewN n⟩
set_option maxRecDepth 100000 in
set_option maxHeartbeats 4000000 in
theorem checks_walk (S : List FieldA) (sv vv cv : Value) (m : MsgA) (w : World) (hE : EnvM w) (hS : FldsAt w sv S) (hv : ValsAt w vv m.vals) (hc : BytesAt w cv m.code) (hkey : m.key.length ≤ 140737488355328) (hlS : S.length ≤ 4398046511104) (hlv : m.vals.length ≤ 4398046511104) (hlc : m.code.length ≤ 140737488355328) :
    Calls Tryd.prog 3 #[.agg #[sv], .agg #[.int .i64 m.kind, str m.key, vv, cv]] w fun e w' => e = .returned (.bool true) ∧ Keeps (fun _ => False) w w' := by
  obtain ⟨so, sc, rfl⟩ := RowAt.form hS
  obtain ⟨vo, vc, rfl⟩ := RowAt.form hv
  obtain ⟨co, cc, rfl⟩ := RowAt.form hc
  obtain ⟨Wb, hWb0, hkb, hbs, s0, r0, r1, r2, r3⟩ := two_boxesM w (.slice so S.length sc) (.int .i64 m.kind) (str m.key) (.slice vo m.vals.length vc) (.slice co m.code.length cc)
  have hb0 : w.heap.size < Wb.heap.size := by omega
  have hWb := hWb0.symm
  have HB := hide hkb
  have HS := hide (hS.keepF hkb)
  have HV := hide (hv.keepF hkb)
  have HC := hide (hc.keepF hkb)
  have HE := hide (hE.keepF hkb)
  have HQ := hide (twin_v Wb _ S (unhide HS) hlS)
  obtain ⟨R, HR⟩ : ∃ R, Hid (checkM S m = R) := ⟨_, rfl⟩
  clear hE hS hv hc hkb hWb0
  go_enter Tryd.func3, Tryd.ntmps3
  go_wp2_with fail
  refine (unhide HQ).mono ?_
  rintro e w1 ⟨tv, rfl, how, hk⟩
  obtain ⟨to, tc, rfl⟩ := RowAt.form (rowAt_own how)
  have k1a := kAlloc w1 (.cells #[.slice to S.length tc] 24)
  have hx1 := heap_alloc_new w1 (.cells #[.slice to S.length tc] 24)
  have HX1 := hide hx1
  have HT1 := hide (FldsAt.keepF (rowAt_own how) k1a)
  have HK1 := hide hk
  have HK1a := hide (hk.trans k1a)
  have a1 := (hk.cell (o := 0) hbs id).trans r0
  have a2 := (hk.cell (o := 1) hbs id).trans r1
  have a3 := (hk.cell (o := 2) hbs id).trans r2
  have a4 := (hk.cell (o := 3) hbs id).trans r3
  have l1 : w.heap.size + 1 < w1.heap.size := Nat.lt_of_lt_of_le hbs hk.size
  clear hk HQ hWb how k1a hx1
  have HQ := hide (copyMsg_v m _ _ _ ((unhide HV).keepF (unhide HK1a)) ((unhide HC).keepF (unhide HK1a)) hlv hlc)
  go_wp2_with fail
  refine (unhide HQ).mono ?_
  rintro e w2 ⟨v1, c1, rfl, hov, hoc, hk⟩
  obtain ⟨v1o, v1c, rfl⟩ := RowAt.form (rowAt_own hov)
  obtain ⟨c1o, c1c, rfl⟩ := RowAt.form (rowAt_own hoc)
  have k2a := kAlloc w2 (.cells #[.int .i64 m.kind, str m.key, .slice v1o m.vals.length v1c, .slice c1o m.code.length c1c] 28)
  have HX2 := hide (heap_alloc_new w2 (.cells #[.int .i64 m.kind, str m.key, .slice v1o m.vals.length v1c, .slice c1o m.code.length c1c] 28))
  have HV2 := hide (ValsAt.keepF (rowAt_own hov) k2a)
  have HC2 := hide (BytesAt.keepF (rowAt_own hoc) k2a)
  have HT2 := hide (((unhide HT1).keepF hk).keepF k2a)
  have hx1 := (hk.block _ (lt_of_block (unhide HX1)) id).trans (unhide HX1)
  have x1c : w2.cell? ⟨w1.heap.size, 0, none⟩ = some (.slice to S.length tc) := (cell_of_blk hx1 _).trans rfl
  have x1l := lt_of_block hx1
  have HX1a := hide ((k2a.block _ x1l id).trans hx1)
  have HK2 := hide ((unhide HK1a).trans hk)
  have HK2a := hide ((unhide HK2).trans k2a)
  clear hk HQ hov hoc k2a a1 a2 a3 a4 hx1 HT1 HX1 HK1 HK1a
  have HQ := hide (check_v S _ _ _ m _ ((unhide HE).keepF (unhide HK2a)) (unhide HT2) (unhide HV2) (unhide HC2) hkey)
  rw [unhide HR] at HQ
  go_wp2_with fail
  refine (unhide HQ).mono ?_
  rintro e w3 ⟨rfl, hk⟩
  have HK3 := hide ((unhide HK2a).trans hk)
  have HT3 := hide ((unhide HT2).keepF hk)
  have HV3 := hide ((unhide HV2).keepF hk)
  have HC3 := hide ((unhide HC2).keepF hk)
  have HX13 := hide ((hk.block _ (lt_of_block (unhide HX1a)) id).trans (unhide HX1a))
  have HX23 := hide ((hk.block _ (lt_of_block (unhide HX2)) id).trans (unhide HX2))
  have b0 := ((unhide HK3).cell (o := 0) hb0 id).trans s0
  have b1 := ((unhide HK3).cell (o := 0) hbs id).trans r0
  have b2 := ((unhide HK3).cell (o := 1) hbs id).trans r1
  have b3 := ((unhide HK3).cell (o := 2) hbs id).trans r2
  have b4 := ((unhide HK3).cell (o := 3) hbs id).trans r3
  clear hk HQ HT2 HV2 HC2 HX1a HX2 x1c x1l
  have HQ := hide (refCheck_v S _ _ _ m w3 ((unhide HS).keepF (unhide HK3)) ((unhide HV).keepF (unhide HK3)) ((unhide HC).keepF (unhide HK3)) hkey)
  rw [unhide HR] at HQ
  go_wp2_with fail
  refine (unhide HQ).mono ?_
  rintro e w4 ⟨rfl, hk⟩
  have HK4 := hide ((unhide HK3).trans hk)
  have c0 := ((unhide HK4).cell (o := 0) hb0 id).trans s0
  have hx1 := (hk.block _ (lt_of_block (unhide HX13)) id).trans (unhide HX13)
  have d0 : w4.cell? ⟨w1.heap.size, 0, none⟩ = some (.slice to S.length tc) := (cell_of_blk hx1 _).trans rfl
  have HQ := hide (eqSchema_any w4 _ _ S S ((unhide HT3).keepF hk) ((unhide HS).keepF (unhide HK4)) (by unfold maxLen; omega))
  rw [decide_eq_true (show S = S from rfl)] at HQ
  have HX24 := hide ((hk.block _ (lt_of_block (unhide HX23)) id).trans (unhide HX23))
  have HV4 := hide ((unhide HV3).keepF hk)
  have HC4 := hide ((unhide HC3).keepF hk)
  clear hk b0 b1 b2 b3 b4 hx1 HT3 HV3 HC3 HX13 HX23
  go_wp2_with fail
  refine (unhide HQ).mono ?_
  rintro e w5 ⟨rfl, hk⟩
  have HK5 := hide ((unhide HK4).trans hk)
  have e1 := ((unhide HK5).cell (o := 0) hbs id).trans r0
  have e2 := ((unhide HK5).cell (o := 1) hbs id).trans r1
  have e3 := ((unhide HK5).cell (o := 2) hbs id).trans r2
  have e4 := ((unhide HK5).cell (o := 3) hbs id).trans r3
  have hx2 := (hk.block _ (lt_of_block (unhide HX24)) id).trans (unhide HX24)
  have f1 : w5.cell? ⟨w2.heap.size, 0, none⟩ = some (.int .i64 m.kind) := (cell_of_blk hx2 _).trans rfl
  have f2 : w5.cell? ⟨w2.heap.size, 1, none⟩ = some (str m.key) := (cell_of_blk hx2 _).trans rfl
  have f3 : w5.cell? ⟨w2.heap.size, 2, none⟩ = some (.slice v1o m.vals.length v1c) := (cell_of_blk hx2 _).trans rfl
  have f4 : w5.cell? ⟨w2.heap.size, 3, none⟩ = some (.slice c1o m.code.length c1c) := (cell_of_blk hx2 _).trans rfl
  have HQ := hide (eqMsg_v w5 m.kind m.key _ _ _ _ m.vals m.code ((unhide HV4).keepF hk) ((unhide HV).keepF (unhide HK5)) ((unhide HC4).keepF hk) ((unhide HC).keepF (unhide HK5)) (by unfold maxLen; omega) (by unfold maxLen; omega))
  clear hk hx2 c0 d0 HX24 HV4 HC4
  go_wp2_with fail
  refine (unhide HQ).mono ?_
  rintro e w6 ⟨rfl, hk⟩
  have HK6 := hide ((unhide HK5).trans hk)
  clear hk HQ
  go_wp2_with fail
  go_ret
  exact ⟨rfl, (unhide HB).trans (unhide HK6)⟩
end Go.Proofs.YtcfnlnceoalnoaaDoor
