import Derived.Test.YtbokbdcjpbnodaaGreatDoorHf
import Derived.Deep.Onto
import Derived.Test.YtbokbdcjpbnodaaGreatDoorJu
import Derived.Test.YtbokbdcjpbnodaaGreatDoorRows
import Derived.Test.YtbokbdcjpbnodaaGreatDoorJi
namespace Go.Proofs.YtbokbdcjpbnodaaGreatDoor
open Go.RowKit Go.Maps
set_option maxRecDepth 100000
set_option maxHeartbeats 4000000
structure Got (w2 : World) (B R : Nat) (k : Int) (key : Txt) (vv cv : Value) (vals : List ValA) (code : Txt) (o1 o2 : Option Value) (cur : World) : Prop where
 kept : Keeps (fun _ => False) w2 cur
 res : cur.heap[R]? = some (.cells #[.int .i64 0, .string ⟨#[]⟩, .slice none 0 0, .slice none 0 0] 50 (0, 0))
 vsrc : ValsAt cur vv vals
 csrc : BytesAt cur cv code
 v : ∀ x, o1 = some x → cur.ownsRow w2.heap.size 74 3 x vals.length (vcs vals)
 c : ∀ x, o2 = some x → cur.ownsRow w2.heap.size 5 1 x code.length (bs code)
theorem Got.keep {w2 : World} {B R : Nat} {k : Int} {key : Txt} {vv cv : Value} {vals : List ValA} {code : Txt} {o1 o2 : Option Value} {cur w' : World} (h : Got w2 B R k key vv cv vals code o1 o2 cur) (hk : Keeps (fun _ => False) cur w') : Got w2 B R k key vv cv vals code o1 o2 w' :=
 ⟨h.kept.trans hk, (hk.block _ (lt_of_block h.res) id).trans h.res, h.vsrc.keepF hk, h.csrc.keepF hk, fun x e => ownsRow_kept (h.v x e) hk (fun _ _ => id), fun x e => ownsRow_kept (h.c x e) hk (fun _ _ => id)⟩
theorem Got.drew {w2 : World} {B R : Nat} {k : Int} {key : Txt} {vv cv : Value} {vals : List ValA} {code : Txt} {o1 o2 : Option Value} {cur : World} (h : Got w2 B R k key vv cv vals code o1 o2 cur) : Got w2 B R k key vv cv vals code o1 o2 cur.drew := h.keep (Keeps.refl _ _).drew
theorem got_vals {w2 : World} {B R : Nat} {k : Int} {key : Txt} {vv cv : Value} {vals : List ValA} {code : Txt} {o2 : Option Value} {cur : World} (h : Got w2 B R k key vv cv vals code none o2 cur) (hl : vals.length ≤ 4398046511104) :
  Calls Tryz.prog 29 #[vv] cur fun e w' => ∃ ao c, e = .returned (.slice ao vals.length c) ∧ Got w2 B R k key vv cv vals code (some (.slice ao vals.length c)) o2 w' := by
 refine (copyVals_any cur vv vals h.vsrc hl).mono ?_
 rintro e w' ⟨v', rfl, how, hk⟩
 obtain ⟨ao, c, rfl⟩ := RowAt.form (rowAt_own how)
 have h2 := h.keep hk
 refine ⟨ao, c, rfl, h2.kept, h2.res, h2.vsrc, h2.csrc, fun x e => ?_, h2.c⟩
 cases e
 exact how.mono h.kept.size
theorem got_bytes {w2 : World} {B R : Nat} {k : Int} {key : Txt} {vv cv : Value} {vals : List ValA} {code : Txt} {o1 : Option Value} {cur : World} (h : Got w2 B R k key vv cv vals code o1 none cur) (hl : code.length ≤ 140737488355328) :
  Calls Tryz.prog 54 #[cv] cur fun e w' => ∃ ao c, e = .returned (.slice ao code.length c) ∧ Got w2 B R k key vv cv vals code o1 (some (.slice ao code.length c)) w' := by
 refine (copyBytes_any cur cv code h.csrc hl).mono ?_
 rintro e w' ⟨v', rfl, how, hk⟩
 obtain ⟨ao, c, rfl⟩ := RowAt.form (rowAt_own how)
 have h2 := h.keep hk
 refine ⟨ao, c, rfl, h2.kept, h2.res, h2.vsrc, h2.csrc, h2.v, fun x e => ?_⟩
 cases e
 exact how.mono h.kept.size
theorem own_off {w : World} {B e size n : Nat} {v : Value} {xs : List Value} (h : w.ownsRow B e size v n xs) {R : Nat} {cs : Array Value} {t : TypeId} {fr : Nat × Nat} (hR : w.heap[R]? = some (.cells cs t fr)) (ht : t ≠ e) : ∀ k, v.ownBlock = some k → ¬ k = R := by
 intro k hk q
 subst q
 rcases h.2 with ⟨rfl, _⟩ | ⟨g, cap, cur, rfl, _, hb, _⟩
 ·cases hk
 ·simp only [Value.ownBlock, Option.some.injEq] at hk
  subst hk
  rw [hb] at hR
  simp only [Option.some.injEq, Obj.cells.injEq] at hR
  exact ht hR.2.1.symm
theorem Got.fin {w w2 : World} {B R : Nat} {k : Int} {key : Txt} {vv cv : Value} {vals : List ValA} {code : Txt} {x y : Value} {cur : World} (h : Got w2 B R k key vv cv vals code (some x) (some y) cur) (hw : Keeps (fun _ => False) w w2) (hR : w.heap.size ≤ R) (a b : Value) :
  ((((cur.setCell ⟨R, 0, none⟩ a).setCell ⟨R, 1, none⟩ b).setCell ⟨R, 2, none⟩ x).setCell ⟨R, 3, none⟩ y).cell? ⟨R, 0, none⟩ = some a ∧ ((((cur.setCell ⟨R, 0, none⟩ a).setCell ⟨R, 1, none⟩ b).setCell ⟨R, 2, none⟩ x).setCell ⟨R, 3, none⟩ y).cell? ⟨R, 1, none⟩ = some b ∧ ((((cur.setCell ⟨R, 0, none⟩ a).setCell ⟨R, 1, none⟩ b).setCell ⟨R, 2, none⟩ x).setCell ⟨R, 3, none⟩ y).cell? ⟨R, 2, none⟩ = some x ∧ ((((cur.setCell ⟨R, 0, none⟩ a).setCell ⟨R, 1, none⟩ b).setCell ⟨R, 2, none⟩ x).setCell ⟨R, 3, none⟩ y).cell? ⟨R, 3, none⟩ = some y ∧
    ((((cur.setCell ⟨R, 0, none⟩ a).setCell ⟨R, 1, none⟩ b).setCell ⟨R, 2, none⟩ x).setCell ⟨R, 3, none⟩ y).ownsRow w.heap.size 74 3 x vals.length (vcs vals) ∧ ((((cur.setCell ⟨R, 0, none⟩ a).setCell ⟨R, 1, none⟩ b).setCell ⟨R, 2, none⟩ x).setCell ⟨R, 3, none⟩ y).ownsRow w.heap.size 5 1 y code.length (bs code) ∧
    Keeps (fun _ => False) w ((((cur.setCell ⟨R, 0, none⟩ a).setCell ⟨R, 1, none⟩ b).setCell ⟨R, 2, none⟩ x).setCell ⟨R, 3, none⟩ y) := by
 obtain ⟨t0, t1, t2, t3⟩ := set4c h.res a b x y
 have ks := keeps_set4 cur R a b x y
 exact ⟨t0, t1, t2, t3, (ownsRow_kept (h.v x rfl) ks (own_off (h.v x rfl) h.res (by decide))).mono hw.size, (ownsRow_kept (h.c y rfl) ks (own_off (h.c y rfl) h.res (by decide))).mono hw.size, (hw.trans h.kept).then ks (fun i hi e => by omega)⟩
theorem copyMsg_v (m : MsgA) (vv cv : Value) (w : World) (hv : ValsAt w vv m.vals) (hc : BytesAt w cv m.code) (hlv : m.vals.length ≤ 4398046511104) (hlc : m.code.length ≤ 140737488355328) :
  Calls Tryz.prog 21 #[.agg #[.int .i64 m.kind, str m.key, vv, cv]] w fun e w' => ∃ v1 c1, e = .returned (.agg #[.int .i64 m.kind, str m.key, v1, c1]) ∧ w'.ownsRow w.heap.size 74 3 v1 m.vals.length (vcs m.vals) ∧ w'.ownsRow w.heap.size 5 1 c1 m.code.length (bs m.code) ∧ Keeps (fun _ => False) w w' := by
 obtain ⟨vo, vc, rfl⟩ := RowAt.form hv
 obtain ⟨co, cc, rfl⟩ := RowAt.form hc
 have k1 := kAlloc w (.cells #[.int .i64 m.kind, str m.key, .slice vo m.vals.length vc, .slice co m.code.length cc] 50)
 have k2 := kAlloc (w.alloc (.cells #[.int .i64 m.kind, str m.key, .slice vo m.vals.length vc, .slice co m.code.length cc] 50)) (.cells #[.int .i64 0, .string ⟨#[]⟩, .slice none 0 0, .slice none 0 0] 50)
 have h1 := heap_alloc_new w (.cells #[.int .i64 m.kind, str m.key, .slice vo m.vals.length vc, .slice co m.code.length cc] 50)
 have h2 := heap_alloc_new (w.alloc (.cells #[.int .i64 m.kind, str m.key, .slice vo m.vals.length vc, .slice co m.code.length cc] 50)) (.cells #[.int .i64 0, .string ⟨#[]⟩, .slice none 0 0, .slice none 0 0] 50)
 rw [show (w.alloc (.cells #[.int .i64 m.kind, str m.key, .slice vo m.vals.length vc, .slice co m.code.length cc] 50)).heap.size = w.heap.size + 1 by simp] at h2
 have h1' := (k2.block _ (lt_of_block h1) id).trans h1
 have HW := hide (k1.trans k2)
 have HVS := hide (hv.keepF (uh HW))
 have HCS := hide (hc.keepF (uh HW))
 generalize hW2 : (w.alloc (.cells #[.int .i64 m.kind, str m.key, .slice vo m.vals.length vc, .slice co m.code.length cc] 50)).alloc (.cells #[.int .i64 0, .string ⟨#[]⟩, .slice none 0 0, .slice none 0 0] 50) = W2 at *
 have SK : ∀ w' : World, Keeps (fun q => q = w.heap.size + 1) W2 w' → w'.cell? ⟨w.heap.size, 0, none⟩ = some (.int .i64 m.kind) ∧ w'.cell? ⟨w.heap.size, 1, none⟩ = some (str m.key) ∧ w'.cell? ⟨w.heap.size, 2, none⟩ = some (.slice vo m.vals.length vc) ∧ w'.cell? ⟨w.heap.size, 3, none⟩ = some (.slice co m.code.length cc) := fun w' hk => by
  have hb := (hk.block _ (lt_of_block h1') (by omega)).trans h1'
  exact ⟨(cell_of_blk hb _).trans rfl, (cell_of_blk hb _).trans rfl, (cell_of_blk hb _).trans rfl, (cell_of_blk hb _).trans rfl⟩
 have HSK := hide SK
 have HL := hide (⟨Keeps.refl _ _, h2, uh HVS, uh HCS, fun x e => by (cases e), fun x e => by (cases e)⟩ : Got W2 w.heap.size (w.heap.size + 1) m.kind m.key (.slice vo m.vals.length vc) (.slice co m.code.length cc) m.vals m.code none none W2)
 obtain ⟨z0, z1, z2, z3⟩ := SK W2 (Keeps.refl _ _)
 have HZ := hide (lt_of_block h2)
 clear hv hc k1 k2 h1 h1' h2 SK
 go_enter Tryz.func21, Tryz.ntmps21
 go_wp2_with fail
 go_region_held3 (fun w' => w'.cell? ⟨w.heap.size, 0, none⟩ = some (.int .i64 m.kind) ∧ w'.cell? ⟨w.heap.size, 1, none⟩ = some (str m.key) ∧ w'.cell? ⟨w.heap.size, 2, none⟩ = some (.slice vo m.vals.length vc) ∧ w'.cell? ⟨w.heap.size, 3, none⟩ = some (.slice co m.code.length cc))
  (first | with_reducible exact uh HSK _ (uh HL).kept.any | with_reducible exact uh HSK _ (uh HL).kept.drew.any | with_reducible exact uh HSK _ ((uh HL).kept.any.trans (keeps_set4 _ _ _ _ _ _)))
  ((first
  | (go_at_call 29; refine (got_vals (by first | with_reducible exact uh HL | with_reducible exact (uh HL).drew) hlv).mono ?_; rintro e w1 ⟨ao, c, rfl, hl1⟩; have m0 := cell_of_blk hl1.res 0; have m1 := cell_of_blk hl1.res 1; have m2 := cell_of_blk hl1.res 2; have m3 := cell_of_blk hl1.res 3; simp at m0 m1 m2 m3; have g0 := frozen_of_blk hl1.res 0; have g1 := frozen_of_blk hl1.res 1; have g2 := frozen_of_blk hl1.res 2; have g3 := frozen_of_blk hl1.res 3; have HL := hide hl1; clear hl1)
  | (go_at_call 54; refine (got_bytes (by first | with_reducible exact uh HL | with_reducible exact (uh HL).drew) hlc).mono ?_; rintro e w1 ⟨ao, c, rfl, hl1⟩; have m0 := cell_of_blk hl1.res 0; have m1 := cell_of_blk hl1.res 1; have m2 := cell_of_blk hl1.res 2; have m3 := cell_of_blk hl1.res 3; simp at m0 m1 m2 m3; have g0 := frozen_of_blk hl1.res 0; have g1 := frozen_of_blk hl1.res 1; have g2 := frozen_of_blk hl1.res 2; have g3 := frozen_of_blk hl1.res 3; have HL := hide hl1; clear hl1)))
 all_goals go_wp2_with fail
 all_goals
  obtain ⟨t0, t1, t2, t3, hx, hy, hkf⟩ := (uh HL).fin (uh HW) (Nat.le_succ _) (.int .i64 m.kind) (str m.key)
  refine bodyPost_ret (v := .agg #[.int .i64 m.kind, str m.key, _, _]) (by simp [results, go_sem, t0, t1, t2, t3]; exact ⟨rfl, rfl⟩) rfl ?_
  exact ⟨_, _, rfl, hx, hy, hkf⟩
end Go.Proofs.YtbokbdcjpbnodaaGreatDoor
namespace Go.Proofs.YtbokbdcjpbnodaaGreatDoor
open Go.RowKit Go.Maps
set_option maxRecDepth 100000
set_option maxHeartbeats 4000000
theorem eqMsg_v (w : World) (k : Int) (key : Txt) (va vb ca cb : Value) (l : List ValA) (t : Txt) (h1 : ValsAt w va l) (h2 : ValsAt w vb l) (h3 : BytesAt w ca t) (h4 : BytesAt w cb t) (hl : l.length ≤ maxLen) (ht : t.length ≤ maxLen) :
  Calls Tryz.prog 25 #[.agg #[.int .i64 k, str key, va, ca], .agg #[.int .i64 k, str key, vb, cb]] w fun e w' => e = .returned (.bool true) ∧ Keeps (fun _ => False) w w' := by
 obtain ⟨ao, ac, rfl⟩ := RowAt.form h1
 obtain ⟨bo, bc, rfl⟩ := RowAt.form h2
 obtain ⟨co, cc, rfl⟩ := RowAt.form h3
 obtain ⟨d_, dc, rfl⟩ := RowAt.form h4
 have hk := (kAlloc w (.cells #[.int .i64 k, str key, .slice ao l.length ac, .slice co t.length cc] 50)).alloc (.cells #[.int .i64 k, str key, .slice bo l.length bc, .slice d_ t.length dc] 50)
 have HQ := hide (eqVals_any _ _ _ l l (h1.keepF hk) (h2.keepF hk) hl)
 rw [decide_eq_true (show l = l from rfl)] at HQ
 have hb1 := heap_alloc_new w (.cells #[.int .i64 k, str key, .slice ao l.length ac, .slice co t.length cc] 50)
 have hb2 := heap_alloc_new (w.alloc (.cells #[.int .i64 k, str key, .slice ao l.length ac, .slice co t.length cc] 50)) (.cells #[.int .i64 k, str key, .slice bo l.length bc, .slice d_ t.length dc] 50)
 rw [show (w.alloc (.cells #[.int .i64 k, str key, .slice ao l.length ac, .slice co t.length cc] 50)).heap.size = w.heap.size + 1 by simp] at hb2
 have hb1' := ((kAlloc (w.alloc (.cells #[.int .i64 k, str key, .slice ao l.length ac, .slice co t.length cc] 50)) (.cells #[.int .i64 k, str key, .slice bo l.length bc, .slice d_ t.length dc] 50)).block _ (lt_of_block hb1) id).trans hb1
 have HB1 := hide hb1'
 have HB2 := hide hb2
 have HK := hide hk
 have H3 := hide (h3.keepF hk)
 have H4 := hide (h4.keepF hk)
 clear h1 h2 h3 h4 hk hb1 hb2 hb1'
 go_enter Tryz.func25, Tryz.ntmps25
 go_wp2_with fail
 refine (uh HQ).mono ?_
 rintro e w1 ⟨rfl, hk1⟩
 have a3 : w1.cell? ⟨w.heap.size, 3, none⟩ = some (.slice co t.length cc) := (hk1.cell (lt_of_block (uh HB1)) id).trans ((cell_of_blk (uh HB1) _).trans rfl)
 have b3 : w1.cell? ⟨w.heap.size + 1, 3, none⟩ = some (.slice d_ t.length dc) := (hk1.cell (lt_of_block (uh HB2)) id).trans ((cell_of_blk (uh HB2) _).trans rfl)
 have HQ2 := hide (eqBytes_any w1 _ _ t t ((uh H3).keepF hk1) ((uh H4).keepF hk1) ht)
 rw [decide_eq_true (show t = t from rfl)] at HQ2
 have HK1 := hide ((uh HK).trans hk1)
 clear hk1 HQ HB1 HB2 H3 H4
 go_wp2_with fail
 refine (uh HQ2).mono ?_
 rintro e w2 ⟨rfl, n, rfl⟩
 clear HQ2
 go_wp2_with fail
 go_ret
 exact ⟨rfl, (uh HK1).drewN n⟩
end Go.Proofs.YtbokbdcjpbnodaaGreatDoor
namespace Go.Proofs.YtbokbdcjpbnodaaGreatDoor
open Go.ChangeShapes Go.WideShapes Go.ChangeAt Go.RowKit Go.Deep
structure MsgC where
 m : MsgA
 vv : Value
 cv : Value
instance : Inhabited MsgC := ⟨⟨⟨0, [], [], []⟩, .slice none 0 0, .slice none 0 0⟩⟩
def MsgC.cs (x : MsgC) : List Value := [.int .i64 x.m.kind, str x.m.key, x.vv, x.cv]
structure MsgOK (w : World) (x : MsgC) : Prop where
 vals : ValsAt w x.vv x.m.vals
 code : BytesAt w x.cv x.m.code
 inr : InR x.m.vals
 key : x.m.key.length ≤ 140737488355328
 lv : x.m.vals.length ≤ 4398046511104
 lc : x.m.code.length ≤ 140737488355328
theorem MsgOK.keepF {w w' : World} {x : MsgC} (h : MsgOK w x) (hk : Keeps (fun _ => False) w w') : MsgOK w' x := ⟨h.vals.keepF hk, h.code.keepF hk, h.inr, h.key, h.lv, h.lc⟩
structure MsgsAt (w : World) (v : Value) (l : List MsgC) : Prop where
 row : RowAt w v l.length (l.flatMap MsgC.cs)
 ok : ∀ x ∈ l, MsgOK w x
theorem MsgsAt.keepF {w w' : World} {v : Value} {l : List MsgC} (h : MsgsAt w v l) (hk : Keeps (fun _ => False) w w') : MsgsAt w' v l := ⟨RowAt.kept h.row hk (fun _ _ => id), fun x hx => (h.ok x hx).keepF hk⟩
theorem bulk_one {H : Type} (d : DataW H) : 1 ≤ Rows.uptoBulk d := by
 cases d with
 | lit l => cases l <;> simp [Rows.uptoBulk]
 | nil => simp [Rows.uptoBulk]
 | ptr d => simp [Rows.uptoBulk]
 | slice elems spare => simp [Rows.uptoBulk]
 | agg parts => simp [Rows.uptoBulk]
 | iface t d => simp [Rows.uptoBulk]
 | map entries => simp [Rows.uptoBulk]
 | held h => simp [Rows.uptoBulk]
theorem bulk_len {H : Type} : ∀ l : List (DataW H), l.length ≤ Rows.uptoBulkAll l
 | [] => by simp
 | d :: r => by
  have h1 := bulk_one d
  have h2 := bulk_len r
  simp only [Rows.uptoBulkAll, List.length_cons]
  omega
theorem weightsAll_mem {H : Type} {P : Program} {e : TypeId} {n : Nat} {d : DataW H} : ∀ {l : List (DataW H)}, d ∈ l → n ∈ d.weights P e → n ∈ DataW.weightsAll P e l
 | [], h, _ => by cases h
 | y :: r, h, hn => by
  simp only [DataW.weightsAll]
  rcases List.mem_cons.1 h with rfl | h
  ·exact List.mem_append_left _ hn
  ·exact List.mem_append_right _ (weightsAll_mem h hn)
section
variable {H : Type} {enc : TypeId × Value → H} {W : World} {fuel : Nat}
theorem rowsOfW {α : Type} [Inhabited α] (g : α → List Value) (sz : Nat) (hs : 0 < sz) (hg : ∀ x, (g x).length = sz) {t e : TypeId} (ht : Tryz.prog.underlying t = some (.slice e)) (hc : Tryz.prog.cellsOf e = sz) {Q : α → Prop}
  (el : ∀ (fuel : Nat) (cs : List Value) (x : DataW H × List MemPlace), DataW.trod enc Tryz.prog W 0 (fun _ => true) true fuel e cs = some x → (∀ n ∈ x.1.weights Tryz.prog e, n ≤ reachBytes) → ∃ a, cs = g a ∧ Q a)
  {c : Value} {x : DataW H × List MemPlace} (h : DataW.trod enc Tryz.prog W 0 (fun _ => true) true fuel t [c] = some x) (hw : ∀ n ∈ x.1.weights Tryz.prog t, n ≤ reachBytes) :
  ∃ l : List α, RowAt W c l.length (l.flatMap g) ∧ ∀ a ∈ l, Q a := by
 rcases open_slice ht h with ⟨hcs, _⟩ | ⟨a, len, cap, m, n, D, Pl, hcs, _, hl, hm, hmm, hx, hel⟩
 ·simp at hcs
  subst hcs
  exact ⟨[], ⟨⟨_, _, rfl⟩, fun h0 => by simp at h0, fun ao m cap e => by simp at e; omega⟩, fun _ h => by cases h⟩
 ·simp at hcs
  subst hcs
  simp at hmm
  rw [hc] at hel
  have hev : ∀ i, i < len → ∃ p : α, (∀ j v, (g p)[j]? = some v → W.cell? ((a.add (i * sz)).add j) = some v) ∧ Q p := by
   intro i hi
   obtain ⟨cs', hcs', htr⟩ := hel i (by omega)
   obtain ⟨p, rfl, hq⟩ := el _ _ _ htr (fun n hn => hw n (by
    rw [hx]
    simp only [DataW.weights, ht]
    exact List.mem_cons_of_mem _ (List.mem_append_left _ (weightsAll_mem (List.mem_map.2 ⟨i, List.mem_range.2 hi, rfl⟩) hn))))
   obtain ⟨_, _, hcc⟩ := World.cells?_some hcs'
   refine ⟨p, fun j v hv => ?_, hq⟩
   have hj := (List.getElem?_eq_some_iff.1 hv).1
   have := hcc j (by rw [hg] at hj; omega)
   rw [this]
   simpa using hv
  obtain ⟨f, hf⟩ := choose_lt hev
  refine ⟨(List.range len).map f, ⟨⟨_, _, by simp; exact ⟨rfl, rfl⟩⟩, fun h0 => ?_, fun ao m cap' e => by simp at e; omega⟩, ?_⟩
  ·simp at h0
   have hg0 : 0 < (g (f 0)).length := by rw [hg]; exact hs
   have hc0 := (hf 0 h0).1 0 _ (List.getElem?_eq_getElem hg0)
   have hspot : a.spot = none := by
    have := World.cell?_spot hc0
    simpa [Addr.add] using this
   obtain ⟨b, off, spot⟩ := a
   simp at hspot
   subst hspot
   refine ⟨b, off, cap, by simp, ?_, fun j v hv => ?_⟩
   ·have := World.block_lt_of_cell? W _ hc0
    simpa [Addr.add] using this
   ·rw [flat_at g sz hs hg] at hv
    cases hi : ((List.range len).map f)[j / sz]? with
    | none => rw [hi] at hv; cases hv
    | some p =>
     rw [hi] at hv
     have hil : j / sz < len := by
      have := (List.getElem?_eq_some_iff.1 hi).1
      simpa using this
     have hpe : f (j / sz) = p := by simpa [hil] using hi
     have := (hf (j / sz) hil).1 (j % sz) v (by rw [hpe]; exact hv)
     simp only [Addr.add_lit] at this
     rw [show off + j = off + j / sz * sz + j % sz by have := Nat.div_add_mod j sz; rw [Nat.mul_comm] at this; omega]
     exact this
  ·intro y hy
   obtain ⟨i, hi, rfl⟩ := List.mem_map.1 hy
   exact (hf i (List.mem_range.1 hi)).2
theorem msgs_in {c : Value} {x : DataW H × List MemPlace} (h : DataW.trod enc Tryz.prog W 0 (fun _ => true) true fuel 58 [c] = some x) (hw : ∀ n ∈ x.1.weights Tryz.prog 58, n ≤ reachBytes) : ∃ l : List MsgC, MsgsAt W c l := by
 obtain ⟨l, hl, hq⟩ := rowsOfW (Q := MsgOK W) MsgC.cs 4 (by omega) (fun _ => rfl) Tryz.underlying58 eMsg (fun fuel cs x h hw => by
  obtain ⟨m, vv, cv, e, h1, h2, h3, h4, h5, h6⟩ := msg_in h hw
  exact ⟨⟨m, vv, cv⟩, e, h1, h2, h3, h4, h5, h6⟩) h hw
 exact ⟨l, hl, hq⟩
theorem bulk_row {t e : TypeId} (ht : Tryz.prog.underlying t = some (.slice e)) {c : Value} {x : DataW H × List MemPlace} (h : DataW.trod enc Tryz.prog W 0 (fun _ => true) true fuel t [c] = some x) {M : Nat} (hb : Rows.uptoBulk x.1 ≤ M) {n : Nat} {xs : List Value} (hr : RowAt W c n xs) : n ≤ M := by
 obtain ⟨ao, cp, hform⟩ := hr.form
 rcases DataW.trod_slice ht h with ⟨hcs, _⟩ | ⟨a, len, cap, elems, rest, n', hn, hcs, hxx, hle, hlc, _, hel, _, _, _⟩
 ·simp at hcs
  rw [hcs] at hform
  simp at hform
  omega
 ·rw [hxx] at hb
  simp only [Rows.uptoBulk] at hb
  have h1 := bulk_len (elems.map (·.1))
  simp only [List.length_map] at h1
  simp at hcs
  rw [hcs] at hform
  simp at hform
  omega
end
end Go.Proofs.YtbokbdcjpbnodaaGreatDoor
namespace Go.Proofs.YtbokbdcjpbnodaaGreatDoor
open Go.ChangeShapes Go.WideShapes Go.ChangeAt Go.RowKit Go.Deep
set_option maxRecDepth 100000
theorem eRow : Tryz.prog.cellsOf 28 = 2 := by kernel_rfl
section
variable {H : Type} {enc : TypeId × Value → H} {W : World}
theorem row_in {fuel : Nat} {cs : List Value} {x : DataW H × List MemPlace} (h : DataW.trod enc Tryz.prog W 0 (fun _ => true) true fuel 28 cs = some x) (hw : ∀ n ∈ x.1.weights Tryz.prog 28, n ≤ reachBytes) :
  ∃ (hh : Bool) (u : Value) (vals : List ValA), cs = [.bool hh, u] ∧ ValsAt W u vals ∧ vals.length ≤ 4398046511104 := by
 obtain ⟨xs, m, hm, hx, hl, hlen, hf⟩ := DataW.trod_struct Tryz.underlying28 h
 have hl' : cs.length = 2 := hl.trans eRow
 match xs, hlen, cs, hl' with
 | [y0, y1], _, [c0, c1], _ =>
  have h0 : DataW.trod enc Tryz.prog W 0 (fun _ => true) true m 4 (([c0, c1].drop 0).take (Tryz.prog.cellsOf 4)) = some y0 := hf 0 _ rfl
  have h1 : DataW.trod enc Tryz.prog W 0 (fun _ => true) true m 26 (([c0, c1].drop 1).take (Tryz.prog.cellsOf 26)) = some y1 := hf 1 _ rfl
  rw [e4] at h0
  rw [eVals] at h1
  simp only [List.drop_zero, List.take_succ_cons, List.take_zero, List.drop_succ_cons] at h0 h1
  have hws : ∀ n, n ∈ y0.1.weights Tryz.prog 4 ++ y1.1.weights Tryz.prog 26 → n ≤ reachBytes := fun n hn => hw n (by
   rw [hx]
   simp only [DataW.weights, Tryz.underlying28, List.map_cons, List.map_nil, DataW.weightsEach, List.append_nil]
   exact hn)
  obtain ⟨o, q0, _⟩ := DataW.trod_bool Tryz.underlying4 h0
  simp at q0
  obtain ⟨l, hl, _, hn⟩ := vals_in h1 (fun n hn => hws n (List.mem_append_right _ hn))
  exact ⟨o, c1, l, by rw [q0], hl, hn⟩
end
end Go.Proofs.YtbokbdcjpbnodaaGreatDoor
namespace Go.Proofs.YtbokbdcjpbnodaaGreatDoor
open Go.RowKit Go.Maps
variable {W : World} {H : Type} {enc : TypeId × Value → H}
theorem schema_bulk {fuel : Nat} {sv : Value} {x : DataW H × List MemPlace} (h : DataW.trod enc Tryz.prog W 0 (fun _ => true) true fuel 24 [sv] = some x) {M : Nat} (hb : Rows.uptoBulk x.1 ≤ M) {S : List FieldA} (hS : FldsAt W sv S) : S.length ≤ M := by
 obtain ⟨xs, m, hm, hx, hl, hlen, hf⟩ := DataW.trod_struct Tryz.underlying24 h
 match xs, hlen with
 | [y0], _ =>
  have h0 : DataW.trod enc Tryz.prog W 0 (fun _ => true) true m 22 (([sv].drop 0).take (Tryz.prog.cellsOf 22)) = some y0 := hf 0 _ rfl
  rw [e37] at h0
  simp only [List.drop_zero, List.take_succ_cons, List.take_zero] at h0
  refine bulk_row Tryz.underlying22 h0 ?_ hS
  rw [hx] at hb
  simp only [Rows.uptoBulk, Rows.uptoBulkAll, List.map_cons, List.map_nil] at hb
  omega
theorem row_bulk {fuel : Nat} {c0 c1 : Value} {x : DataW H × List MemPlace} (h : DataW.trod enc Tryz.prog W 0 (fun _ => true) true fuel 28 [c0, c1] = some x) {M : Nat} (hb : Rows.uptoBulk x.1 ≤ M) {l : List ValA} (hr : ValsAt W c1 l) : l.length ≤ M := by
 obtain ⟨xs, m, hm, hx, hl, hlen, hf⟩ := DataW.trod_struct Tryz.underlying28 h
 match xs, hlen with
 | [y0, y1], _ =>
  have h1 : DataW.trod enc Tryz.prog W 0 (fun _ => true) true m 26 (([c0, c1].drop 1).take (Tryz.prog.cellsOf 26)) = some y1 := hf 1 _ rfl
  rw [eVals] at h1
  simp only [List.take_succ_cons, List.take_zero, List.drop_succ_cons, List.drop_zero] at h1
  refine bulk_row Tryz.underlying26 h1 ?_ hr
  rw [hx] at hb
  simp only [Rows.uptoBulk, Rows.uptoBulkAll, List.map_cons, List.map_nil] at hb
  omega
end Go.Proofs.YtbokbdcjpbnodaaGreatDoor
