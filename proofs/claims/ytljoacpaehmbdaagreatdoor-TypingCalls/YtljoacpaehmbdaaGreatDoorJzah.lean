import Derived.Test.YtljoacpaehmbdaaGreatDoorJzaf
import Derived.Test.YtljoacpaehmbdaaGreatDoorJzab
import Derived.Test.YtljoacpaehmbdaaGreatDoorJaf
import Derived.Test.YtljoacpaehmbdaaGreatDoorJzag
import Derived.Test.YtljoacpaehmbdaaGreatDoorKb
namespace Go.Proofs.YtljoacpaehmbdaaGreatDoor
open Go.RowKit Go.Maps

/-- In these blocks alone. -/
def inZ (A : Nat → Prop) : Zone := ⟨fun _ _ k => A k, fun _ _ => True, fun _ _ h => h⟩
theorem SlE.inKeep {A : Nat → Prop} {F : Nat → Prop} {w w' : World} {up : Nat} {v : Value} {l : EL} (h : SlE (inZ A) w up v l) (hk : Keeps F w w') (hF : ∀ k, k < w.heap.size → A k → ¬ F k) : SlE (inZ A) w' up v l :=
  SlE.keep (Q := fun _ => True) (fun _ _ _ _ => trivial) hk (fun _ k _ hl hg => ⟨hF k hl hg, hg⟩) trivial h
theorem ExIn.inMono {A B : Nat → Prop} {w : World} (hAB : ∀ k, k < w.heap.size → A k → B k) : ∀ {l : EL} {b o : Nat}, ExIn (inZ A) w l b o → ExIn (inZ B) w l b o
  | .nil, _, _, _ => trivial
  | .cons op n s kids rest, b, o, ⟨h1, h2, h3, h4, h5, ⟨ao, cap, h6, h7, h8⟩, h9⟩ =>
    ⟨h1, hAB _ h1 h2, h3, h4, h5, ⟨ao, cap, h6, h7, fun h0 => by
      obtain ⟨b', o', e, _, hr⟩ := h8 h0
      exact ⟨b', o', e, trivial, hr.inMono hAB⟩⟩, h9.inMono hAB⟩
theorem SlE.inMono {A B : Nat → Prop} {w : World} {up up' : Nat} {v : Value} {l : EL} (h : SlE (inZ A) w up v l) (hAB : ∀ k, k < w.heap.size → A k → B k) : SlE (inZ B) w up' v l := by
  obtain ⟨ao, cap, e, hc, hr⟩ := h
  refine ⟨ao, cap, e, hc, fun h0 => ?_⟩
  obtain ⟨b, o, e1, _, hx⟩ := hr h0
  exact ⟨b, o, e1, trivial, hx.inMono hAB⟩
/-- These cells hold these expressions. -/
def CsIn (A : Nat → Prop) (w : World) : EL → List Value → Prop
  | .nil, xs => xs = []
  | .cons op n s kids rest, xs => ∃ kv xs', xs = .int .i64 op :: .int .i64 n :: str s :: kv :: xs' ∧ SlE (inZ A) w 0 kv kids ∧ CsIn A w rest xs'
theorem CsIn.keep {A F : Nat → Prop} {w w' : World} (hk : Keeps F w w') (hF : ∀ k, k < w.heap.size → A k → ¬ F k) : ∀ {l : EL} {xs : List Value}, CsIn A w l xs → CsIn A w' l xs
  | .nil, _, h => h
  | .cons _ _ _ _ _, _, ⟨kv, xs', e, h1, h2⟩ => ⟨kv, xs', e, h1.inKeep hk hF, h2.keep hk hF⟩
theorem CsIn.mono {A B : Nat → Prop} {w : World} (hAB : ∀ k, k < w.heap.size → A k → B k) : ∀ {l : EL} {xs : List Value}, CsIn A w l xs → CsIn B w l xs
  | .nil, _, h => h
  | .cons _ _ _ _ _, _, ⟨kv, xs', e, h1, h2⟩ => ⟨kv, xs', e, h1.inMono hAB, h2.mono hAB⟩
theorem CsIn.snoc {A : Nat → Prop} {w : World} {op n : Int} {s : Txt} {kids : EL} {kv : Value} (hk : SlE (inZ A) w 0 kv kids) : ∀ {l : EL} {xs : List Value}, CsIn A w l xs → CsIn A w (l.app (.cons op n s kids .nil)) (xs ++ [.int .i64 op, .int .i64 n, str s, kv])
  | .nil, _, h => by
    have h' : _ = _ := h
    subst h'
    exact ⟨kv, [], rfl, hk, rfl⟩
  | .cons op' n' s' kids' rest, _, ⟨kv', xs', e, h1, h2⟩ => ⟨kv', xs' ++ [.int .i64 op, .int .i64 n, str s, kv], by rw [e]; rfl, h1, h2.snoc hk⟩
theorem CsIn.exIn {A B : Nat → Prop} {w : World} {b : Nat} (hb : b < w.heap.size) (hB : B b) (hAB : ∀ k, k < w.heap.size → A k → B k) : ∀ {l : EL} {xs : List Value} {o : Nat}, CsIn A w l xs → (∀ j x, xs[j]? = some x → w.cell? ⟨b, o + j, none⟩ = some x) → ExIn (inZ B) w l b o
  | .nil, _, _, _, _ => trivial
  | .cons op n s kids rest, _, o, ⟨kv, xs', e, h1, h2⟩, hc => by
    subst e
    obtain ⟨ao, cap, ek, hcap, hr⟩ := h1.inMono (up' := b) hAB
    refine ⟨hb, hB, hc 0 _ rfl, hc 1 _ rfl, hc 2 _ rfl, ⟨ao, cap, by rw [← ek]; exact hc 3 _ rfl, hcap, fun h0 => ?_⟩, CsIn.exIn hb hB hAB h2 (fun j x hx => ?_)⟩
    · obtain ⟨b', o', e1, _, hx⟩ := hr h0
      exact ⟨b', o', e1, trivial, hx⟩
    · rw [show o + 4 + j = o + (j + 4) by omega]
      exact hc (j + 4) x (by simpa using hx)
/-- What a copy of expressions leaves. -/
def CPost (l : EL) (w : World) (e : Ending) (w' : World) : Prop := ∃ v', e = .returned v' ∧ SlE (inZ (fun k => w.heap.size ≤ k)) w' 0 v' l ∧ Keeps (fun _ => False) w w'

set_option maxRecDepth 100000 in
set_option maxHeartbeats 2000000 in
theorem copyExpr_of (op n : Int) (s : Txt) (kids : EL) (v : Value) (w : World) (hv : ∃ ao cap, v = .slice ao kids.len cap) (hK : ∀ w', Keeps (fun _ => False) w w' → Calls Tryz.prog 35 #[v] w' (CPost kids w')) :
    Calls Tryz.prog 19 #[exV op n s v] w fun e w' => ∃ v', e = .returned (exV op n s v') ∧ SlE (inZ (fun k => w.heap.size ≤ k)) w' 0 v' kids ∧ Keeps (fun _ => False) w w' := by
  obtain ⟨ao, cap, rfl⟩ := hv
  have HK0 : Hid (Keeps (fun _ => False) w ((w.alloc (.cells #[.int .i64 op, .int .i64 n, str s, .slice ao kids.len cap] 29)).alloc (.cells #[.int .i64 0, .int .i64 0, .string ⟨#[]⟩, .slice none 0 0] 29))) := ((Keeps.refl _ w).alloc _).alloc _
  have e1 : (w.alloc (.cells #[.int .i64 op, .int .i64 n, str s, .slice ao kids.len cap] 29)).heap.size = w.heap.size + 1 := by simp
  have hb0 : ((w.alloc (.cells #[.int .i64 op, .int .i64 n, str s, .slice ao kids.len cap] 29)).alloc (.cells #[.int .i64 0, .int .i64 0, .string ⟨#[]⟩, .slice none 0 0] 29)).heap[w.heap.size]? = some (.cells #[.int .i64 op, .int .i64 n, str s, .slice ao kids.len cap] 29 (0, 0)) := (((Keeps.refl (fun _ => False) _).alloc _).block _ (by rw [e1]; omega) id).trans (heap_alloc_new w _)
  have hb1 : ((w.alloc (.cells #[.int .i64 op, .int .i64 n, str s, .slice ao kids.len cap] 29)).alloc (.cells #[.int .i64 0, .int .i64 0, .string ⟨#[]⟩, .slice none 0 0] 29)).heap[w.heap.size + 1]? = some (.cells #[.int .i64 0, .int .i64 0, .string ⟨#[]⟩, .slice none 0 0] 29 (0, 0)) := by
    have := heap_alloc_new (w.alloc (.cells #[.int .i64 op, .int .i64 n, str s, .slice ao kids.len cap] 29)) (.cells #[.int .i64 0, .int .i64 0, .string ⟨#[]⟩, .slice none 0 0] 29)
    rw [e1] at this
    exact this
  have SB : ∀ (F : Nat → Prop) (w' : World), Keeps F ((w.alloc (.cells #[.int .i64 op, .int .i64 n, str s, .slice ao kids.len cap] 29)).alloc (.cells #[.int .i64 0, .int .i64 0, .string ⟨#[]⟩, .slice none 0 0] 29)) w' → ¬ F w.heap.size → w'.cell? ⟨w.heap.size, 0, none⟩ = some (.int .i64 op) ∧ w'.cell? ⟨w.heap.size, 1, none⟩ = some (.int .i64 n) ∧ w'.cell? ⟨w.heap.size, 2, none⟩ = some (str s) ∧ w'.cell? ⟨w.heap.size, 3, none⟩ = some (.slice ao kids.len cap) := fun F w' hk hF => by
    have k0 := (hk.block _ (lt_of_block hb0) hF).trans hb0
    exact ⟨by rw [cell_of_blk k0]; rfl, by rw [cell_of_blk k0]; rfl, by rw [cell_of_blk k0]; rfl, by rw [cell_of_blk k0]; rfl⟩
  have d := SB (fun _ => False) _ (Keeps.refl _ _).drew id
  have HSB := hide SB
  have HB1 := hide hb1
  have HC := hide (hK _ (unhide HK0).drew)
  have hne : ¬ w.heap.size = w.heap.size + 1 := by omega
  clear hK SB hb0 hb1 e1
  go_enter Tryz.func19, Tryz.ntmps19
  go_wp2_with fail
  go_region_held3 (fun w' => w'.cell? ⟨w.heap.size, 0, none⟩ = some (.int .i64 op) ∧ w'.cell? ⟨w.heap.size, 1, none⟩ = some (.int .i64 n) ∧ w'.cell? ⟨w.heap.size, 2, none⟩ = some (str s) ∧ w'.cell? ⟨w.heap.size, 3, none⟩ = some (.slice ao kids.len cap)) (first | with_reducible exact d | with_reducible exact r0 | with_reducible exact t0)
    ((go_at_call 35; refine (unhide HC).mono ?_; rintro e w1 ⟨v', rfl, hs', hk1⟩; obtain ⟨vo, vc, rfl, hvc⟩ := hs'.head; have hkd := (Keeps.refl (fun _ => False) _).drew.trans hk1; have r0 := unhide HSB _ _ hkd id; have hz := (hkd.block _ (lt_of_block (unhide HB1)) id).trans (unhide HB1); have m0 := cell_of_blk hz 0; have m1 := cell_of_blk hz 1; have m2 := cell_of_blk hz 2; have m3 := cell_of_blk hz 3; simp at m0 m1 m2 m3; have g0 := frozen_of_blk hz 0; have g1 := frozen_of_blk hz 1; have g2 := frozen_of_blk hz 2; have g3 := frozen_of_blk hz 3; have hks : Keeps (fun q => q = w.heap.size + 1) w1 ((((w1.setCell ⟨w.heap.size + 1, 0, none⟩ (.int .i64 op)).setCell ⟨w.heap.size + 1, 1, none⟩ (.int .i64 n)).setCell ⟨w.heap.size + 1, 2, none⟩ (str s)).setCell ⟨w.heap.size + 1, 3, none⟩ (.slice vo kids.len vc)) := (((keeps_set _ _ _ _).trans (keeps_set _ _ _ _)).trans (keeps_set _ _ _ _)).trans (keeps_set _ _ _ _); have t0 := unhide HSB (fun q => q = w.heap.size + 1) _ (hkd.any.trans hks) hne; have hb4 := heap_setCell_at (o := 3) (heap_setCell_at (o := 2) (heap_setCell_at (o := 1) (heap_setCell_at (o := 0) hz (.int .i64 op)) (.int .i64 n)) (str s)) (.slice vo kids.len vc); have s0 := cell_of_blk hb4 0; have s1 := cell_of_blk hb4 1; have s2 := cell_of_blk hb4 2; have s3 := cell_of_blk hb4 3; simp at s0 s1 s2 s3; have HKS := hide hks; have HKD := hide ((unhide HK0).trans hkd); have HS' := hide hs'; clear hkd hk1 hz hb4 hks hs'))
  all_goals go_wp2_with fail
  all_goals (refine bodyPost_ret (v := exV op n s (.slice vo kids.len vc)) (by simp [results, go_sem, s0, s1, s2, s3]) rfl ?_; exact ⟨_, rfl, ((unhide HS').inMono (up' := 0) (B := fun k => w.heap.size + 2 ≤ k) (fun k _ h => by simp at h; omega)).inKeep (unhide HKS) (fun k _ h e => by omega) |>.inMono (fun k _ h => by omega), (unhide HKD).narrow (unhide HKS) (fun q e => by omega)⟩)
theorem Tryz.info29 : (Tryz.prog.info? 29).map (fun i => (i.zero, i.size, i.bytes)) = some (some (.agg #[.int .i64 0, .int .i64 0, .string ⟨#[]⟩, .slice none 0 0]), 4, 56) := by kernel_rfl
theorem app_one (pre : EL) (op n : Int) (s : Txt) (kids rest : EL) : (pre.app (.cons op n s kids .nil)).app rest = pre.app (.cons op n s kids rest) := by rw [EL.app_assoc]; rfl

set_option maxRecDepth 100000 in
set_option maxHeartbeats 4000000 in
theorem copyExprs_v (Z : Zone) (N : Nat) : ∀ (l : EL), l.size < N → l.size ≤ 4294967294 → ∀ (w : World) (up : Nat) (v : Value), SlE Z w up v l → Calls Tryz.prog 35 #[v] w (CPost l w) := by
  induction N with
  | zero => intro l h; omega
  | succ N ih =>
    intro l hsz hlen' w up v hS
    have hlen : l.len ≤ 4294967294 := by have := EL.len_le l; omega
    obtain ⟨ao, cap, b, off, rfl, hcap, ha, hx⟩ := hS.open
    obtain ⟨i0, hi, hz0, hz1, hz2⟩ := info_parts Tryz.info29
    have IH := hide ih
    have HX := hide hx
    have HA := hide ha
    clear hS ih hx ha
    go_enter Tryz.func35, Tryz.ntmps35
    go_wp2_with fail
    go_loopw [3, 4] (fun o i wr => ∃ (pre rest : EL) (k : Nat) (xs : List Value) (A : Nat → Prop), i = .int .i64 k ∧ l = pre.app rest ∧ k = pre.len ∧ wr.ownsRow w.heap.size 29 4 o k xs ∧ CsIn A wr pre xs ∧ (∀ q, A q → w.heap.size ≤ q ∧ q < wr.heap.size ∧ o.ownBlock ≠ some q) ∧ Keeps (fun _ => False) w wr ∧ ExIn Z w rest b (off + k * 4)) (fun _ i _ => l.len - (intOf i).toNat)
    case atStart => exact ⟨.nil, l, 0, [], fun _ => False, rfl, rfl, rfl, World.ownsRow_nil w w.heap.size 29 4, rfl, fun q h => h.elim, Keeps.refl _ _, by simpa using unhide HX⟩
    case round =>
      obtain ⟨pre, rest, k, xs, A, rfl, happ, hkp, hown, hcs, hAq, hkeep, hr⟩ := hrel
      obtain ⟨oo, oc, rfl⟩ := (rowAt_own hown).form
      have hll := congrArg EL.len happ
      have hls := congrArg EL.size happ
      rw [EL.len_app] at hll
      rw [EL.size_app] at hls
      have HO := hide hown
      have HCS := hide hcs
      have HAQ := hide hAq
      have HK := hide hkeep
      have HAPP := hide happ
      cases rest with
      | nil =>
        rw [EL.app_nil] at happ
        subst happ
        simp only [EL.len, EL.size] at hll hls
        have i1 : ¬ (k : Int) < (l.len : Int) := by omega
        subst hkp
        clear hown hcs hAq hkeep hr hll hls HAPP
        go_wp2_with fail
        go_ret
        have hrow := rowAt_own (unhide HO)
        refine ⟨_, rfl, ⟨oo, oc, rfl, hrow.room _ _ _ rfl, fun h0 => ?_⟩, unhide HK⟩
        obtain ⟨g, goff, gc, e, hg, hgc⟩ := hrow.cells (by omega)
        simp at e
        obtain ⟨rfl, rfl⟩ := e
        have hge : w.heap.size ≤ g := ((unhide HO).lt g rfl).1
        exact ⟨g, goff, rfl, trivial, CsIn.exIn hg hge (fun q _ h => ((unhide HAQ) q h).1) (unhide HCS) hgc⟩
      | cons op n s kids rest =>
        obtain ⟨h1, h2, h3, h4, h5, ⟨kao, kcap, h6, h7, h8⟩, h9⟩ := hr
        simp only [EL.len, EL.size] at hll hls
        have hkl : k + (rest.len + 1) = l.len := by omega
        have hks : pre.size + (kids.size + rest.size + 1) = l.size := by omega
        have HKP := hide hkp
        clear hll hls hkp
        obtain ⟨rfl, hp⟩ := (unhide HA) (by omega)
        have HKID : Hid (SlE Z w b (.slice kao kids.len kcap) kids) := ⟨kao, kcap, rfl, h7, h8⟩
        have HR := hide h9
        have i1 : (k : Int) < (l.len : Int) := by omega
        have ix0 : (0 : Int) ≤ (k : Int) := by omega
        have q0 := (hkeep.cell h1 id).trans h3
        have q1 := (hkeep.cell h1 id).trans h4
        have q2 := (hkeep.cell h1 id).trans h5
        have q3 := (hkeep.cell h1 id).trans h6
        have HC := hide (copyExpr_of op n s kids (.slice kao kids.len kcap) wr ⟨_, _, rfl⟩ (fun w' hk => unhide IH kids (by omega) (by omega) w' b _ ((unhide HKID).keepF ((unhide HK).trans hk))))
        have HB0 : Hid (w.heap.size ≤ wr.heap.size) := hkeep.size
        clear hown hcs hAq hkeep h2 h3 h4 h5 h6 h8 h9 happ
        go_wp2_with (first
          | (go_at_call 19; refine (unhide HC).mono ?_; rintro e w1 ⟨kv, rfl, hs1, hk1⟩; obtain ⟨vo, vc, rfl, hvc⟩ := hs1.head; have HOX := hide (ownsRow_kept (unhide HO) (((hk1.alloc (.cells #[.int .i64 op, .int .i64 n, str s, .slice vo kids.len vc] 29)).alloc (.cells #[.int .i64 op, .int .i64 n, str s, .slice vo kids.len vc] 29))) (fun _ _ => id)); have HNB := hide (heap_alloc_new (w1.alloc (.cells #[.int .i64 op, .int .i64 n, str s, .slice vo kids.len vc] 29)) (.cells #[.int .i64 op, .int .i64 n, str s, .slice vo kids.len vc] 29)); rw [show (w1.alloc (.cells #[.int .i64 op, .int .i64 n, str s, .slice vo kids.len vc] 29)).heap.size = w1.heap.size + 1 by simp] at HNB; have HS1 := hide hs1; have HK1 := hide hk1; have hsz1 := hk1.size; clear hs1 hk1)
          | (at_builtin; refine wpList_append_lies _ rfl _ _ _ rfl w.heap.size 29 i0 _ 4 56 Tryz.underlying27 hi hz0 hz1 hz2 rfl (by omega) (.slice oo k oc) k xs rfl (unhide HOX) ⟨w1.heap.size + 1, 0, none⟩ 1 1 [.int .i64 op, .int .i64 n, str s, .slice vo kids.len vc] rfl rfl (World.news_of_block (cs := #[.int .i64 op, .int .i64 n, str s, .slice vo kids.len vc]) (t := 29) (fr := (0, 0)) (unhide HNB)) (by simp [Value.oneCell']) (by omega) (by unfold maxLen; omega) (by omega) (by have := unhide HB0; simp; omega) (w1.heap.size + 2) (by simp) ?_; intro g' cap6 w6 hown6 hgrow hat hlt6; have HO6 := hide hown6; have HGR := hide hgrow; have HAT := hide hat; clear hown6 hgrow hat))
        go_roundw
        case rel =>
          have hgr := unhide HGR
          have hk3 : Keeps (fun q => (Value.slice oo k oc).ownBlock = some q) w1 w6 := (((Keeps.refl _ w1).alloc _).alloc _).grown hgr (fun q e _ => e)
          have hk2 : Keeps (fun q => (Value.slice oo k oc).ownBlock = some q) wr w6 := (unhide HK1).any.trans hk3
          have hkw : Keeps (fun _ => False) w w6 := (unhide HK).narrow hk2 (fun q e => ((unhide HO).lt q e).1)
          have hol : ∀ q, (Value.slice oo k oc).ownBlock = some q → q < wr.heap.size := fun q e => ((unhide HO).lt q e).2
          have c1 := CsIn.mono (B := fun q => A q ∨ (wr.heap.size ≤ q ∧ q < w1.heap.size)) (fun _ _ h => Or.inl h) ((unhide HCS).keep hk2 (fun q _ h e => ((unhide HAQ) q h).2.2 e))
          have c2 : SlE (inZ (fun q => A q ∨ (wr.heap.size ≤ q ∧ q < w1.heap.size))) w6 0 (.slice vo kids.len vc) kids :=
            (((unhide HS1).inMono (up' := 0) (B := fun q => wr.heap.size ≤ q ∧ q < w1.heap.size) (fun q hq h => ⟨h, hq⟩)).inKeep hk3 (fun q _ h e => by have := hol q e; omega)).inMono (fun _ _ h => Or.inr h)
          have hs6 : w1.heap.size + 2 ≤ w6.heap.size := by have := hgr.size; simp at this; omega
          refine ⟨pre.app (.cons op n s kids .nil), rest, k + 1, _, _, by go_num, ?_, ?_, unhide HO6, c1.snoc c2, fun q hq => ?_, hkw, ?_⟩
          · rw [app_one]; exact unhide HAPP
          · rw [EL.len_app, unhide HKP]; rfl
          · have hb0 := unhide HB0
            rcases hq with hq | hq
            · obtain ⟨a1, a2, a3⟩ := (unhide HAQ) q hq
              refine ⟨a1, by omega, fun e => ?_⟩
              have e' : g' = q := by simpa [Value.ownBlock] using e
              rcases unhide HAT with h | h
              · exact a3 (by rw [h, e'])
              · omega
            · refine ⟨by omega, by omega, fun e => ?_⟩
              have e' : g' = q := by simpa [Value.ownBlock] using e
              rcases unhide HAT with h | h
              · have := hol _ h; omega
              · omega
          · rw [show off + (k + 1) * 4 = off + k * 4 + 4 by omega]
            exact unhide HR
        case measure => simp [intOf]; omega
end Go.Proofs.YtljoacpaehmbdaaGreatDoor
namespace Go.Proofs.YtljoacpaehmbdaaGreatDoor
open Go.RowKit Go.Maps

def RuleA.isOK : RuleA → Bool
  | .takes is _ => decide (is = 1) || (decide (is = 2) || decide (is = 3))
  | _ => true
theorem rule_is {m : Nat} {r : RuleA} (hr : (ruleL[m]?).join = some r) : r.isOK = true := by
  have h : ∀ i : Fin 26, (match ((ruleL[i.val]?).join).map RuleA.isOK with | some x => x | none => true) = true := by decide
  by_cases hm : m < 26
  · have := h ⟨m, hm⟩
    simp only [hr, Option.map_some] at this
    exact this
  · have : ruleL[m]? = none := List.getElem?_eq_none (by show 26 ≤ m; omega)
    rw [this] at hr
    cases hr
theorem kth_mem {ks : List KA} {i : Nat} (h : i < ks.length) : kth ks i ∈ ks := by
  have e : kth ks i = ks[i] := by simp [kth, List.getD, List.getElem?_eq_getElem h]
  rw [e]
  exact List.getElem_mem h
theorem rule_okT {S : List FieldA} (hS : schemaB S = true) {op n : Int} {s : Txt} {ks : List KA} (hr : rootB op n s ks.length = true) (hk : ∀ k ∈ ks, okT k.t) (h0 : (ruleP S op s ks).2 = 0) : okT (ruleP S op s ks).1.t := by
  obtain ⟨m, r, rfl, _, hrl, hkids, _, _⟩ := root_open hr
  have his := rule_is hrl
  rw [ruleP_fit hrl] at h0 ⊢
  cases r with
  | takes is ts =>
    simp only [RuleA.fit, takesK] at h0 ⊢
    by_cases h : takesI ks ts = 0
    · rw [if_pos h]
      simp only [RuleA.isOK, Bool.or_eq_true, decide_eq_true_eq] at his
      exact his
    · rw [if_neg h] at h0
      exact absurd h0 h
  | field =>
    simp only [RuleA.fit, namedK] at h0 ⊢
    cases hf : fieldOf S s with
    | none => rw [hf] at h0; exact absurd h0 (by decide)
    | some f => exact field_okT hS hf
  | has => exact Or.inr (Or.inl rfl)
  | compares ts => exact Or.inr (Or.inl rfl)
  | orElse =>
    have : 2 = ks.length := hkids
    exact hk (kth ks 0) (kth_mem (by omega))
  | pick =>
    have : 3 = ks.length := hkids
    exact hk (kth ks 1) (kth_mem (by omega))
theorem kinds_okT {S : List FieldA} (hS : schemaB S = true) : ∀ l : EL, wellE l = true → (kindsP S l).2 = 0 → ∀ k ∈ (kindsP S l).1, okT k.t
  | .nil, _, _, k, hk => by simp [kindsP] at hk
  | .cons op n s kids rest, hw, h0, k, hk => by
    have ih1 := kinds_okT hS kids
    have ih2 := kinds_okT hS rest
    simp only [wellE, Bool.and_eq_true] at hw
    obtain ⟨hr, hwk, hwr⟩ := hw
    rw [kindsP_cons] at h0 hk
    by_cases h1 : (kindP S op s kids).2 = 0
    · by_cases h2 : (kindsP S rest).2 = 0
      · simp [h1, h2] at hk
        rcases hk with rfl | hk
        · unfold kindP at h1 ⊢
          by_cases h3 : (kindsP S kids).2 = 0
          · simp only [h3, ne_eq, not_true_eq_false, if_false] at h1 ⊢
            exact rule_okT hS (n := n) (by rw [kindsP_len S kids h3]; exact hr) (ih1 hwk h3) h1
          · rw [if_pos h3] at h1
            exact absurd h1 h3
        · exact ih2 hwr h2 k hk
      · simp [h1, h2] at h0
    · simp [h1] at h0
theorem wantL_len : ∀ m : Nat, 7 ≤ m → m ≤ 25 → ((wantL m).1.length : Int) = kidsB m := by
  have h : ∀ i : Fin 26, 7 ≤ i.val → ((wantL i.val).1.length : Int) = kidsB i.val := by decide
  intro m h1 h2
  exact h ⟨m, by omega⟩ h1
/-- What a rule asks of the kids is there. -/
def wantFits (ws : List (Int × Bool)) (n : Nat) : Bool := ws.all fun p => (decide (p.1 ≠ -2) || decide (0 < n)) && (decide (p.1 ≠ -3) || decide (1 < n))
theorem wantL_fits : ∀ m : Nat, 7 ≤ m → m ≤ 25 → wantFits (wantL m).1 (wantL m).1.length = true ∧ ((wantL m).2 = -2 → 0 < (wantL m).1.length) ∧ ((wantL m).2 = -3 → 1 < (wantL m).1.length) := by
  have h : ∀ i : Fin 26, 7 ≤ i.val → wantFits (wantL i.val).1 (wantL i.val).1.length = true ∧ ((wantL i.val).2 = -2 → 0 < (wantL i.val).1.length) ∧ ((wantL i.val).2 = -3 → 1 < (wantL i.val).1.length) := by decide
  intro m h1 h2
  exact h ⟨m, by omega⟩ h1
theorem wantsI_step {all ks : List KA} {ws : List (Int × Bool)} {j : Nat} {k : KA} {p : Int × Bool} (hk : ks[j]? = some k) (ht : ws[j]? = some p) : wantsI all (ks.drop j) (ws.drop j) = if askedB p.1 k.t all = false then 91 else if p.2 ≠ k.o then 92 else wantsI all (ks.drop (j + 1)) (ws.drop (j + 1)) := by
  obtain ⟨h1, e1⟩ := List.getElem?_eq_some_iff.1 hk
  obtain ⟨h2, e2⟩ := List.getElem?_eq_some_iff.1 ht
  rw [List.drop_eq_getElem_cons h1, List.drop_eq_getElem_cons h2, e1, e2]
  rfl
end Go.Proofs.YtljoacpaehmbdaaGreatDoor
