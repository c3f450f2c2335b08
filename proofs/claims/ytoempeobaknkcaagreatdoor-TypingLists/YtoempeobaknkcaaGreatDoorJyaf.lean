import Derived.Test.YtoempeobaknkcaaGreatDoorJybb
import Derived.Test.YtoempeobaknkcaaGreatDoorJyak
import Derived.Test.YtoempeobaknkcaaGreatDoorJyap
import Derived.Maps.AppendAt
namespace Go.Proofs.YtoempeobaknkcaaGreatDoor
open Go.RowKit Go.Maps

/-- In these blocks alone. -/
def inZ (A : Nat → Prop) : Zone := ⟨fun _ _ k => A k, fun _ _ => True, fun _ _ h => h⟩
theorem ExIn.inKeep {A : Nat → Prop} {F : Nat → Prop} {w w' : World} {l : EL} {b o : Nat} (h : ExIn (inZ A) w l b o) (hk : Keeps F w w') (hF : ∀ k, k < w.heap.size → A k → ¬ F k) : ExIn (inZ A) w' l b o :=
  ExIn.keep (Q := fun _ => True) (fun _ _ _ _ => trivial) hk (fun _ k _ hl hg => ⟨hF k hl hg, hg⟩) trivial h
theorem SlE.inKeep {A : Nat → Prop} {F : Nat → Prop} {w w' : World} {up : Nat} {v : Value} {l : EL} (h : SlE (inZ A) w up v l) (hk : Keeps F w w') (hF : ∀ k, k < w.heap.size → A k → ¬ F k) : SlE (inZ A) w' up v l :=
  SlE.keep (Q := fun _ => True) (fun _ _ _ _ => trivial) hk (fun _ k _ hl hg => ⟨hF k hl hg, hg⟩) trivial h
theorem ExIn.inMono {A B : Nat → Prop} {w : World} (hAB : ∀ k, k < w.heap.size → A k → B k) : ∀ {l : EL} {b o : Nat}, ExIn (inZ A) w l b o → ExIn (inZ B) w l b o
  | .nil, _, _, _ => trivial
  | .cons op n s kids rest, b, o, ⟨h1, h2, h3, h4, h5, ⟨ao, cap, h6, h7, h8⟩, h9⟩ =>
    ⟨h1, hAB _ h1 h2, h3, h4, h5, ⟨ao, cap, h6, h7, fun h0 => by
      obtain ⟨b', o', e, _, hr⟩ := h8 h0
      exact ⟨b', o', e, trivial, hr.inMono hAB⟩⟩, h9.inMono hAB⟩
theorem SlE.inMono {A B : Nat → Prop} {w : World} {up up' : Nat} {v : Value} {l : EL} (h : SlE (inZ A) w up v l) (hAB : ∀ k, k < w.heap.size → A k → B k) : SlE (inZ B) w up' v l := by
  obtain ⟨ao, cap, e, hc, hr⟩ := h
  refine ⟨ao, cap, e, hc, fun h0 => ?_⟩
  obtain ⟨b, o, e1, _, hx⟩ := hr h0
  exact ⟨b, o, e1, trivial, hx.inMono hAB⟩
/-- These cells hold these expressions. -/
def CsIn (A : Nat → Prop) (w : World) : EL → List Value → Prop
  | .nil, xs => xs = []
  | .cons op n s kids rest, xs => ∃ kv xs', xs = .int .i64 op :: .int .i64 n :: str s :: kv :: xs' ∧ SlE (inZ A) w 0 kv kids ∧ CsIn A w rest xs'
theorem CsIn.keep {A F : Nat → Prop} {w w' : World} (hk : Keeps F w w') (hF : ∀ k, k < w.heap.size → A k → ¬ F k) : ∀ {l : EL} {xs : List Value}, CsIn A w l xs → CsIn A w' l xs
  | .nil, _, h => h
  | .cons _ _ _ _ _, _, ⟨kv, xs', e, h1, h2⟩ => ⟨kv, xs', e, h1.inKeep hk hF, h2.keep hk hF⟩
theorem CsIn.mono {A B : Nat → Prop} {w : World} (hAB : ∀ k, k < w.heap.size → A k → B k) : ∀ {l : EL} {xs : List Value}, CsIn A w l xs → CsIn B w l xs
  | .nil, _, h => h
  | .cons _ _ _ _ _, _, ⟨kv, xs', e, h1, h2⟩ => ⟨kv, xs', e, h1.inMono hAB, h2.mono hAB⟩
theorem CsIn.snoc {A : Nat → Prop} {w : World} {op n : Int} {s : Txt} {kids : EL} {kv : Value} (hk : SlE (inZ A) w 0 kv kids) : ∀ {l : EL} {xs : List Value}, CsIn A w l xs → CsIn A w (l.app (.cons op n s kids .nil)) (xs ++ [.int .i64 op, .int .i64 n, str s, kv])
  | .nil, _, h => by
    have h' : _ = _ := h
    subst h'
    exact ⟨kv, [], rfl, hk, rfl⟩
  | .cons op' n' s' kids' rest, _, ⟨kv', xs', e, h1, h2⟩ => ⟨kv', xs' ++ [.int .i64 op, .int .i64 n, str s, kv], by rw [e]; rfl, h1, h2.snoc hk⟩
theorem CsIn.exIn {A B : Nat → Prop} {w : World} {b : Nat} (hb : b < w.heap.size) (hB : B b) (hAB : ∀ k, k < w.heap.size → A k → B k) : ∀ {l : EL} {xs : List Value} {o : Nat}, CsIn A w l xs → (∀ j x, xs[j]? = some x → w.cell? ⟨b, o + j, none⟩ = some x) → ExIn (inZ B) w l b o
  | .nil, _, _, _, _ => trivial
  | .cons op n s kids rest, _, o, ⟨kv, xs', e, h1, h2⟩, hc => by
    subst e
    obtain ⟨ao, cap, ek, hcap, hr⟩ := h1.inMono (up' := b) hAB
    refine ⟨hb, hB, hc 0 _ rfl, hc 1 _ rfl, hc 2 _ rfl, ⟨ao, cap, by rw [← ek]; exact hc 3 _ rfl, hcap, fun h0 => ?_⟩, CsIn.exIn hb hB hAB h2 (fun j x hx => ?_)⟩
    · obtain ⟨b', o', e1, _, hx⟩ := hr h0
      exact ⟨b', o', e1, trivial, hx⟩
    · rw [show o + 4 + j = o + (j + 4) by omega]
      exact hc (j + 4) x (by simpa using hx)
/-- What a copy of expressions leaves. -/
def CPost (l : EL) (w : World) (e : Ending) (w' : World) : Prop := ∃ v', e = .returned v' ∧ SlE (inZ (fun k => w.heap.size ≤ k)) w' 0 v' l ∧ Keeps (fun _ => False) w w'

set_option maxRecDepth 100000 in
set_option maxHeartbeats 2000000 in
theorem copyExpr_of (op n : Int) (s : Txt) (kids : EL) (v : Value) (w : World) (hv : ∃ ao cap, v = .slice ao kids.len cap) (hK : ∀ w', Keeps (fun _ => False) w w' → Calls Tryz.prog 39 #[v] w' (CPost kids w')) :
    Calls Tryz.prog 40 #[exV op n s v] w fun e w' => ∃ v', e = .returned (exV op n s v') ∧ SlE (inZ (fun k => w.heap.size ≤ k)) w' 0 v' kids ∧ Keeps (fun _ => False) w w' := by
  obtain ⟨ao, cap, rfl⟩ := hv
  have HK0 : Hid (Keeps (fun _ => False) w ((w.alloc (.cells #[.int .i64 op, .int .i64 n, str s, .slice ao kids.len cap] 57)).alloc (.cells #[.int .i64 0, .int .i64 0, .string ⟨#[]⟩, .slice none 0 0] 57))) := ((Keeps.refl _ w).alloc _).alloc _
  have e1 : (w.alloc (.cells #[.int .i64 op, .int .i64 n, str s, .slice ao kids.len cap] 57)).heap.size = w.heap.size + 1 := by simp
  have hb0 : ((w.alloc (.cells #[.int .i64 op, .int .i64 n, str s, .slice ao kids.len cap] 57)).alloc (.cells #[.int .i64 0, .int .i64 0, .string ⟨#[]⟩, .slice none 0 0] 57)).heap[w.heap.size]? = some (.cells #[.int .i64 op, .int .i64 n, str s, .slice ao kids.len cap] 57 (0, 0)) := (((Keeps.refl (fun _ => False) _).alloc _).block _ (by rw [e1]; omega) id).trans (heap_alloc_new w _)
  have hb1 : ((w.alloc (.cells #[.int .i64 op, .int .i64 n, str s, .slice ao kids.len cap] 57)).alloc (.cells #[.int .i64 0, .int .i64 0, .string ⟨#[]⟩, .slice none 0 0] 57)).heap[w.heap.size + 1]? = some (.cells #[.int .i64 0, .int .i64 0, .string ⟨#[]⟩, .slice none 0 0] 57 (0, 0)) := by
    have := heap_alloc_new (w.alloc (.cells #[.int .i64 op, .int .i64 n, str s, .slice ao kids.len cap] 57)) (.cells #[.int .i64 0, .int .i64 0, .string ⟨#[]⟩, .slice none 0 0] 57)
    rw [e1] at this
    exact this
  have SB : ∀ (F : Nat → Prop) (w' : World), Keeps F ((w.alloc (.cells #[.int .i64 op, .int .i64 n, str s, .slice ao kids.len cap] 57)).alloc (.cells #[.int .i64 0, .int .i64 0, .string ⟨#[]⟩, .slice none 0 0] 57)) w' → ¬ F w.heap.size → w'.cell? ⟨w.heap.size, 0, none⟩ = some (.int .i64 op) ∧ w'.cell? ⟨w.heap.size, 1, none⟩ = some (.int .i64 n) ∧ w'.cell? ⟨w.heap.size, 2, none⟩ = some (str s) ∧ w'.cell? ⟨w.heap.size, 3, none⟩ = some (.slice ao kids.len cap) := fun F w' hk hF => by
    have k0 := (hk.block _ (lt_of_block hb0) hF).trans hb0
    exact ⟨by rw [cell_of_blk k0]; rfl, by rw [cell_of_blk k0]; rfl, by rw [cell_of_blk k0]; rfl, by rw [cell_of_blk k0]; rfl⟩
  have d := SB (fun _ => False) _ (Keeps.refl _ _).drew id
  have HSB := hide SB
  have HB1 := hide hb1
  have HC := hide (hK _ (unhide HK0).drew)
  have hne : ¬ w.heap.size = w.heap.size + 1 := by omega
  clear hK SB hb0 hb1 e1
  go_enter Tryz.func40, Tryz.ntmps40
  go_wp2_with fail
  go_region_held3 (fun w' => w'.cell? ⟨w.heap.size, 0, none⟩ = some (.int .i64 op) ∧ w'.cell? ⟨w.heap.size, 1, none⟩ = some (.int .i64 n) ∧ w'.cell? ⟨w.heap.size, 2, none⟩ = some (str s) ∧ w'.cell? ⟨w.heap.size, 3, none⟩ = some (.slice ao kids.len cap)) (first | with_reducible exact d | with_reducible exact r0 | with_reducible exact t0)
    ((go_at_call 39; refine (unhide HC).mono ?_; rintro e w1 ⟨v', rfl, hs', hk1⟩; obtain ⟨vo, vc, rfl, hvc⟩ := hs'.head; have hkd := (Keeps.refl (fun _ => False) _).drew.trans hk1; have r0 := unhide HSB _ _ hkd id; have hz := (hkd.block _ (lt_of_block (unhide HB1)) id).trans (unhide HB1); have m0 := cell_of_blk hz 0; have m1 := cell_of_blk hz 1; have m2 := cell_of_blk hz 2; have m3 := cell_of_blk hz 3; simp at m0 m1 m2 m3; have g0 := frozen_of_blk hz 0; have g1 := frozen_of_blk hz 1; have g2 := frozen_of_blk hz 2; have g3 := frozen_of_blk hz 3; have hks : Keeps (fun q => q = w.heap.size + 1) w1 ((((w1.setCell ⟨w.heap.size + 1, 0, none⟩ (.int .i64 op)).setCell ⟨w.heap.size + 1, 1, none⟩ (.int .i64 n)).setCell ⟨w.heap.size + 1, 2, none⟩ (str s)).setCell ⟨w.heap.size + 1, 3, none⟩ (.slice vo kids.len vc)) := (((keeps_set _ _ _ _).trans (keeps_set _ _ _ _)).trans (keeps_set _ _ _ _)).trans (keeps_set _ _ _ _); have t0 := unhide HSB (fun q => q = w.heap.size + 1) _ (hkd.any.trans hks) hne; have hb4 := heap_setCell_at (o := 3) (heap_setCell_at (o := 2) (heap_setCell_at (o := 1) (heap_setCell_at (o := 0) hz (.int .i64 op)) (.int .i64 n)) (str s)) (.slice vo kids.len vc); have s0 := cell_of_blk hb4 0; have s1 := cell_of_blk hb4 1; have s2 := cell_of_blk hb4 2; have s3 := cell_of_blk hb4 3; simp at s0 s1 s2 s3; have HKS := hide hks; have HKD := hide ((unhide HK0).trans hkd); have HS' := hide hs'; clear hkd hk1 hz hb4 hks hs'))
  all_goals go_wp2_with fail
  all_goals (refine bodyPost_ret (v := exV op n s (.slice vo kids.len vc)) (by simp [results, go_sem, s0, s1, s2, s3]) rfl ?_; exact ⟨_, rfl, ((unhide HS').inMono (up' := 0) (B := fun k => w.heap.size + 2 ≤ k) (fun k _ h => by simp at h; omega)).inKeep (unhide HKS) (fun k _ h e => by omega) |>.inMono (fun k _ h => by omega), (unhide HKD).narrow (unhide HKS) (fun q e => by omega)⟩)
theorem Tryz.info57 : (Tryz.prog.info? 57).map (fun i => (i.zero, i.size, i.bytes)) = some (some (.agg #[.int .i64 0, .int .i64 0, .string ⟨#[]⟩, .slice none 0 0]), 4, 56) := by kernel_rfl
theorem app_one (pre : EL) (op n : Int) (s : Txt) (kids rest : EL) : (pre.app (.cons op n s kids .nil)).app rest = pre.app (.cons op n s kids rest) := by rw [EL.app_assoc]; rfl

set_option maxRecDepth 100000 in
set_option maxHeartbeats 4000000 in
theorem copyExprs_v (Z : Zone) (N : Nat) : ∀ (l : EL), l.size < N → l.size ≤ 4294967294 → ∀ (w : World) (up : Nat) (v : Value), SlE Z w up v l → Calls Tryz.prog 39 #[v] w (CPost l w) := by
  induction N with
  | zero => intro l h; omega
  | succ N ih =>
    intro l hsz hlen' w up v hS
    have hlen : l.len ≤ 4294967294 := by have := EL.len_le l; omega
    obtain ⟨ao, cap, b, off, rfl, hcap, ha, hx⟩ := hS.open
    obtain ⟨i0, hi, hz0, hz1, hz2⟩ := info_parts Tryz.info57
    have IH := hide ih
    have HX := hide hx
    have HA := hide ha
    clear hS ih hx ha
    go_enter Tryz.func39, Tryz.ntmps39
    go_wp2_with fail
    go_loopw [3, 4] (fun o i wr => ∃ (pre rest : EL) (k : Nat) (xs : List Value) (A : Nat → Prop), i = .int .i64 k ∧ l = pre.app rest ∧ k = pre.len ∧ wr.ownsRow w.heap.size 57 4 o k xs ∧ CsIn A wr pre xs ∧ (∀ q, A q → w.heap.size ≤ q ∧ q < wr.heap.size ∧ o.ownBlock ≠ some q) ∧ Keeps (fun _ => False) w wr ∧ ExIn Z w rest b (off + k * 4)) (fun _ i _ => l.len - (intOf i).toNat)
    case atStart => exact ⟨.nil, l, 0, [], fun _ => False, rfl, rfl, rfl, World.ownsRow_nil w w.heap.size 57 4, rfl, fun q h => h.elim, Keeps.refl _ _, by simpa using unhide HX⟩
    case round =>
      obtain ⟨pre, rest, k, xs, A, rfl, happ, hkp, hown, hcs, hAq, hkeep, hr⟩ := hrel
      obtain ⟨oo, oc, rfl⟩ := (rowAt_own hown).form
      have hll := congrArg EL.len happ
      have hls := congrArg EL.size happ
      rw [EL.len_app] at hll
      rw [EL.size_app] at hls
      have HO := hide hown
      have HCS := hide hcs
      have HAQ := hide hAq
      have HK := hide hkeep
      have HAPP := hide happ
      cases rest with
      | nil =>
        rw [EL.app_nil] at happ
        subst happ
        simp only [EL.len, EL.size] at hll hls
        have i1 : ¬ (k : Int) < (l.len : Int) := by omega
        subst hkp
        clear hown hcs hAq hkeep hr hll hls HAPP
        go_wp2_with fail
        go_ret
        have hrow := rowAt_own (unhide HO)
        refine ⟨_, rfl, ⟨oo, oc, rfl, hrow.room _ _ _ rfl, fun h0 => ?_⟩, unhide HK⟩
        obtain ⟨g, goff, gc, e, hg, hgc⟩ := hrow.cells (by omega)
        simp at e
        obtain ⟨rfl, rfl⟩ := e
        have hge : w.heap.size ≤ g := ((unhide HO).lt g rfl).1
        exact ⟨g, goff, rfl, trivial, CsIn.exIn hg hge (fun q _ h => ((unhide HAQ) q h).1) (unhide HCS) hgc⟩
      | cons op n s kids rest =>
        obtain ⟨h1, h2, h3, h4, h5, ⟨kao, kcap, h6, h7, h8⟩, h9⟩ := hr
        simp only [EL.len, EL.size] at hll hls
        have hkl : k + (rest.len + 1) = l.len := by omega
        have hks : pre.size + (kids.size + rest.size + 1) = l.size := by omega
        have HKP := hide hkp
        clear hll hls hkp
        obtain ⟨rfl, hp⟩ := (unhide HA) (by omega)
        have HKID : Hid (SlE Z w b (.slice kao kids.len kcap) kids) := ⟨kao, kcap, rfl, h7, h8⟩
        have HR := hide h9
        have i1 : (k : Int) < (l.len : Int) := by omega
        have ix0 : (0 : Int) ≤ (k : Int) := by omega
        have q0 := (hkeep.cell h1 id).trans h3
        have q1 := (hkeep.cell h1 id).trans h4
        have q2 := (hkeep.cell h1 id).trans h5
        have q3 := (hkeep.cell h1 id).trans h6
        have HC := hide (copyExpr_of op n s kids (.slice kao kids.len kcap) wr ⟨_, _, rfl⟩ (fun w' hk => unhide IH kids (by omega) (by omega) w' b _ ((unhide HKID).keepF ((unhide HK).trans hk))))
        have HB0 : Hid (w.heap.size ≤ wr.heap.size) := hkeep.size
        clear hown hcs hAq hkeep h2 h3 h4 h5 h6 h8 h9 happ
        go_wp2_with (first
          | (go_at_call 40; refine (unhide HC).mono ?_; rintro e w1 ⟨kv, rfl, hs1, hk1⟩; obtain ⟨vo, vc, rfl, hvc⟩ := hs1.head; have HOX := hide (ownsRow_kept (unhide HO) (((hk1.alloc (.cells #[.int .i64 op, .int .i64 n, str s, .slice vo kids.len vc] 57)).alloc (.cells #[.int .i64 op, .int .i64 n, str s, .slice vo kids.len vc] 57))) (fun _ _ => id)); have HNB := hide (heap_alloc_new (w1.alloc (.cells #[.int .i64 op, .int .i64 n, str s, .slice vo kids.len vc] 57)) (.cells #[.int .i64 op, .int .i64 n, str s, .slice vo kids.len vc] 57)); rw [show (w1.alloc (.cells #[.int .i64 op, .int .i64 n, str s, .slice vo kids.len vc] 57)).heap.size = w1.heap.size + 1 by simp] at HNB; have HS1 := hide hs1; have HK1 := hide hk1; have hsz1 := hk1.size; clear hs1 hk1)
          | (at_builtin; refine wpList_append_lies _ rfl _ _ _ rfl w.heap.size 57 i0 _ 4 56 Tryz.underlying51 hi hz0 hz1 hz2 rfl (by omega) (.slice oo k oc) k xs rfl (unhide HOX) ⟨w1.heap.size + 1, 0, none⟩ 1 1 [.int .i64 op, .int .i64 n, str s, .slice vo kids.len vc] rfl rfl (World.news_of_block (cs := #[.int .i64 op, .int .i64 n, str s, .slice vo kids.len vc]) (t := 57) (fr := (0, 0)) (unhide HNB)) (by simp [Value.oneCell']) (by omega) (by unfold maxLen; omega) (by omega) (by have := unhide HB0; simp; omega) (w1.heap.size + 2) (by simp) ?_; intro g' cap6 w6 hown6 hgrow hat hlt6; have HO6 := hide hown6; have HGR := hide hgrow; have HAT := hide hat; clear hown6 hgrow hat))
        go_roundw
        case rel =>
          have hgr := unhide HGR
          have hk3 : Keeps (fun q => (Value.slice oo k oc).ownBlock = some q) w1 w6 := (((Keeps.refl _ w1).alloc _).alloc _).grown hgr (fun q e _ => e)
          have hk2 : Keeps (fun q => (Value.slice oo k oc).ownBlock = some q) wr w6 := (unhide HK1).any.trans hk3
          have hkw : Keeps (fun _ => False) w w6 := (unhide HK).narrow hk2 (fun q e => ((unhide HO).lt q e).1)
          have hol : ∀ q, (Value.slice oo k oc).ownBlock = some q → q < wr.heap.size := fun q e => ((unhide HO).lt q e).2
          have c1 := CsIn.mono (B := fun q => A q ∨ (wr.heap.size ≤ q ∧ q < w1.heap.size)) (fun _ _ h => Or.inl h) ((unhide HCS).keep hk2 (fun q _ h e => ((unhide HAQ) q h).2.2 e))
          have c2 : SlE (inZ (fun q => A q ∨ (wr.heap.size ≤ q ∧ q < w1.heap.size))) w6 0 (.slice vo kids.len vc) kids :=
            (((unhide HS1).inMono (up' := 0) (B := fun q => wr.heap.size ≤ q ∧ q < w1.heap.size) (fun q hq h => ⟨h, hq⟩)).inKeep hk3 (fun q _ h e => by have := hol q e; omega)).inMono (fun _ _ h => Or.inr h)
          have hs6 : w1.heap.size + 2 ≤ w6.heap.size := by have := hgr.size; simp at this; omega
          refine ⟨pre.app (.cons op n s kids .nil), rest, k + 1, _, _, by go_num, ?_, ?_, unhide HO6, c1.snoc c2, fun q hq => ?_, hkw, ?_⟩
          · rw [app_one]; exact unhide HAPP
          · rw [EL.len_app, unhide HKP]; rfl
          · have hb0 := unhide HB0
            rcases hq with hq | hq
            · obtain ⟨a1, a2, a3⟩ := (unhide HAQ) q hq
              refine ⟨a1, by omega, fun e => ?_⟩
              have e' : g' = q := by simpa [Value.ownBlock] using e
              rcases unhide HAT with h | h
              · exact a3 (by rw [h, e'])
              · omega
            · refine ⟨by omega, by omega, fun e => ?_⟩
              have e' : g' = q := by simpa [Value.ownBlock] using e
              rcases unhide HAT with h | h
              · have := hol _ h; omega
              · omega
          · rw [show off + (k + 1) * 4 = off + k * 4 + 4 by omega]
            exact unhide HR
        case measure => simp [intOf]; omega
end Go.Proofs.YtoempeobaknkcaaGreatDoor
namespace Go.Proofs.YtoempeobaknkcaaGreatDoor
open Go.RowKit Go.Maps

/-- A program's statements by their numbers. -/
def flatS : SL → SL
  | .nil => .nil
  | .cons op f x t e r => .cons op f x t e ((flatS t).app ((flatS e).app (flatS r)))
theorem flatS_len : ∀ l : SL, (flatS l).len = countS l
  | .nil => rfl
  | .cons op f x t e r => by simp only [flatS, SL.len, SL.len_app, countS, flatS_len t, flatS_len e, flatS_len r]; omega
theorem flatS_app : ∀ l m : SL, flatS (l.app m) = (flatS l).app (flatS m)
  | .nil, _ => rfl
  | .cons op f x t e r, m => by simp only [SL.app, flatS, flatS_app r m, SL.app_assoc]
theorem ExIn.arg {Z : Zone} {w : World} {A : Nat} (hA : w.heap.size ≤ A) : ∀ {l : EL} {b o : Nat}, ExIn Z w l b o → ExIn (argZ A) w l b o
  | .nil, _, _, _ => trivial
  | .cons op n s kids rest, b, o, ⟨h1, h2, h3, h4, h5, ⟨ao, cap, h6, h7, h8⟩, h9⟩ =>
    ⟨h1, Nat.lt_of_lt_of_le h1 hA, h3, h4, h5, ⟨ao, cap, h6, h7, fun h0 => by
      obtain ⟨b', o', e, _, hr⟩ := h8 h0
      exact ⟨b', o', e, trivial, hr.arg hA⟩⟩, h9.arg hA⟩
theorem SlE.arg {Z : Zone} {w : World} {A up : Nat} (hA : w.heap.size ≤ A) (up' : Nat) {v : Value} {l : EL} (h : SlE Z w up v l) : SlE (argZ A) w up' v l := by
  obtain ⟨ao, cap, e, hc, hr⟩ := h
  refine ⟨ao, cap, e, hc, fun h0 => ?_⟩
  obtain ⟨b, o, e1, _, hx⟩ := hr h0
  exact ⟨b, o, e1, trivial, hx.arg hA⟩
theorem StIn.arg {Z : Zone} {w : World} {A : Nat} (hA : w.heap.size ≤ A) : ∀ {l : SL} {b o : Nat}, StIn Z w l b o → StIn (argZ A) w l b o
  | .nil, _, _, _ => trivial
  | .cons op f ex th el rest, b, o, ⟨h1, h2, h3, h4, ⟨v, h5, h5'⟩, ⟨ao, cap, h6, h7, h8⟩, ⟨ao2, cap2, k6, k7, k8⟩, h9⟩ =>
    ⟨h1, Nat.lt_of_lt_of_le h1 hA, h3, h4, ⟨v, h5, h5'.arg hA b⟩, ⟨ao, cap, h6, h7, fun h0 => by
      obtain ⟨b', o', e, _, hr⟩ := h8 h0
      exact ⟨b', o', e, trivial, hr.arg hA⟩⟩, ⟨ao2, cap2, k6, k7, fun h0 => by
      obtain ⟨b', o', e, _, hr⟩ := k8 h0
      exact ⟨b', o', e, trivial, hr.arg hA⟩⟩, h9.arg hA⟩
theorem SlS.arg {Z : Zone} {w : World} {A up : Nat} (hA : w.heap.size ≤ A) (up' : Nat) {v : Value} {l : SL} (h : SlS Z w up v l) : SlS (argZ A) w up' v l := by
  obtain ⟨ao, cap, e, hc, hr⟩ := h
  refine ⟨ao, cap, e, hc, fun h0 => ?_⟩
  obtain ⟨b, o, e1, _, hx⟩ := hr h0
  exact ⟨b, o, e1, trivial, hx.arg hA⟩
/-- These cells hold these statements. -/
def SsIn (Z : Zone) (w : World) : SL → List Value → Prop
  | .nil, xs => xs = []
  | .cons op f x t e r, xs => ∃ xv tv ev xs', xs = .int .i64 op :: str f :: xv :: tv :: ev :: xs' ∧ SlE Z w 0 xv x ∧ SlS Z w 0 tv t ∧ SlS Z w 0 ev e ∧ SsIn Z w r xs'
theorem SsIn.len {Z : Zone} {w : World} : ∀ {l : SL} {xs : List Value}, SsIn Z w l xs → xs.length = l.len * 5
  | .nil, _, h => by have h' : _ = _ := h; subst h'; rfl
  | .cons _ _ _ _ _ _, _, ⟨xv, tv, ev, xs', e, _, _, _, h⟩ => by rw [e]; simp [SL.len, h.len]; omega
theorem SsIn.one {Z : Zone} {w : World} : ∀ {l : SL} {xs : List Value}, SsIn Z w l xs → ∀ u ∈ xs, u.oneCell' = true
  | .nil, _, h => by have h' : _ = _ := h; subst h'; simp
  | .cons _ _ _ _ _ _, _, ⟨xv, tv, ev, xs', e, h1, h2, h3, h⟩ => by
    obtain ⟨_, _, rfl, _⟩ := h1.head
    obtain ⟨_, _, rfl, _⟩ := h2.head
    obtain ⟨_, _, rfl, _⟩ := h3.head
    subst e
    intro u hu
    simp only [List.mem_cons] at hu
    rcases hu with rfl | rfl | rfl | rfl | rfl | hu
    all_goals first | rfl | exact h.one u hu
theorem SsIn.argKeep {B : Nat} {F : Nat → Prop} {w w' : World} (hk : Keeps F w w') (hF : ∀ k, F k → B ≤ k) : ∀ {l : SL} {xs : List Value}, SsIn (argZ B) w l xs → SsIn (argZ B) w' l xs
  | .nil, _, h => h
  | .cons _ _ _ _ _ _, _, ⟨xv, tv, ev, xs', e, h1, h2, h3, h⟩ => ⟨xv, tv, ev, xs', e, h1.argKeep hk hF, h2.argKeep hk hF, h3.argKeep hk hF, h.argKeep hk hF⟩
theorem SsIn.app {Z : Zone} {w : World} : ∀ {l m : SL} {xs ys : List Value}, SsIn Z w l xs → SsIn Z w m ys → SsIn Z w (l.app m) (xs ++ ys)
  | .nil, _, _, _, h, h2 => by have h' : _ = _ := h; subst h'; exact h2
  | .cons _ _ _ _ _ _, _, _, ys, ⟨xv, tv, ev, xs', e, h1, h2, h3, h⟩, hm => ⟨xv, tv, ev, xs' ++ ys, by rw [e]; rfl, h1, h2, h3, h.app hm⟩
theorem SlE.anyUp {w : World} {up : Nat} {B : Nat} (up' : Nat) {v : Value} {l : EL} (h : SlE (argZ B) w up v l) : SlE (argZ B) w up' v l := by
  obtain ⟨ao, cap, e, hc, hr⟩ := h
  refine ⟨ao, cap, e, hc, fun h0 => ?_⟩
  obtain ⟨b, o, e1, _, hx⟩ := hr h0
  exact ⟨b, o, e1, trivial, hx⟩
theorem SlS.anyUp {w : World} {up : Nat} {B : Nat} (up' : Nat) {v : Value} {l : SL} (h : SlS (argZ B) w up v l) : SlS (argZ B) w up' v l := by
  obtain ⟨ao, cap, e, hc, hr⟩ := h
  refine ⟨ao, cap, e, hc, fun h0 => ?_⟩
  obtain ⟨b, o, e1, _, hx⟩ := hr h0
  exact ⟨b, o, e1, trivial, hx⟩
/-- The cells as statements in a block. -/
theorem SsIn.stIn {B : Nat} {w : World} {A b : Nat} (hb : b < w.heap.size) (hA : w.heap.size ≤ A) : ∀ {l : SL} {xs : List Value} {o : Nat}, SsIn (argZ B) w l xs → (∀ j x, xs[j]? = some x → w.cell? ⟨b, o + j, none⟩ = some x) → StIn (argZ A) w l b o
  | .nil, _, _, _, _ => trivial
  | .cons op f x t e r, _, o, ⟨xv, tv, ev, xs', ee, h1, h2, h3, h4⟩, hc => by
    subst ee
    obtain ⟨ao, cap, et, hcap, hr⟩ := h2.arg hA b
    obtain ⟨ao2, cap2, ee2, hcap2, hr2⟩ := h3.arg hA b
    refine ⟨hb, Nat.lt_of_lt_of_le hb hA, hc 0 _ rfl, hc 1 _ rfl, ⟨xv, hc 2 _ rfl, h1.arg hA b⟩, ⟨ao, cap, by rw [← et]; exact hc 3 _ rfl, hcap, hr⟩, ⟨ao2, cap2, by rw [← ee2]; exact hc 4 _ rfl, hcap2, hr2⟩, SsIn.stIn hb hA h4 (fun j x hx => ?_)⟩
    rw [show o + 5 + j = o + (j + 5) by omega]
    exact hc (j + 5) x (by simpa using hx)
theorem Tryz.info53 : (Tryz.prog.info? 53).map (fun i => (i.zero, i.size, i.bytes)) = some (some (.agg #[.int .i64 0, .string ⟨#[]⟩, .slice none 0 0, .slice none 0 0, .slice none 0 0]), 5, 96) := by kernel_rfl
set_option maxRecDepth 100000 in
theorem run_appendS_no (w : World) (ty : TypeId) (ao : Option Addr) (n c xc : Nat) (hnc : n ≤ c) : (Builtin.append_ #[25, 25] ty #[.slice ao n c, .slice none 0 xc]).run Tryz.prog w = .ok (.slice ao n c) w := by
  obtain ⟨i0, hi, hz0, hz1, hz2⟩ := info_parts Tryz.info53
  cases ao <;> simp [Builtin.append_, Builtin.lenOf, Builtin.firstCells, storeCells, go_sem, sizeOf, typeInfo, hi, hnc]
theorem grownBy_same (w : World) (row : Option Nat) : w.grownBy w row := ⟨rfl, rfl, rfl, Nat.le_refl _, fun _ _ _ => rfl⟩
/-- A row appended to a row of one's own, however long, nil too. -/
theorem run_append_row {P : Program} (w : World) (base : Nat) (t ty e : TypeId) (i : TypeInfo) (z : Value) (size bytes : Nat) (ht : P.underlying t = some (.slice e)) (hi : P.info? e = some i) (hz : i.zero = some z)
    (hsize : i.size = size) (hby : i.bytes = bytes) (hzs : z.cells.size = size) (hsz : 0 < size)
    (v : Value) (n : Nat) (xs : List Value) (hown : w.ownsRow base e size v n xs) (u : Value) (m : Nat) (ys : List Value) (hu : RowAt w u m ys) (hl : ys.length = m * size) (h1 : ∀ u ∈ ys, u.oneCell' = true)
    (h63 : n + m ≤ maxLen) (hbytes : (n + m) * bytes ≤ 140737488355328) (hbase : base ≤ w.heap.size)
    (hno : ∀ (ao : Option Addr) (n c xc : Nat), n ≤ c → (Builtin.append_ #[t, t] ty #[.slice ao n c, .slice none 0 xc]).run P w = .ok (.slice ao n c) w) :
    ∃ v' w', (Builtin.append_ #[t, t] ty #[v, u]).run P w = .ok v' w' ∧ w'.ownsRow base e size v' (n + m) (xs ++ ys) ∧ w.grownBy w' v.ownBlock ∧ (v'.ownBlock = v.ownBlock ∨ v'.ownBlock = some w.heap.size) := by
  obtain ⟨uo, uc, rfl⟩ := RowAt.form hu
  cases uo with
  | none =>
    have h0 : m = 0 := by
      rcases Nat.eq_zero_or_pos m with h | h
      · exact h
      · obtain ⟨b, off, cap, e, _⟩ := RowAt.cells hu h
        simp at e
    subst h0
    obtain rfl : ys = [] := List.eq_nil_of_length_eq_zero (by rw [hl]; simp)
    obtain ⟨ao, c, rfl⟩ := (rowAt_own hown).form
    have hnc := (rowAt_own hown).room _ _ _ rfl
    exact ⟨_, w, hno ao n c uc hnc, by simpa using hown, grownBy_same _ _, Or.inl rfl⟩
  | some ad =>
    obtain ⟨v', w', hr, h2, h3, _, h5⟩ := run_append_own_at (P := P) w base t ty e i z size bytes ht hi hz hsize hby hzs hsz v n xs hown ad m uc ys hl (fun j x hx => by
      have h0 : 0 < m := by
        have h := (List.getElem?_eq_some_iff.1 hx).1
        rw [hl] at h
        rcases Nat.eq_zero_or_pos m with h' | h'
        · rw [h', Nat.zero_mul] at h; omega
        · exact h'
      obtain ⟨b, off, cap, e, _, hc⟩ := RowAt.cells hu h0
      simp at e
      obtain ⟨rfl, rfl⟩ := e
      have := hc j x hx
      rw [show (⟨b, off, none⟩ : Addr).add j = ⟨b, off + j, none⟩ by simp only [Addr.add_lit]]
      exact this) h1 h63 hbytes hbase
    exact ⟨v', w', hr, h2, h3, h5⟩
theorem wpList_append_row {P : Program} {w : World} {ops : Array Oper} {rest : List Oper} {o : Oper} {a : Act} {Q : Exit → Act → World → Prop} (hgd : o.guard = none) (s x : Operand) (t : TypeId)
    (ho : o.op = .call { callee := .builtin .append, args := #[s, x], argTypes := #[t, t] }) (base : Nat) (e : TypeId) (i : TypeInfo) (z : Value) (size bytes : Nat) (ht : P.underlying t = some (.slice e)) (hi : P.info? e = some i) (hz : i.zero = some z)
    (hsize : i.size = size) (hby : i.bytes = bytes) (hzs : z.cells.size = size) (hsz : 0 < size)
    (v : Value) (n : Nat) (xs : List Value) (hs : a.eval s = v) (hown : w.ownsRow base e size v n xs) (u : Value) (m : Nat) (ys : List Value) (hx : a.eval x = u) (hu : RowAt w u m ys) (hl : ys.length = m * size) (h1 : ∀ u ∈ ys, u.oneCell' = true)
    (h63 : n + m ≤ maxLen) (hbytes : (n + m) * bytes ≤ 140737488355328) (hbase : base ≤ w.heap.size)
    (hno : ∀ (ty : TypeId) (ao : Option Addr) (n c xc : Nat), n ≤ c → (Builtin.append_ #[t, t] ty #[.slice ao n c, .slice none 0 xc]).run P w = .ok (.slice ao n c) w)
    (h : ∀ v' w', w'.ownsRow base e size v' (n + m) (xs ++ ys) → w.grownBy w' v.ownBlock → (v'.ownBlock = v.ownBlock ∨ v'.ownBlock = some w.heap.size) → wpList P ops Q rest (a.put o.dst v') w') : wpList P ops Q (o :: rest) a w :=
  wpList_plain hgd fun _ hK => by
    obtain ⟨v', w', hr, h2, h3, h4⟩ := run_append_row w base t o.type e i z size bytes ht hi hz hsize hby hzs hsz v n xs hown u m ys hu hl h1 h63 hbytes hbase (hno o.type)
    unfold Oper.wp execOp
    simp only [ho, resolve, invoke, builtin, Sem.run_bind, Sem.run_pure, Result.andThen_ok, List.map_toArray, List.map_cons, List.map_nil, hs, hx, hr]
    exact hK _ _ (h v' w' h2 h3 h4)
end Go.Proofs.YtoempeobaknkcaaGreatDoor
