import Derived.Test.YtiinohibmcefkaaGreatDoorS1
import Derived.Test.YtiinohibmcefkaaGreatDoorIg
import Derived.Deep.AppendLies
import Derived.Deep.DeepCutAuto
namespace Go.Proofs.YtiinohibmcefkaaGreatDoor
open Go.RowKit Go.Maps

section
variable {Q : Exit → Act → World → Prop} {K : Act → World → Prop} {o : Oper} {a : Act} {w : World}
set_option maxRecDepth 100000 in
theorem step_c50 {t : Nat} {v : Value} {l : EL} (ho : o.op = .call { callee := .value (.func 50), args := #[.tmp t], argTypes := #[25] }) (ht : a.tmps.getD t undef = v) (hc : Calls Tryz.prog 50 #[v] w fun e w' => ∃ v', e = .returned v' ∧ WdSl (fun q => w.heap.size ≤ q) w' v' l ∧ Keeps (fun _ => False) w w')
    (hk : ∀ v' w', WdSl (fun q => w.heap.size ≤ q) w' v' l → Keeps (fun _ => False) w w' → K (a.put o.dst v') w') : Oper.wp Tryz.prog o a w K Q := by
  have he := slot_of ht
  unfold Oper.wp
  simp [execOp, ho, he, go_sem]
  refine hc.mono ?_
  rintro e w' ⟨v', rfl, h1, h2⟩
  exact hk _ _ h1 h2
set_option maxRecDepth 100000 in
theorem step_build27 {t0 t1 t2 t3 : Nat} {op n : Int} {s : Txt} {v3 : Value} {A : Nat → Prop} {l : EL} (ho : o.op = .build 27 #[(0, .tmp t0), (1, .tmp t1), (2, .tmp t2), (3, .tmp t3)]) (h0 : a.tmps.getD t0 undef = .int .i64 op) (h1 : a.tmps.getD t1 undef = .int .i64 n) (h2 : a.tmps.getD t2 undef = str s) (h3 : a.tmps.getD t3 undef = v3) (hw : WdSl A w v3 l)
    (hk : K (a.put o.dst (.agg #[.int .i64 op, .int .i64 n, str s, v3])) w) : Oper.wp Tryz.prog o a w K Q := by
  obtain ⟨g, cap, rfl, _⟩ := hw
  have e0 := slot_of h0
  have e1 := slot_of h1
  have e2 := slot_of h2
  have e3 := slot_of h3
  unfold Oper.wp
  simp [execOp, ho, e0, e1, e2, e3, go_sem]
  exact hk
set_option maxRecDepth 100000 in
theorem step_one27 {t : Nat} {v x0 x1 x2 : Value} {B : Nat} {l : EL} (ho : o.op = .buildSlice 25 1 #[(0, .tmp t)]) (ht : a.tmps.getD t undef = v) (hv : ∃ kv, v = .agg #[x0, x1, x2, kv] ∧ WdSl (fun q => B ≤ q) w kv l) (hB : B ≤ w.heap.size)
    (hk : ∀ v' w', (∃ kv g, v' = .slice (some ⟨g, 0, none⟩) 1 1 ∧ B ≤ g ∧ w'.heap[g]? = some (.cells #[x0, x1, x2, kv] 27 (0, 0)) ∧ WdSl (fun q => B ≤ q ∧ q < g) w' kv l) → Keeps (fun _ => False) w w' → K (a.put o.dst v') w') : Oper.wp Tryz.prog o a w K Q := by
  obtain ⟨kv, rfl, hw⟩ := hv
  have he := slot_of ht
  unfold Oper.wp
  simp [execOp, ho, he, go_sem]
  exact hk _ _ ⟨kv, w.heap.size, rfl, hB, heap_alloc_new w _, (hw.mono (fun q hq z => ⟨z, hq⟩)).keepF (kAlloc w _)⟩ (kAlloc w _)
end
/-- What WideExprs leaves. -/
def WPost (l : EL) (w : World) (e : Ending) (w' : World) : Prop := ∃ v', e = .returned v' ∧ WdSl (fun q => w.heap.size ≤ q) w' v' l ∧ Keeps (fun _ => False) w w'
set_option maxRecDepth 100000 in
set_option maxHeartbeats 8000000 in
theorem wideExprs_v (Z : Zone) (N : Nat) : ∀ (l : EL), l.size < N → l.size ≤ 4294967294 → ∀ (w : World) (up : Nat) (v : Value), SlE Z w up v l → Calls Tryz.prog 50 #[v] w (WPost l w) := by
  induction N with
  | zero => intro l h; omega
  | succ N ih =>
    intro l hsz hlen' w up v hS
    have hlen : l.len ≤ 4294967294 := by have := EL.len_le l; omega
    obtain ⟨ao, cap, b, off, rfl, hcap, ha, hx⟩ := hS.open
    obtain ⟨i0, hi, hz0, hz1, hz2⟩ := info_parts Tryz.info27
    have IH := hide ih
    have HX := hide hx
    have HA := hide ha
    clear hS ih hx ha
    go_enter Tryz.func50, Tryz.ntmps50
    go_wp2_with fail
    go_loopw [3, 4] (fun o i wr => ∃ (pre rest : EL) (k : Nat) (xs : List Value) (A : Nat → Prop), i = .int .i64 k ∧ l = pre.app rest ∧ k = pre.len ∧ wr.ownsRow w.heap.size 27 4 o k xs ∧ WsIn A wr pre xs ∧ (∀ q, A q → w.heap.size ≤ q ∧ q < wr.heap.size ∧ o.ownBlock ≠ some q) ∧ Keeps (fun _ => False) w wr ∧ ExIn Z w rest b (off + k * 4)) (fun _ i _ => l.len - (intOf i).toNat)
    case atStart => exact ⟨.nil, l, 0, [], fun _ => False, rfl, rfl, rfl, World.ownsRow_nil w w.heap.size 27 4, rfl, fun q h => h.elim, Keeps.refl _ _, by simpa using unhide HX⟩
    case round =>
      obtain ⟨pre, rest, k, xs, A, rfl, happ, hkp, hown, hcs, hAq, hkeep, hr⟩ := hrel
      obtain ⟨oo, oc, rfl⟩ := (rowAt_own hown).form
      have hll := congrArg EL.len happ
      have hls := congrArg EL.size happ
      rw [EL.len_app] at hll
      rw [EL.size_app] at hls
      have HO := hide hown
      have HCS := hide hcs
      have HAQ := hide hAq
      have HK := hide hkeep
      have HAPP := hide happ
      cases rest with
      | nil =>
        rw [EL.app_nil] at happ
        subst happ
        simp only [EL.len, EL.size, Nat.add_zero] at hll hls
        have i1 : ¬ (k : Int) < (l.len : Int) := by omega
        subst hkp
        clear hown hcs hAq hkeep hr hll hls HAPP
        have HLN := hide (unhide HCS).length
        go_wp2_with fail
        rename World => wo
        go_loopw [3, 5] (fun o i w2 => ∃ j : Nat, j ≤ 16 ∧ i = .int .i64 (j : Int) ∧ Hid (w2.ownsRow w.heap.size 27 4 o (l.len + j) (xs ++ marksW markE j)) ∧ Hid (WsIn A w2 l xs) ∧ Hid (∀ q, A q → w.heap.size ≤ q ∧ q < w2.heap.size ∧ o.ownBlock ≠ some q) ∧ Hid (Keeps (fun _ => False) w w2)) (fun _ i _ => 16 - (intOf i).toNat)
        case atStart => exact ⟨0, by omega, rfl, by simpa [Hid, marksW] using unhide HO, HCS, HAQ, HK⟩
        case round =>
          obtain ⟨j, hj, rfl, HO, HCS, HAQ, HK⟩ := hrel
          obtain ⟨oo, oc, rfl⟩ := (rowAt_own (unhide HO)).form
          by_cases hlt : j < 16
          · have i2 : (j : Int) < 16 := by omega
            have i0' : (0 : Int) ≤ (j : Int) := by omega
            go_wp2_with (at_builtin; refine wpList_append_lies _ rfl _ _ _ rfl w.heap.size 27 i0 _ 4 56 Tryz.underlying25 hi hz0 hz1 hz2 rfl (by omega) (.slice oo (l.len + j) oc) (l.len + j) (xs ++ marksW markE j) rfl ((unhide HO).alloc _) ⟨wr.heap.size, 0, none⟩ 1 1 (markE j) rfl rfl (World.news_of_block (cs := #[.int .i64 (-77 - (j : Int)), .int .i64 0, .string ⟨#[115, 112, 97, 114, 101]⟩, .slice none 0 0]) (t := 27) (fr := (0, 0)) (heap_alloc_new wr _)) (by simp [Value.oneCell', markE]) (by omega) (by unfold maxLen; omega) (by omega) (by have := (unhide HK).size; simp; omega) (wr.heap.size + 1) (by simp) ?_; intro g6 c6 w6 hown6 hgr6 hat6 hlt6; have HO6 := hide hown6; have HG6 := hide hgr6; have HA6 := hide hat6; clear hown6 hgr6 hat6)
            go_roundw
            case rel =>
              have hk3 : Keeps (fun q => (Value.slice oo (l.len + j) oc).ownBlock = some q) wr w6 := ((Keeps.refl _ wr).alloc _).grown (unhide HG6) (fun q e _ => e)
              have hol : ∀ q, (Value.slice oo (l.len + j) oc).ownBlock = some q → w.heap.size ≤ q ∧ q < wr.heap.size := fun q e => ((unhide HO).lt q e)
              have hs6 : wr.heap.size + 1 ≤ w6.heap.size := by have := (unhide HG6).size; simp at this; omega
              refine ⟨j + 1, by omega, by go_num, ?_, hide ((unhide HCS).keep hk3 (fun q _ h e => ((unhide HAQ) q h).2.2 e)), hide (fun q hq => ?_), hide ((unhide HK).narrow hk3 (fun q e => (hol q e).1))⟩
              · have := unhide HO6
                rw [marks_snoc, ← List.append_assoc, ← Nat.add_assoc]
                exact this
              · obtain ⟨a1, a2, a3⟩ := (unhide HAQ) q hq
                refine ⟨a1, by omega, fun e => ?_⟩
                have e' : g6 = q := by simpa [Value.ownBlock] using e
                rcases unhide HA6 with h | h
                · exact a3 (by rw [h, e'])
                · omega
            case measure => simp [intOf]; omega
          · obtain rfl : j = 16 := by omega
            obtain ⟨g, cp, cur, e, hgl, hgb, hc⟩ : ∃ g cp cur, (Value.slice oo (l.len + 16) oc) = .slice (some ⟨g, 0, none⟩) (l.len + 16) cp ∧ w.heap.size ≤ g ∧ wr.heap[g]? = some (.cells cur 27 (0, 0)) ∧ l.len + 16 ≤ cp := by
              rcases (unhide HO).2 with ⟨_, h0⟩ | ⟨g, cp, cur, a1, a2, a3, a4, _⟩
              · omega
              · exact ⟨g, cp, cur, a1, a2, a3, a4⟩
            simp only [Value.slice.injEq] at e
            obtain ⟨rfl, _, rfl⟩ := e
            have HWD : Hid (WdSl (fun q => w.heap.size ≤ q) wr (.slice (some ⟨g, 0, none⟩) l.len oc) l) := by
              obtain ⟨b2, off2, cap2, e2, hb2, hcc⟩ := (rowAt_own (unhide HO)).cells (by omega)
              simp at e2
              obtain ⟨⟨rfl, rfl⟩, _⟩ := e2
              have hxs : xs.length = l.len * 4 := unhide HLN
              refine ⟨g, oc, rfl, hc, hb2, hgl, fun j x hx => ?_, WsIn.wdIn hb2 hgl (fun q _ h => ((unhide HAQ) q h).1) (unhide HCS) (fun j x hx => ?_)⟩
              · have := hcc (l.len * 4 + j) x (by rw [List.getElem?_append_right (by omega), hxs]; simpa using hx)
                simpa using this
              · have := hcc j x (by rw [List.getElem?_append_left (by have := (List.getElem?_eq_some_iff.1 hx).1; omega)]; exact hx)
                simpa using this
            have i2 : ¬ ((16 : Nat) : Int) < 16 := by omega
            have c1 : (l.len : Int) ≤ (oc : Int) := by omega
            have c2 : l.len ≤ oc := by omega
            go_wp2_with fail
            all_goals (go_ret; exact ⟨_, rfl, unhide HWD, unhide HK⟩)
      | cons op n s kids rest =>
        obtain ⟨h1, h2, h3, h4, h5, ⟨kao, kcap, h6, h7, h8⟩, h9⟩ := hr
        simp only [EL.len, EL.size] at hll hls
        have hkl : k + (rest.len + 1) = l.len := by omega
        have HKP := hide hkp
        obtain ⟨rfl, hp⟩ := (unhide HA) (by omega)
        have HKID : Hid (SlE Z w b (.slice kao kids.len kcap) kids) := ⟨kao, kcap, rfl, h7, h8⟩
        have HR := hide h9
        have i1 : (k : Int) < (l.len : Int) := by omega
        have HLT : Hid (k < l.len) := hide (by omega)
        have HC := hide (fun (W' : World) (hk : Keeps (fun _ => False) wr W') => (⟨(((hkeep.trans hk).cell h1 id).trans h3), (((hkeep.trans hk).cell h1 id).trans h4), (((hkeep.trans hk).cell h1 id).trans h5), (((hkeep.trans hk).cell h1 id).trans h6)⟩ : W'.cell? ⟨b, off + k * 4, none⟩ = some (.int .i64 op) ∧ W'.cell? ⟨b, off + k * 4 + 1, none⟩ = some (.int .i64 n) ∧ W'.cell? ⟨b, off + k * 4 + 2, none⟩ = some (str s) ∧ W'.cell? ⟨b, off + k * 4 + 3, none⟩ = some (.slice kao kids.len kcap)))
        have HIH := hide (fun (W' : World) (hk : Keeps (fun _ => False) wr W') => unhide IH kids (by omega) (by omega) W' b _ ((unhide HKID).keepF ((unhide HK).trans hk)))
        have HB0 : Hid (w.heap.size ≤ wr.heap.size) := hkeep.size
        have HKX := hide (Keeps.refl (fun _ => False) wr)
        have hkb : k + 1 ≤ 4294967294 := by omega
        clear hown hcs hAq hkeep h1 h2 h3 h4 h5 h6 h8 h9 happ hll hls hkp hp
        go_upto_region 5 with fail
        rename_i Q0 K0 hc0
        refine wp_region_two (X := wr) (by kernel_rfl) 24 rfl _ _ rfl rfl rfl rfl (by decide) (by decide) (by kernel_rfl) (by kernel_rfl) [12, 13, 14, 15, 16, 17, 18, 19, 20, 21, 22, 23, 24, 25, 26, 27, 28, 29, 30, 31, 32, 33, 34, 35] (by decide) rfl (by first | rfl | kernel_rfl | simp [opsB]) (unhide HKX) (fun i v W1 => match i with | 0 => v = .slice oo k oc | 1 => v = .slice (some ⟨b, off, none⟩) l.len cap | 2 => v = .int .i64 (k : Int) | 3 => v = .pointer (some ⟨b, off + k * 4, none⟩) | 4 => v = .pointer (some ⟨b, off + k * 4, none⟩) | 5 => v = .int .i64 op | 6 => v = .slice (some ⟨b, off, none⟩) l.len cap | 7 => v = .int .i64 (k : Int) | 8 => v = .pointer (some ⟨b, off + k * 4, none⟩) | 9 => v = .pointer (some ⟨b, off + k * 4 + 1, none⟩) | 10 => v = .int .i64 n | 11 => v = .slice (some ⟨b, off, none⟩) l.len cap | 12 => v = .int .i64 (k : Int) | 13 => v = .pointer (some ⟨b, off + k * 4, none⟩) | 14 => v = .pointer (some ⟨b, off + k * 4 + 2, none⟩) | 15 => v = str s | 16 => v = .slice (some ⟨b, off, none⟩) l.len cap | 17 => v = .int .i64 (k : Int) | 18 => v = .pointer (some ⟨b, off + k * 4, none⟩) | 19 => v = .pointer (some ⟨b, off + k * 4 + 3, none⟩) | 20 => v = .slice kao kids.len kcap | 21 => WdSl (fun q => wr.heap.size ≤ q) W1 v kids | 22 => ∃ kv, v = .agg #[.int .i64 op, .int .i64 n, str s, kv] ∧ WdSl (fun q => wr.heap.size ≤ q) W1 kv kids | 23 => ∃ kv g, v = .slice (some ⟨g, 0, none⟩) 1 1 ∧ wr.heap.size ≤ g ∧ W1.heap[g]? = some (.cells #[.int .i64 op, .int .i64 n, str s, kv] 27 (0, 0)) ∧ WdSl (fun q => wr.heap.size ≤ q ∧ q < g) W1 kv kids | _ => True) ?_ ?_ ?_
        · intro i v w1 w2 hq hk
          rcases i with _ | _ | _ | _ | _ | _ | _ | _ | _ | _ | _ | _ | _ | _ | _ | _ | _ | _ | _ | _ | _ | _ | _ | _ | i
          all_goals first | exact hq | exact WdSl.keepF hq hk | (obtain ⟨kv, q1, q2⟩ := hq; exact ⟨kv, q1, q2.keepF hk⟩) | (obtain ⟨kv, g, q1, q2, q3, q4⟩ := hq; exact ⟨kv, g, q1, q2, (hk.block _ (lt_of_block q3) id).trans q3, q4.keepF hk⟩)
        · intro i o A W1 him ho hs hk hd K' hK
          rcases i with _ | _ | _ | _ | _ | _ | _ | _ | _ | _ | _ | _ | _ | _ | _ | _ | _ | _ | _ | _ | _ | _ | _ | _ | i
          · obtain rfl := Option.some.inj ho
            exact step_move rfl ((hs.at rfl 3 (by decide)).trans rfl) (hK _ _ rfl (Keeps.refl _ _))
          · obtain rfl := Option.some.inj ho
            exact step_move rfl ((hs.at rfl 0 (by decide)).trans rfl) (hK _ _ rfl (Keeps.refl _ _))
          · obtain rfl := Option.some.inj ho
            exact step_move rfl ((hs.at rfl 4 (by decide)).trans rfl) (hK _ _ rfl (Keeps.refl _ _))
          · obtain rfl := Option.some.inj ho
            exact step_indexE rfl (hd ⟨1, .data⟩ (by simp) rfl) (hd ⟨2, .data⟩ (by simp) rfl) (unhide HLT) (hK _ _ rfl (Keeps.refl _ _))
          · obtain rfl := Option.some.inj ho
            exact step_fieldE0 rfl (hd ⟨3, .data⟩ (by simp) rfl) (hK _ _ rfl (Keeps.refl _ _))
          · obtain rfl := Option.some.inj ho
            exact step_load3 rfl (hd ⟨4, .data⟩ (by simp) rfl) (unhide HC W1 hk).1 (hK _ _ rfl (Keeps.refl _ _))
          · obtain rfl := Option.some.inj ho
            exact step_move rfl ((hs.at rfl 0 (by decide)).trans rfl) (hK _ _ rfl (Keeps.refl _ _))
          · obtain rfl := Option.some.inj ho
            exact step_move rfl ((hs.at rfl 4 (by decide)).trans rfl) (hK _ _ rfl (Keeps.refl _ _))
          · obtain rfl := Option.some.inj ho
            exact step_indexE rfl (hd ⟨6, .data⟩ (by simp) rfl) (hd ⟨7, .data⟩ (by simp) rfl) (unhide HLT) (hK _ _ rfl (Keeps.refl _ _))
          · obtain rfl := Option.some.inj ho
            exact step_fieldE1 rfl (hd ⟨8, .data⟩ (by simp) rfl) (hK _ _ rfl (Keeps.refl _ _))
          · obtain rfl := Option.some.inj ho
            exact step_load2 rfl (hd ⟨9, .data⟩ (by simp) rfl) (unhide HC W1 hk).2.1 (hK _ _ rfl (Keeps.refl _ _))
          · obtain rfl := Option.some.inj ho
            exact step_move rfl ((hs.at rfl 0 (by decide)).trans rfl) (hK _ _ rfl (Keeps.refl _ _))
          · obtain rfl := Option.some.inj ho
            exact step_move rfl ((hs.at rfl 4 (by decide)).trans rfl) (hK _ _ rfl (Keeps.refl _ _))
          · obtain rfl := Option.some.inj ho
            exact step_indexE rfl (hd ⟨11, .data⟩ (by simp) rfl) (hd ⟨12, .data⟩ (by simp) rfl) (unhide HLT) (hK _ _ rfl (Keeps.refl _ _))
          · obtain rfl := Option.some.inj ho
            exact step_fieldE2 rfl (hd ⟨13, .data⟩ (by simp) rfl) (hK _ _ rfl (Keeps.refl _ _))
          · obtain rfl := Option.some.inj ho
            exact step_load9 rfl (hd ⟨14, .data⟩ (by simp) rfl) (unhide HC W1 hk).2.2.1 (hK _ _ rfl (Keeps.refl _ _))
          · obtain rfl := Option.some.inj ho
            exact step_move rfl ((hs.at rfl 0 (by decide)).trans rfl) (hK _ _ rfl (Keeps.refl _ _))
          · obtain rfl := Option.some.inj ho
            exact step_move rfl ((hs.at rfl 4 (by decide)).trans rfl) (hK _ _ rfl (Keeps.refl _ _))
          · obtain rfl := Option.some.inj ho
            exact step_indexE rfl (hd ⟨16, .data⟩ (by simp) rfl) (hd ⟨17, .data⟩ (by simp) rfl) (unhide HLT) (hK _ _ rfl (Keeps.refl _ _))
          · obtain rfl := Option.some.inj ho
            exact step_fieldE3 rfl (hd ⟨18, .data⟩ (by simp) rfl) (hK _ _ rfl (Keeps.refl _ _))
          · obtain rfl := Option.some.inj ho
            exact step_load25 rfl (hd ⟨19, .data⟩ (by simp) rfl) (unhide HC W1 hk).2.2.2 (hK _ _ rfl (Keeps.refl _ _))
          · obtain rfl := Option.some.inj ho
            exact step_c50 rfl (hd ⟨20, .data⟩ (by simp) rfl) (unhide HIH W1 hk) (fun v' w' q1 q2 => hK v' w' (q1.mono (fun q _ (z : W1.heap.size ≤ q) => Nat.le_trans hk.size z)) q2)
          · obtain rfl := Option.some.inj ho
            exact step_build27 rfl (hd ⟨5, .data⟩ (by simp) rfl) (hd ⟨10, .data⟩ (by simp) rfl) (hd ⟨15, .data⟩ (by simp) rfl) rfl (hd ⟨21, .data⟩ (by simp) rfl) (hK _ _ ⟨_, rfl, (hd ⟨21, .data⟩ (by simp) rfl)⟩ (Keeps.refl _ _))
          · obtain rfl := Option.some.inj ho
            exact step_one27 rfl rfl (hd ⟨22, .data⟩ (by simp) rfl) hk.size (fun v' w' q1 q2 => hK v' w' q1 q2)
          · omega
        · intro A2 V hs hk hall K' hK
          obtain ⟨kv, g, e35, hg, hgb, hkv⟩ : ∃ kv g, A2.tmps.getD 35 undef = .slice (some ⟨g, 0, none⟩) 1 1 ∧ wr.heap.size ≤ g ∧ V.heap[g]? = some (.cells #[.int .i64 op, .int .i64 n, str s, kv] 27 (0, 0)) ∧ WdSl (fun q => wr.heap.size ≤ q ∧ q < g) V kv kids := hall 23 (by decide)
          have w12 : A2.tmps.getD 12 undef = .slice oo k oc := hall 0 (by decide)
          have w13 : A2.tmps.getD 13 undef = .slice (some ⟨b, off, none⟩) l.len cap := hall 1 (by decide)
          have w14 : A2.tmps.getD 14 undef = .int .i64 (k : Int) := hall 2 (by decide)
          have w15 : A2.tmps.getD 15 undef = .pointer (some ⟨b, off + k * 4, none⟩) := hall 3 (by decide)
          have w16 : A2.tmps.getD 16 undef = .pointer (some ⟨b, off + k * 4, none⟩) := hall 4 (by decide)
          have w17 : A2.tmps.getD 17 undef = .int .i64 op := hall 5 (by decide)
          have w18 : A2.tmps.getD 18 undef = .slice (some ⟨b, off, none⟩) l.len cap := hall 6 (by decide)
          have w19 : A2.tmps.getD 19 undef = .int .i64 (k : Int) := hall 7 (by decide)
          have w20 : A2.tmps.getD 20 undef = .pointer (some ⟨b, off + k * 4, none⟩) := hall 8 (by decide)
          have w21 : A2.tmps.getD 21 undef = .pointer (some ⟨b, off + k * 4 + 1, none⟩) := hall 9 (by decide)
          have w22 : A2.tmps.getD 22 undef = .int .i64 n := hall 10 (by decide)
          have w23 : A2.tmps.getD 23 undef = .slice (some ⟨b, off, none⟩) l.len cap := hall 11 (by decide)
          have w24 : A2.tmps.getD 24 undef = .int .i64 (k : Int) := hall 12 (by decide)
          have w25 : A2.tmps.getD 25 undef = .pointer (some ⟨b, off + k * 4, none⟩) := hall 13 (by decide)
          have w26 : A2.tmps.getD 26 undef = .pointer (some ⟨b, off + k * 4 + 2, none⟩) := hall 14 (by decide)
          have w27 : A2.tmps.getD 27 undef = str s := hall 15 (by decide)
          have w28 : A2.tmps.getD 28 undef = .slice (some ⟨b, off, none⟩) l.len cap := hall 16 (by decide)
          have w29 : A2.tmps.getD 29 undef = .int .i64 (k : Int) := hall 17 (by decide)
          have w30 : A2.tmps.getD 30 undef = .pointer (some ⟨b, off + k * 4, none⟩) := hall 18 (by decide)
          have w31 : A2.tmps.getD 31 undef = .pointer (some ⟨b, off + k * 4 + 3, none⟩) := hall 19 (by decide)
          have w32 : A2.tmps.getD 32 undef = .slice kao kids.len kcap := hall 20 (by decide)
          have hA := same_fold hs rfl
          simp only [List.foldl_cons, List.foldl_nil, w12, w13, w14, w15, w16, w17, w18, w19, w20, w21, w22, w23, w24, w25, w26, w27, w28, w29, w30, w31, w32, e35] at hA
          simp only [Act.put, List.setIfInBounds_toArray, List.set_cons_zero, List.set_cons_succ] at hA
          have hOV := ownsRow_kept (unhide HO) hk (fun _ _ => id)
          have hsz2 := hs.size
          have v12 : A2.tmps.getD 12 undef = .slice oo k oc := hall 0 (by decide)
          refine wp_append_lies V (.tmp 12) (.tmp 35) 25 rfl w.heap.size 27 i0 _ 4 56 Tryz.underlying25 hi hz0 hz1 hz2 rfl (by omega) (.slice oo k oc) k xs v12 hOV ⟨g, 0, none⟩ 1 1 [.int .i64 op, .int .i64 n, str s, kv] e35 rfl (World.news_of_block (cs := #[.int .i64 op, .int .i64 n, str s, kv]) (t := 27) (fr := (0, 0)) hgb) (by obtain ⟨_, _, rfl, _⟩ := hkv; simp [Value.oneCell']) (by omega) (by unfold maxLen; omega) (by omega) (by have := hk.size; have := unhide HB0; omega) V.heap.size rfl ?_
          intro g6 c6 w6 hown6 hgrow hat6 hlt6
          refine hK (A2.put (some 36) (.slice (some ⟨g6, 0, none⟩) (k + 1) c6)) w6 (fun K2 hK2 => ?_)
          refine step_assign rfl (put_get A2 36 _ (by rw [hsz2]; simp)) (hK2 ((A2.put (some 36) (.slice (some ⟨g6, 0, none⟩) (k + 1) c6)).put (some 3) (.slice (some ⟨g6, 0, none⟩) (k + 1) c6)) w6 (hc0 _ _ ?_))
          have HO6 := hide hown6
          have HGR := hide hgrow
          have HAT := hide hat6
          have HKR := hide hk
          have HKV := hide hkv
          have HGB := hide hgb
          have HG := hide hg
          rw [hA]
          generalize A2.tmps.getD 33 undef = u33 at *
          generalize A2.tmps.getD 34 undef = u34 at *
          clear hs hall hK hK2 hA hown6 hgrow hat6 hk hkv hgb hg hOV e35 v12 hsz2 w12 w13 w14 w15 w16 w17 w18 w19 w20 w21 w22 w23 w24 w25 w26 w27 w28 w29 w30 w31 w32
          simp only [Act.put, List.setIfInBounds_toArray, List.set_cons_zero, List.set_cons_succ]
          go_wp2_with fail
          go_roundw
          case rel =>
            have hgr := unhide HGR
            have hk3 : Keeps (fun q => (Value.slice oo k oc).ownBlock = some q) V w6 := (Keeps.refl _ V).grown hgr (fun q e _ => e)
            have hk2 : Keeps (fun q => (Value.slice oo k oc).ownBlock = some q) wr w6 := (unhide HKR).any.trans hk3
            have hkw : Keeps (fun _ => False) w w6 := (unhide HK).narrow hk2 (fun q e => ((unhide HO).lt q e).1)
            have hol : ∀ q, (Value.slice oo k oc).ownBlock = some q → q < wr.heap.size := fun q e => ((unhide HO).lt q e).2
            have hgV := lt_of_block (unhide HGB)
            have hrV := (unhide HKR).size
            have c1 := WsIn.mono (B := fun q => A q ∨ (wr.heap.size ≤ q ∧ q < g)) (fun _ _ h => Or.inl h) ((unhide HCS).keep hk2 (fun q _ h e => ((unhide HAQ) q h).2.2 e))
            have c2 : WdSl (fun q => A q ∨ (wr.heap.size ≤ q ∧ q < g)) w6 kv kids := ((unhide HKV).keep hk3 (fun q _ h e => by have := hol q e; omega)).mono (fun _ _ h => Or.inr h)
            have hs6 : V.heap.size ≤ w6.heap.size := hgr.size
            refine ⟨pre.app (.cons op n s kids .nil), rest, k + 1, _, _, by go_num, ?_, ?_, unhide HO6, c1.snoc c2, fun q hq => ?_, hkw, ?_⟩
            · rw [app_one]; exact unhide HAPP
            · rw [EL.len_app, unhide HKP]; rfl
            · have hb0 := unhide HB0
              rcases hq with hq | hq
              · obtain ⟨a1, a2, a3⟩ := (unhide HAQ) q hq
                refine ⟨a1, by omega, fun e => ?_⟩
                have e' : g6 = q := by simpa [Value.ownBlock] using e
                rcases unhide HAT with h | h
                · exact a3 (by rw [h, e'])
                · omega
              · refine ⟨by omega, by omega, fun e => ?_⟩
                have e' : g6 = q := by simpa [Value.ownBlock] using e
                rcases unhide HAT with h | h
                · have := hol _ h; omega
                · omega
            · rw [show off + (k + 1) * 4 = off + k * 4 + 4 by omega]
              exact unhide HR
          case measure => simp [intOf]; omega

end Go.Proofs.YtiinohibmcefkaaGreatDoor
