import Derived.Test.YtoempeobaknkcaaGreatDoorVm
namespace Go.Proofs.YtoempeobaknkcaaGreatDoor
open Go.RowKit Go.Maps

/-- What a copy of expressions leaves, told by its row: nothing below it lies in the row's own block. -/
def CPostR (l : EL) (w : World) (e : Ending) (w' : World) : Prop := ∃ v' xs A, e = .returned v' ∧ w'.ownsRow w.heap.size 57 4 v' l.len xs ∧ CsIn A w' l xs ∧ (∀ q, A q → w.heap.size ≤ q ∧ q < w'.heap.size ∧ v'.ownBlock ≠ some q) ∧ Keeps (fun _ => False) w w'

set_option maxRecDepth 100000 in
set_option maxHeartbeats 4000000 in
theorem copyExprsR_v (Z : Zone) (l : EL) (hlen' : l.size ≤ 4294967294) (w : World) (up : Nat) (v : Value) (hS : SlE Z w up v l) : Calls Tryz.prog 39 #[v] w (CPostR l w) := by
  have hlen : l.len ≤ 4294967294 := by have := EL.len_le l; omega
  obtain ⟨ao, cap, b, off, rfl, hcap, ha, hx⟩ := hS.open
  obtain ⟨i0, hi, hz0, hz1, hz2⟩ := info_parts Tryz.info57
  have HX := hide hx
  have HA := hide ha
  clear hS hx ha
  go_enter Tryz.func39, Tryz.ntmps39
  go_wp2_with fail
  go_loopw [3, 4] (fun o i wr => ∃ (pre rest : EL) (k : Nat) (xs : List Value) (A : Nat → Prop), i = .int .i64 k ∧ l = pre.app rest ∧ k = pre.len ∧ wr.ownsRow w.heap.size 57 4 o k xs ∧ CsIn A wr pre xs ∧ (∀ q, A q → w.heap.size ≤ q ∧ q < wr.heap.size ∧ o.ownBlock ≠ some q) ∧ Keeps (fun _ => False) w wr ∧ ExIn Z w rest b (off + k * 4)) (fun _ i _ => l.len - (intOf i).toNat)
  case atStart => exact ⟨.nil, l, 0, [], fun _ => False, rfl, rfl, rfl, World.ownsRow_nil w w.heap.size 57 4, rfl, fun q h => h.elim, Keeps.refl _ _, by simpa using unhide HX⟩
  case round =>
    obtain ⟨pre, rest, k, xs, A, rfl, happ, hkp, hown, hcs, hAq, hkeep, hr⟩ := hrel
    obtain ⟨oo, oc, rfl⟩ := (rowAt_own hown).form
    have hll := congrArg EL.len happ
    have hls := congrArg EL.size happ
    rw [EL.len_app] at hll
    rw [EL.size_app] at hls
    have HO := hide hown
    have HCS := hide hcs
    have HAQ := hide hAq
    have HK := hide hkeep
    have HAPP := hide happ
    cases rest with
    | nil =>
      rw [EL.app_nil] at happ
      subst happ
      simp only [EL.len, EL.size] at hll hls
      have i1 : ¬ (k : Int) < (l.len : Int) := by omega
      subst hkp
      clear hown hcs hAq hkeep hr hll hls HAPP
      go_wp2_with fail
      go_ret
      exact ⟨_, xs, A, rfl, unhide HO, unhide HCS, unhide HAQ, unhide HK⟩
    | cons op n s kids rest =>
      obtain ⟨h1, h2, h3, h4, h5, ⟨kao, kcap, h6, h7, h8⟩, h9⟩ := hr
      simp only [EL.len, EL.size] at hll hls
      have hkl : k + (rest.len + 1) = l.len := by omega
      have hks : pre.size + (kids.size + rest.size + 1) = l.size := by omega
      have HKP := hide hkp
      clear hll hls hkp
      obtain ⟨rfl, hp⟩ := (unhide HA) (by omega)
      have HKID : Hid (SlE Z w b (.slice kao kids.len kcap) kids) := ⟨kao, kcap, rfl, h7, h8⟩
      have HR := hide h9
      have i1 : (k : Int) < (l.len : Int) := by omega
      have ix0 : (0 : Int) ≤ (k : Int) := by omega
      have q0 := (hkeep.cell h1 id).trans h3
      have q1 := (hkeep.cell h1 id).trans h4
      have q2 := (hkeep.cell h1 id).trans h5
      have q3 := (hkeep.cell h1 id).trans h6
      have HC := hide (copyExpr_of op n s kids (.slice kao kids.len kcap) wr ⟨_, _, rfl⟩ (fun w' hk => copyExprs_v Z (kids.size + 1) kids (by omega) (by omega) w' b _ ((unhide HKID).keepF ((unhide HK).trans hk))))
      have HB0 : Hid (w.heap.size ≤ wr.heap.size) := hkeep.size
      clear hown hcs hAq hkeep h2 h3 h4 h5 h6 h8 h9 happ
      go_wp2_with (first
        | (go_at_call 40; refine (unhide HC).mono ?_; rintro e w1 ⟨kv, rfl, hs1, hk1⟩; obtain ⟨vo, vc, rfl, hvc⟩ := hs1.head; have HOX := hide (ownsRow_kept (unhide HO) (((hk1.alloc (.cells #[.int .i64 op, .int .i64 n, str s, .slice vo kids.len vc] 57)).alloc (.cells #[.int .i64 op, .int .i64 n, str s, .slice vo kids.len vc] 57))) (fun _ _ => id)); have HNB := hide (heap_alloc_new (w1.alloc (.cells #[.int .i64 op, .int .i64 n, str s, .slice vo kids.len vc] 57)) (.cells #[.int .i64 op, .int .i64 n, str s, .slice vo kids.len vc] 57)); rw [show (w1.alloc (.cells #[.int .i64 op, .int .i64 n, str s, .slice vo kids.len vc] 57)).heap.size = w1.heap.size + 1 by simp] at HNB; have HS1 := hide hs1; have HK1 := hide hk1; have hsz1 := hk1.size; clear hs1 hk1)
        | (at_builtin; refine wpList_append_lies _ rfl _ _ _ rfl w.heap.size 57 i0 _ 4 56 Tryz.underlying51 hi hz0 hz1 hz2 rfl (by omega) (.slice oo k oc) k xs rfl (unhide HOX) ⟨w1.heap.size + 1, 0, none⟩ 1 1 [.int .i64 op, .int .i64 n, str s, .slice vo kids.len vc] rfl rfl (World.news_of_block (cs := #[.int .i64 op, .int .i64 n, str s, .slice vo kids.len vc]) (t := 57) (fr := (0, 0)) (unhide HNB)) (by simp [Value.oneCell']) (by omega) (by unfold maxLen; omega) (by omega) (by have := unhide HB0; simp; omega) (w1.heap.size + 2) (by simp) ?_; intro g' cap6 w6 hown6 hgrow hat hlt6; have HO6 := hide hown6; have HGR := hide hgrow; have HAT := hide hat; clear hown6 hgrow hat))
      go_roundw
      case rel =>
        have hgr := unhide HGR
        have hk3 : Keeps (fun q => (Value.slice oo k oc).ownBlock = some q) w1 w6 := (((Keeps.refl _ w1).alloc _).alloc _).grown hgr (fun q e _ => e)
        have hk2 : Keeps (fun q => (Value.slice oo k oc).ownBlock = some q) wr w6 := (unhide HK1).any.trans hk3
        have hkw : Keeps (fun _ => False) w w6 := (unhide HK).narrow hk2 (fun q e => ((unhide HO).lt q e).1)
        have hol : ∀ q, (Value.slice oo k oc).ownBlock = some q → q < wr.heap.size := fun q e => ((unhide HO).lt q e).2
        have c1 := CsIn.mono (B := fun q => A q ∨ (wr.heap.size ≤ q ∧ q < w1.heap.size)) (fun _ _ h => Or.inl h) ((unhide HCS).keep hk2 (fun q _ h e => ((unhide HAQ) q h).2.2 e))
        have c2 : SlE (inZ (fun q => A q ∨ (wr.heap.size ≤ q ∧ q < w1.heap.size))) w6 0 (.slice vo kids.len vc) kids :=
          (((unhide HS1).inMono (up' := 0) (B := fun q => wr.heap.size ≤ q ∧ q < w1.heap.size) (fun q hq h => ⟨h, hq⟩)).inKeep hk3 (fun q _ h e => by have := hol q e; omega)).inMono (fun _ _ h => Or.inr h)
        have hs6 : w1.heap.size + 2 ≤ w6.heap.size := by have := hgr.size; simp at this; omega
        refine ⟨pre.app (.cons op n s kids .nil), rest, k + 1, _, _, by go_num, ?_, ?_, unhide HO6, c1.snoc c2, fun q hq => ?_, hkw, ?_⟩
        · rw [app_one]; exact unhide HAPP
        · rw [EL.len_app, unhide HKP]; rfl
        · have hb0 := unhide HB0
          rcases hq with hq | hq
          · obtain ⟨a1, a2, a3⟩ := (unhide HAQ) q hq
            refine ⟨a1, by omega, fun e => ?_⟩
            have e' : g' = q := by simpa [Value.ownBlock] using e
            rcases unhide HAT with h | h
            · exact a3 (by rw [h, e'])
            · omega
          · refine ⟨by omega, by omega, fun e => ?_⟩
            have e' : g' = q := by simpa [Value.ownBlock] using e
            rcases unhide HAT with h | h
            · have := hol _ h; omega
            · omega
        · rw [show off + (k + 1) * 4 = off + k * 4 + 4 by omega]
          exact unhide HR
      case measure => simp [intOf]; omega
end Go.Proofs.YtoempeobaknkcaaGreatDoor
