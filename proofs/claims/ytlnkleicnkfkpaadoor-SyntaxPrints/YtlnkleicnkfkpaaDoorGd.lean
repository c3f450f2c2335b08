import Derived.Test.YtlnkleicnkfkpaaDoorGc
namespace Go.Proofs.YtlnkleicnkfkpaaDoor
open Go.RowKit Go.Maps

/-- The kids' texts are given by the calls of text. -/
def KidsT (Z : Zone) (w : World) : EL → Prop
  | .nil => True
  | .cons op n s k r => (∀ (up : Nat) (kv : Value) (w' : World), Keeps (fun _ => False) w w' → SlE Z w' up kv k → Calls Tryd.prog 37 #[exV op n s kv] w' fun e w'' => e = .returned (str (textE op n s k)) ∧ Keeps (fun _ => False) w' w'') ∧ KidsT Z w r
theorem KidsT.keepF {Z : Zone} {w w' : World} (hk : Keeps (fun _ => False) w w') : ∀ {l : EL}, KidsT Z w l → KidsT Z w' l
  | .nil, _ => trivial
  | .cons _ _ _ _ _, ⟨h1, h2⟩ => ⟨fun up kv w2 h hs => h1 up kv w2 (hk.trans h) hs, KidsT.keepF hk h2⟩
/-- How long the texts are together. -/
def tl : EL → Nat
  | .nil => 0
  | .cons op n s k r => (textE op n s k).length + 4 + tl r

theorem at_len (o n want : Int) (T : Txt) (h : T.length ≤ 10000000000000) : (atT (o, n, T) want).length ≤ 20000000000000 := by
  unfold atT
  split
  · simp; omega
  · show T.length ≤ _
    omega

set_option maxRecDepth 100000 in
set_option maxHeartbeats 1600000 in
theorem between_v (Z : Zone) (op n l r : Int) (s m : Txt) (o0 n0 o1 n1 : Int) (s0 s1 : Txt) (k0 k1 : EL) (up : Nat) (kv : Value) (w : World) (hS : SlE Z w up kv (.cons o0 n0 s0 k0 (.cons o1 n1 s1 k1 .nil))) (hT : KidsT Z w (.cons o0 n0 s0 k0 (.cons o1 n1 s1 k1 .nil))) (hl : tl (.cons o0 n0 s0 k0 (.cons o1 n1 s1 k1 .nil)) ≤ 10000000000000) (hm : m.length ≤ 100) :
    Calls Tryd.prog 50 #[exV op n s kv, str m, .int .i64 l, .int .i64 r] w fun e w' => e = .returned (str (atT (o0, n0, textE o0 n0 s0 k0) l ++ [32] ++ m ++ [32] ++ atT (o1, n1, textE o1 n1 s1 k1) r)) ∧ Keeps (fun _ => False) w w' := by
  obtain ⟨ao, cap, b, off, rfl, hcap, ha, hx⟩ := hS.open
  obtain ⟨rfl, hp⟩ := ha (by simp [EL.len])
  have e2 : (EL.cons o0 n0 s0 k0 (.cons o1 n1 s1 k1 .nil)).len = 2 := rfl
  rw [e2] at hcap ⊢
  obtain ⟨a1, a2, a3, a4, a5, ⟨q0, p0, a6, a7, a8⟩, b1, b2, b3, b4, b5, ⟨q1, p1, b6, b7, b8⟩, _⟩ := hx
  have hs0 : SlE Z w b (.slice q0 k0.len p0) k0 := ⟨q0, p0, rfl, a7, a8⟩
  have hs1 : SlE Z w b (.slice q1 k1.len p1) k1 := ⟨q1, p1, rfl, b7, b8⟩
  obtain ⟨HX, hxb, hxc⟩ := boxedT w #[.int .i64 op, .int .i64 n, str s, .slice (some ⟨b, off, none⟩) 2 cap] 25
  have c3 := hxc 3 (.slice (some ⟨b, off, none⟩) 2 cap) rfl
  have f3 := ((unhide HX).cell a1 id).trans a3
  have f4 := ((unhide HX).cell a1 id).trans a4
  have f5 := ((unhide HX).cell a1 id).trans a5
  have f6 := ((unhide HX).cell a1 id).trans a6
  have ht0 : TextAt w o0 n0 s0 (.slice q0 k0.len p0) (textE o0 n0 s0 k0) := fun w' hk => hT.1 b _ w' hk (hs0.keepF hk)
  have ht1 : TextAt w o1 n1 s1 (.slice q1 k1.len p1) (textE o1 n1 s1 k1) := fun w' hk => hT.2.1 b _ w' hk (hs1.keepF hk)
  simp only [tl] at hl
  have HA0 := hide (at_v o0 n0 l s0 _ q0 k0.len p0 _ (ht0.keepF (unhide HX)) (by omega))
  have HA1 := fun w' (hk : Keeps (fun _ => False) w w') => hide (at_v o1 n1 r s1 _ q1 k1.len p1 w' (ht1.keepF hk) (by omega))
  have g3 := b3
  have hL0 : (atT (o0, n0, textE o0 n0 s0 k0) l).length ≤ 20000000000000 := at_len _ _ _ _ (by omega)
  have hL1 : (atT (o1, n1, textE o1 n1 s1 k1) r).length ≤ 20000000000000 := at_len _ _ _ _ (by omega)
  generalize atT (o0, n0, textE o0 n0 s0 k0) l = T0 at HA0 hL0 ⊢
  generalize atT (o1, n1, textE o1 n1 s1 k1) r = T1 at HA1 hL1 ⊢
  clear hS hT ha hs0 hs1 ht0 ht1 a2 a8 b2 b8 hxc hl a3 a4 a5 a6
  go_enter Tryd.func50, Tryd.ntmps50
  go_wp2_with fail
  refine (unhide HA0).mono ?_
  rintro e w1 ⟨rfl, hk1⟩
  have HK1 := hide ((unhide HX).trans hk1)
  have r3 := (hk1.cell (o := 3) hxb id).trans c3
  have u3 := ((unhide HK1).cell b1 id).trans b3
  have u4 := ((unhide HK1).cell b1 id).trans b4
  have u5 := ((unhide HK1).cell b1 id).trans b5
  have u6 := ((unhide HK1).cell b1 id).trans b6
  clear hk1 f3 f4 f5 f6 b3 b4 b5 b6
  go_wp2_with fail
  refine (unhide (HA1 _ (unhide HK1))).mono ?_
  rintro e w2 ⟨rfl, hk2⟩
  have HK2 := hide ((unhide HK1).trans hk2)
  clear hk2 HA0 HA1 u3 u4 u5 u6 r3
  go_wp2_with fail
  go_ret
  refine ⟨congrArg Ending.returned ?_, unhide HK2⟩
  simp only [cat2]
  rfl

set_option maxRecDepth 100000 in
set_option maxHeartbeats 1600000 in
theorem negated_v {E : World → Prop} (hL : RLib E) (op n : Int) (s T : Txt) (ao : Option Addr) (k cap : Nat) (w : World) (hE : E w) (h0 : -9223372036854775808 ≤ n) (h1 : n ≤ 9223372036854775807) (hs : s.length ≤ 1099511627776) (hT : TextAt w op n s (.slice ao k cap) T) (h1T : op = 1 → T = simpleT op n s) (hl : T.length ≤ 10000000000000) :
    Calls Tryd.prog 53 #[exV op n s (.slice ao k cap)] w fun e w' => e = .returned (str (if op = 1 ∧ 0 ≤ n then [45, 40] ++ T ++ [41] else [45] ++ atT (op, n, T) 8)) ∧ Keeps (fun _ => False) w w' := by
  obtain ⟨HX, hxb, hxc⟩ := boxedT w #[.int .i64 op, .int .i64 n, str s, .slice ao k cap] 25
  have c0 := hxc 0 (.int .i64 op) rfl
  have c1 := hxc 1 (.int .i64 n) rfl
  have c2 := hxc 2 (str s) rfl
  have c3 := hxc 3 (.slice ao k cap) rfl
  have HS := hide (simple_v hL op n s ao k cap _ (hL.keep hE (unhide HX)) h0 h1 hs)
  have HA := hide (at_v op n 8 s T ao k cap _ (hT.keepF (unhide HX)) (by omega))
  have hL8 := at_len op n 8 T hl
  by_cases ho : op = 1
  · rw [← h1T ho] at HS
    subst ho
    clear hxc hE h0 h1 hs hT h1T
    by_cases hn : 0 ≤ n
    · rw [if_pos ⟨rfl, hn⟩]
      go_enter Tryd.func53, Tryd.ntmps53
      go_wp2_with fail
      refine (unhide HS).mono ?_
      rintro e w1 ⟨rfl, hk1⟩
      go_wp2_with fail
      go_ret
      refine ⟨congrArg Ending.returned ?_, (unhide HX).trans hk1⟩
      simp only [cat2]
      rfl
    · rw [if_neg (fun h => hn h.2)]
      generalize atT (1, n, T) 8 = T8 at HA hL8 ⊢
      go_enter Tryd.func53, Tryd.ntmps53
      go_wp2_with fail
      refine (unhide HA).mono ?_
      rintro e w1 ⟨rfl, hk1⟩
      go_wp2_with fail
      go_ret
      refine ⟨congrArg Ending.returned ?_, (unhide HX).trans hk1⟩
      simp only [cat2]
      rfl
  · rw [if_neg (fun h => ho h.1)]
    have d1 : (op == 1) = false := by simpa using ho
    generalize atT (op, n, T) 8 = T8 at HA hL8 ⊢
    clear hxc hE h0 h1 hs hT h1T ho
    go_enter Tryd.func53, Tryd.ntmps53
    go_wp2_with fail
    refine (unhide HA).mono ?_
    rintro e w1 ⟨rfl, hk1⟩
    go_wp2_with fail
    go_ret
    refine ⟨congrArg Ending.returned ?_, (unhide HX).trans hk1⟩
    simp only [cat2]
    rfl

/-- What comes behind so many texts of a call. -/
def tailT : Nat → List Txt → Txt
  | _, [] => []
  | k, t :: r => (if k = 0 then t else [44, 32] ++ t) ++ tailT (k + 1) r
theorem tail_commas : ∀ (l : List Txt) (k : Nat), tailT (k + 1) l = (match l with
    | [] => []
    | l => [44, 32] ++ commas l)
  | [], _ => rfl
  | [t], k => by simp [tailT, commas]
  | t :: u :: r, k => by
    rw [tailT, tail_commas (u :: r) (k + 1)]
    simp [commas]
theorem commas_tail : ∀ l : List Txt, tailT 0 l = commas l
  | [] => rfl
  | [t] => by simp [tailT, commas]
  | t :: u :: r => by
    rw [tailT, tail_commas (u :: r) 0]
    simp [commas]
def kidTs (l : EL) : List Txt := (txs l).map fun k => k.2.2

set_option maxRecDepth 100000 in
set_option maxHeartbeats 1600000 in
theorem called_v (Z : Zone) (op n : Int) (s wd : Txt) (l : EL) (up : Nat) (kv : Value) (w : World) (hS : SlE Z w up kv l) (hT : KidsT Z w l) (hl : tl l ≤ 10000000000000) (hm : wd.length ≤ 100) (hlen : l.len ≤ 2147483647) :
    Calls Tryd.prog 51 #[exV op n s kv, str wd] w fun e w' => e = .returned (str (wd ++ [40] ++ commas (kidTs l) ++ [41])) ∧ Keeps (fun _ => False) w w' := by
  rw [← commas_tail]
  obtain ⟨ao, cap, b, off, rfl, hcap, ha, hx⟩ := hS.open
  obtain ⟨HB, hxb, hxc⟩ := boxedT w #[.int .i64 op, .int .i64 n, str s, .slice ao l.len cap] 25
  have c3 := hxc 3 (.slice ao l.len cap) rfl
  have HX := hide hx
  have HA := hide ha
  have HT := hide hT
  clear hS hx ha hxc hT
  go_enter Tryd.func51, Tryd.ntmps51
  go_wp2_with fail
  go_loopw [5, 6] (fun sv i wr => ∃ (rest : EL) (k : Nat) (S : Txt), sv = str S ∧ i = .int .i64 k ∧ k + rest.len = l.len ∧ S ++ tailT k (kidTs rest) = wd ++ [40] ++ tailT 0 (kidTs l) ∧ S.length + tl rest ≤ tl l + 200 ∧ Keeps (fun _ => False) (w.alloc (.cells #[.int .i64 op, .int .i64 n, str s, .slice ao l.len cap] 25)) wr ∧ ExIn Z wr rest b (off + k * 4) ∧ KidsT Z wr rest) (fun _ i _ => l.len - (intOf i).toNat)
  case atStart => exact ⟨l, 0, wd ++ [40], congrArg Value.string (cat2 wd [40]), rfl, by omega, rfl, by simp; omega, Keeps.refl _ _, by simpa using (unhide HX).keepF (unhide HB), (unhide HT).keepF (unhide HB)⟩
  case round =>
    obtain ⟨rest, k, S, rfl, rfl, hkl, hS, hSl, hkeep, hr, hkt⟩ := hrel
    have q3 := (hkeep.cell (o := 3) hxb id).trans c3
    have HK := hide hkeep
    have HSS := hide hS
    clear hkeep hS
    cases rest with
    | nil =>
      simp only [EL.len, tl] at hkl hSl
      clear hr hkt
      have i1 : ¬ (k : Int) < (l.len : Int) := by omega
      go_wp2_with fail
      go_ret
      refine ⟨congrArg Ending.returned ?_, (unhide HB).trans (unhide HK)⟩
      have h : S ++ [] = wd ++ [40] ++ tailT 0 (kidTs l) := unhide HSS
      rw [List.append_nil] at h
      show Value.string (ByteArray.mk S.toArray ++ ByteArray.mk [41].toArray) = _
      rw [cat2, h]
      simp
    | cons op' n' s' kids rest =>
      obtain ⟨h1, h2, h3, h4, h5, ⟨kao, kcap, h6, h7, h8⟩, h9⟩ := hr
      simp only [EL.len, tl] at hkl hSl
      obtain ⟨rfl, hp⟩ := (unhide HA) (by omega)
      have HKD := fun (w' : World) (hk : Keeps (fun _ => False) wr w') => hide (hkt.1 b (.slice kao kids.len kcap) w' hk (SlE.keepF ⟨kao, kcap, rfl, h7, h8⟩ hk))
      have HKT := hide hkt.2
      have HR := hide h9
      have i1 : (k : Int) < (l.len : Int) := by omega
      have i0 : (0 : Int) ≤ (k : Int) := by omega
      have hc : tailT k (kidTs (.cons op' n' s' kids rest)) = (if k = 0 then textE op' n' s' kids else [44, 32] ++ textE op' n' s' kids) ++ tailT (k + 1) (kidTs rest) := rfl
      rw [hc] at HSS
      generalize textE op' n' s' kids = T at HKD HSS hSl hc
      clear h2 h8 h9 hkt hc
      by_cases hk0 : k = 0
      · rw [if_pos hk0] at HSS
        have hk1' : ¬ (0 : Int) < (k : Int) := by omega
        clear hk0
        go_wp2_with fail
        refine (unhide (HKD _ (Keeps.refl _ wr))).mono ?_
        rintro e w1 ⟨rfl, hk1⟩
        go_wp2_with fail
        go_roundw
        case rel =>
          refine ⟨rest, k + 1, S ++ T, congrArg Value.string (cat2 S T), by go_num, by omega, ?_, by simp; omega, (unhide HK).trans hk1, ?_, (unhide HKT).keepF hk1⟩
          · rw [List.append_assoc]
            exact unhide HSS
          · rw [show off + (k + 1) * 4 = off + k * 4 + 4 by omega]
            exact (unhide HR).keepF hk1
        case measure => simp [intOf]; omega
      · rw [if_neg hk0] at HSS
        have hk1' : (0 : Int) < (k : Int) := by omega
        go_wp2_with fail
        refine (unhide (HKD _ (Keeps.refl _ wr))).mono ?_
        rintro e w1 ⟨rfl, hk1⟩
        go_wp2_with fail
        go_roundw
        case rel =>
          refine ⟨rest, k + 1, S ++ [44, 32] ++ T, ?_, by go_num, by omega, ?_, by simp; omega, (unhide HK).trans hk1, ?_, (unhide HKT).keepF hk1⟩
          · simp only [cat2]
          · have h := unhide HSS
            rw [← h]
            simp
          · rw [show off + (k + 1) * 4 = off + k * 4 + 4 by omega]
            exact (unhide HR).keepF hk1
        case measure => simp [intOf]; omega
end Go.Proofs.YtlnkleicnkfkpaaDoor
