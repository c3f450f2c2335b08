import Derived.Test.YtgdabnkjipcbhaaGreatDoorJzae
namespace Go.Proofs.YtgdabnkjipcbhaaGreatDoor
open Go.ChangeShapes Go.WideShapes Go.ChangeAt Go.RowKit Go.Deep

theorem i64_hi {x : Int} (h : (Lit.int .i64 x).wf = true) : -9223372036854775808 ≤ x ∧ x ≤ 9223372036854775807 := by
  simp [Lit.wf, IntKind.min, IntKind.max, IntKind.signed, IntKind.bits] at h
  omega
section
variable {H : Type} {enc : TypeId × Value → H} {W : World}
set_option maxRecDepth 100000 in
/-- What is read of an expression. -/
theorem expr_readI {fuel : Nat} {cs : List Value} {x : DataW H × List MemPlace} (h : DataW.trod enc Tryz.prog W 0 (fun _ => true) true fuel 54 cs = some x) :
    ∃ (op n : Int) (s : Txt) (kv : Value) (m : Nat) (y : DataW H × List MemPlace), fuel = m + 1 ∧ (-9223372036854775808 ≤ n ∧ n ≤ 9223372036854775807) ∧ cs = [.int .i64 op, .int .i64 n, str s, kv] ∧ DataW.trod enc Tryz.prog W 0 (fun _ => true) true m 22 [kv] = some y := by
  obtain ⟨xs, m, hm, _, hl, hlen, hf⟩ := DataW.trod_struct Tryz.underlying54 h
  have hl' : cs.length = 4 := hl.trans Tryz.cells54
  match xs, hlen, cs, hl' with
  | [y0, y1, y2, y3], _, [c0, c1, c2, c3], _ =>
    have h0 : DataW.trod enc Tryz.prog W 0 (fun _ => true) true m 3 (([c0, c1, c2, c3].drop 0).take (Tryz.prog.cellsOf 3)) = some y0 := hf 0 _ rfl
    have h1 : DataW.trod enc Tryz.prog W 0 (fun _ => true) true m 2 (([c0, c1, c2, c3].drop 1).take (Tryz.prog.cellsOf 2)) = some y1 := hf 1 _ rfl
    have h2 : DataW.trod enc Tryz.prog W 0 (fun _ => true) true m 9 (([c0, c1, c2, c3].drop 2).take (Tryz.prog.cellsOf 9)) = some y2 := hf 2 _ rfl
    have h3 : DataW.trod enc Tryz.prog W 0 (fun _ => true) true m 22 (([c0, c1, c2, c3].drop 3).take (Tryz.prog.cellsOf 22)) = some y3 := hf 3 _ rfl
    rw [e3] at h0
    rw [e2] at h1
    rw [e9] at h2
    rw [e23] at h3
    simp only [List.drop_zero, List.take_succ_cons, List.take_zero, List.drop_succ_cons] at h0 h1 h2 h3
    obtain ⟨k, q0, _, _⟩ := DataW.trod_int Tryz.underlying3 h0
    obtain ⟨i, q1, _, w1⟩ := DataW.trod_int Tryz.underlying2 h1
    obtain ⟨s, q2, _, _⟩ := DataW.trod_string Tryz.underlying9 h2
    simp at q0 q1 q2
    exact ⟨k, i, s.data.toList, c3, m, y3, hm, i64_hi w1, by rw [q0, q1, q2, str_of], h3⟩
/-- The expressions that came in. -/
theorem exprs_inI (F : Nat) : ∀ (fuel : Nat) (c : Value) (x : DataW H × List MemPlace), fuel < F → DataW.trod enc Tryz.prog W 0 (fun _ => true) true fuel 22 [c] = some x → ∃ l : EL, intE l ∧ ∀ up, SlE (argZ W.heap.size) W up c l := by
  induction F with
  | zero => intro fuel c x h; omega
  | succ F ih =>
    intro fuel c x hF h
    rcases slice_read Tryz.underlying22 Tryz.cells54 (by omega) h with rfl | ⟨b, off, len, cap, n, spot, rfl, hl, hn, hel⟩
    · exact ⟨.nil, trivial, fun up => ⟨none, 0, rfl, Nat.le_refl _, fun h => absurd rfl h⟩⟩
    · have key : ∀ k i, i + k = len → ∃ l : EL, l.len = k ∧ intE l ∧ ExIn (argZ W.heap.size) W l b (off + i * 4) := by
        intro k
        induction k with
        | zero => exact fun i _ => ⟨.nil, rfl, trivial, trivial⟩
        | succ k ihk =>
          intro i hi
          obtain ⟨r, hr1, hri, hr2⟩ := ihk (i + 1) (by omega)
          obtain ⟨_, hb, cs, y, hc, ht, _⟩ := hel i (by omega)
          obtain ⟨op, nn, s, kv, m, z, hm, hnn, rfl, hk⟩ := expr_readI ht
          obtain ⟨kids, hki, hkids⟩ := ih m kv z (by omega) hk
          obtain ⟨ao, kc, rfl, hkc, hkx⟩ := hkids b
          refine ⟨.cons op nn s kids r, by simp [EL.len, hr1], ⟨hnn, hki, hri⟩, hb, hb, hc 0 _ rfl, hc 1 _ rfl, hc 2 _ rfl, ⟨ao, kc, hc 3 _ rfl, hkc, hkx⟩, ?_⟩
          rw [show off + i * 4 + 4 = off + (i + 1) * 4 by omega]
          exact hr2
      obtain ⟨l, hl1, hli, hl2⟩ := key len 0 (by omega)
      subst hl1
      refine ⟨l, hli, fun up => ⟨_, cap, rfl, hl, fun h0 => ?_⟩⟩
      obtain ⟨rfl, _⟩ := hel 0 (by omega)
      exact ⟨b, off, rfl, trivial, by simpa using hl2⟩
end
end Go.Proofs.YtgdabnkjipcbhaaGreatDoor
namespace Go.Proofs.YtgdabnkjipcbhaaGreatDoor
open Go.RowKit Go.Maps

set_option maxRecDepth 100000 in
set_option maxHeartbeats 1600000 in
theorem rank_v (op n : Int) (s : Txt) (ao : Option Addr) (k cap : Nat) (w : World) :
    Calls Tryz.prog 80 #[exV op n s (.slice ao k cap)] w fun e w' => e = .returned (.int .i64 (rankB op n)) ∧ Keeps (fun _ => False) w w' := by
  obtain ⟨HX, hxb, hxc⟩ := boxedT w #[.int .i64 op, .int .i64 n, str s, .slice ao k cap] 54
  have c0 := hxc 0 (.int .i64 op) rfl
  have c1 := hxc 1 (.int .i64 n) rfl
  clear hxc
  go_enter Tryz.func80, Tryz.ntmps80
  go_wp2_with fail
  all_goals (go_ret; refine ⟨ret_int ?_, (Keeps.refl _ w).alloc _⟩; clear HX c0 c1 hxb; unfold rankB; (repeat' split) <;> first | rfl | (exfalso; simp_all; done) | (exfalso; simp_all; omega) | (exfalso; omega))
end Go.Proofs.YtgdabnkjipcbhaaGreatDoor
namespace Go.Proofs.YtgdabnkjipcbhaaGreatDoor
open Go.RowKit Go.Maps

/-- What the library's calls and the reference's Quote give, in the worlds that hold what they want. -/
structure RLib (E : World → Prop) : Prop where
  keep : ∀ {w w' : World}, E w → Keeps (fun _ => False) w w' → E w'
  fmt : ∀ (n : Int) (w : World), -9223372036854775808 ≤ n → n ≤ 9223372036854775807 → E w → Calls Tryz.prog 81 #[.int .i64 n, .int .i64 10] w fun e w' => e = .returned (str (decimal n)) ∧ Keeps (fun _ => False) w w'
  quote : ∀ (t : Txt) (w : World), t.length ≤ 1099511627776 → Calls Tryz.prog 82 #[str t] w fun e w' => e = .returned (str (quoteB t)) ∧ Keeps (fun _ => False) w w'

theorem cat2 (a b : Txt) : (ByteArray.mk a.toArray ++ ByteArray.mk b.toArray : ByteArray) = ByteArray.mk (a ++ b).toArray := by
  have := str_cat a b (a ++ b) rfl
  exact Value.string.inj this

set_option maxRecDepth 100000 in
set_option maxHeartbeats 1600000 in
theorem simple_v {E : World → Prop} (hL : RLib E) (op n : Int) (s : Txt) (ao : Option Addr) (k cap : Nat) (w : World) (hE : E w) (h0 : -9223372036854775808 ≤ n) (h1 : n ≤ 9223372036854775807) (hs : s.length ≤ 1099511627776) :
    Calls Tryz.prog 55 #[exV op n s (.slice ao k cap)] w fun e w' => e = .returned (str (simpleT op n s)) ∧ Keeps (fun _ => False) w w' := by
  obtain ⟨HX, hxb, hxc⟩ := boxedT w #[.int .i64 op, .int .i64 n, str s, .slice ao k cap] 54
  have c0 := hxc 0 (.int .i64 op) rfl
  have c1 := hxc 1 (.int .i64 n) rfl
  have c2 := hxc 2 (str s) rfl
  have HF := hide (hL.fmt n _ h0 h1 (hL.keep hE (unhide HX)))
  have HQ := fun w' => hide (hL.quote s w' hs)
  clear hxc hE h0 h1
  unfold simpleT
  by_cases q1 : op = 1
  · subst q1
    rw [if_pos rfl]
    go_enter Tryz.func55, Tryz.ntmps55
    go_wp2_with (go_at_call 81; refine (unhide HF).mono ?_; rintro e w1 ⟨rfl, hk1⟩)
    go_ret
    exact ⟨rfl, (unhide HX).trans hk1⟩
  rw [if_neg q1]
  by_cases q2 : op = 2
  · subst q2
    rw [if_pos rfl]
    by_cases hn : n = 1
    · subst hn
      rw [if_pos rfl]
      go_enter Tryz.func55, Tryz.ntmps55
      go_wp2_with fail
      go_ret
      exact ⟨rfl, unhide HX⟩
    · rw [if_neg hn]
      have d1 : (n == 1) = false := by simpa using hn
      go_enter Tryz.func55, Tryz.ntmps55
      go_wp2_with fail
      go_ret
      exact ⟨rfl, unhide HX⟩
  rw [if_neg q2]
  by_cases q3 : op = 3
  · subst q3
    rw [if_pos rfl]
    go_enter Tryz.func55, Tryz.ntmps55
    go_wp2_with (go_at_call 82; refine (unhide (HQ _)).mono ?_; rintro e w1 ⟨rfl, hk1⟩)
    go_ret
    exact ⟨rfl, (unhide HX).trans hk1⟩
  rw [if_neg q3]
  by_cases q5 : op = 5
  · subst q5
    rw [if_pos rfl]
    go_enter Tryz.func55, Tryz.ntmps55
    go_wp2_with fail
    go_ret
    exact ⟨congrArg Ending.returned (str_cat [104, 97, 115, 32] s _ rfl), unhide HX⟩
  rw [if_neg q5]
  by_cases q6 : op = 6
  · subst q6
    rw [if_pos rfl]
    go_enter Tryz.func55, Tryz.ntmps55
    go_wp2_with fail
    go_ret
    exact ⟨rfl, unhide HX⟩
  rw [if_neg q6]
  have d1 : (op == 1) = false := by simpa using q1
  have d2 : (op == 2) = false := by simpa using q2
  have d3 : (op == 3) = false := by simpa using q3
  have d5 : (op == 5) = false := by simpa using q5
  have d6 : (op == 6) = false := by simpa using q6
  clear q1 q2 q3 q5 q6
  go_enter Tryz.func55, Tryz.ntmps55
  go_wp2_with fail
  go_ret
  exact ⟨rfl, unhide HX⟩

/-- The call of text gives this, in all later worlds. -/
def TextAt (w : World) (op n : Int) (s : Txt) (kv : Value) (T : Txt) : Prop :=
  ∀ w', Keeps (fun _ => False) w w' → Calls Tryz.prog 34 #[exV op n s kv] w' fun e w'' => e = .returned (str T) ∧ Keeps (fun _ => False) w' w''
theorem TextAt.keepF {w w' : World} {op n : Int} {s : Txt} {kv : Value} {T : Txt} (h : TextAt w op n s kv T) (hk : Keeps (fun _ => False) w w') : TextAt w' op n s kv T := fun w2 h2 => h w2 (hk.trans h2)

set_option maxRecDepth 100000 in
set_option maxHeartbeats 1600000 in
theorem at_v (op n want : Int) (s T : Txt) (ao : Option Addr) (k cap : Nat) (w : World) (hT : TextAt w op n s (.slice ao k cap) T) (hl : T.length ≤ 100000000000000) :
    Calls Tryz.prog 53 #[exV op n s (.slice ao k cap), .int .i64 want] w fun e w' => e = .returned (str (atT (op, n, T) want)) ∧ Keeps (fun _ => False) w w' := by
  obtain ⟨HX, hxb, hxc⟩ := boxedT w #[.int .i64 op, .int .i64 n, str s, .slice ao k cap] 54
  have c0 := hxc 0 (.int .i64 op) rfl
  have c1 := hxc 1 (.int .i64 n) rfl
  have c2 := hxc 2 (str s) rfl
  have c3 := hxc 3 (.slice ao k cap) rfl
  have HT := hide (hT _ (unhide HX))
  have HR := fun w' => hide (rank_v op n s ao k cap w')
  clear hT hxc
  unfold atT
  simp only
  generalize rankB op n = R at HR ⊢
  by_cases hr : R < want
  · rw [if_pos hr]
    go_enter Tryz.func53, Tryz.ntmps53
    go_wp2_with (first
      | (go_at_call 34; refine (unhide HT).mono ?_; rintro e w1 ⟨rfl, hk1⟩; have HK1 := hide ((unhide HX).trans hk1); have r0 := (hk1.cell (o := 0) hxb id).trans c0; have r1 := (hk1.cell (o := 1) hxb id).trans c1; have r2 := (hk1.cell (o := 2) hxb id).trans c2; have r3 := (hk1.cell (o := 3) hxb id).trans c3; clear hk1)
      | (go_at_call 80; refine (unhide (HR _)).mono ?_; rintro e w2 ⟨rfl, hk2⟩; have HK2 := hide ((unhide HK1).trans hk2); clear hk2))
    go_ret
    refine ⟨congrArg Ending.returned ?_, unhide HK2⟩
    simp only [cat2]
    rfl
  · rw [if_neg hr]
    go_enter Tryz.func53, Tryz.ntmps53
    go_wp2_with (first
      | (go_at_call 34; refine (unhide HT).mono ?_; rintro e w1 ⟨rfl, hk1⟩; have HK1 := hide ((unhide HX).trans hk1); have r0 := (hk1.cell (o := 0) hxb id).trans c0; have r1 := (hk1.cell (o := 1) hxb id).trans c1; have r2 := (hk1.cell (o := 2) hxb id).trans c2; have r3 := (hk1.cell (o := 3) hxb id).trans c3; clear hk1)
      | (go_at_call 80; refine (unhide (HR _)).mono ?_; rintro e w2 ⟨rfl, hk2⟩; have HK2 := hide ((unhide HK1).trans hk2); clear hk2))
    go_ret
    exact ⟨rfl, unhide HK2⟩
end Go.Proofs.YtgdabnkjipcbhaaGreatDoor
namespace Go.Proofs.YtgdabnkjipcbhaaGreatDoor
open Go.RowKit Go.Maps

/-- The kids' texts are given by the calls of text. -/
def KidsT (Z : Zone) (w : World) : EL → Prop
  | .nil => True
  | .cons op n s k r => (∀ (up : Nat) (kv : Value) (w' : World), Keeps (fun _ => False) w w' → SlE Z w' up kv k → Calls Tryz.prog 34 #[exV op n s kv] w' fun e w'' => e = .returned (str (textE op n s k)) ∧ Keeps (fun _ => False) w' w'') ∧ KidsT Z w r
theorem KidsT.keepF {Z : Zone} {w w' : World} (hk : Keeps (fun _ => False) w w') : ∀ {l : EL}, KidsT Z w l → KidsT Z w' l
  | .nil, _ => trivial
  | .cons _ _ _ _ _, ⟨h1, h2⟩ => ⟨fun up kv w2 h hs => h1 up kv w2 (hk.trans h) hs, KidsT.keepF hk h2⟩
/-- How long the texts are together. -/
def tl : EL → Nat
  | .nil => 0
  | .cons op n s k r => (textE op n s k).length + 4 + tl r

theorem at_len (o n want : Int) (T : Txt) (h : T.length ≤ 10000000000000) : (atT (o, n, T) want).length ≤ 20000000000000 := by
  unfold atT
  split
  · simp; omega
  · show T.length ≤ _
    omega

set_option maxRecDepth 100000 in
set_option maxHeartbeats 1600000 in
theorem between_v (Z : Zone) (op n l r : Int) (s m : Txt) (o0 n0 o1 n1 : Int) (s0 s1 : Txt) (k0 k1 : EL) (up : Nat) (kv : Value) (w : World) (hS : SlE Z w up kv (.cons o0 n0 s0 k0 (.cons o1 n1 s1 k1 .nil))) (hT : KidsT Z w (.cons o0 n0 s0 k0 (.cons o1 n1 s1 k1 .nil))) (hl : tl (.cons o0 n0 s0 k0 (.cons o1 n1 s1 k1 .nil)) ≤ 10000000000000) (hm : m.length ≤ 100) :
    Calls Tryz.prog 51 #[exV op n s kv, str m, .int .i64 l, .int .i64 r] w fun e w' => e = .returned (str (atT (o0, n0, textE o0 n0 s0 k0) l ++ [32] ++ m ++ [32] ++ atT (o1, n1, textE o1 n1 s1 k1) r)) ∧ Keeps (fun _ => False) w w' := by
  obtain ⟨ao, cap, b, off, rfl, hcap, ha, hx⟩ := hS.open
  obtain ⟨rfl, hp⟩ := ha (by simp [EL.len])
  have e2 : (EL.cons o0 n0 s0 k0 (.cons o1 n1 s1 k1 .nil)).len = 2 := rfl
  rw [e2] at hcap ⊢
  obtain ⟨a1, a2, a3, a4, a5, ⟨q0, p0, a6, a7, a8⟩, b1, b2, b3, b4, b5, ⟨q1, p1, b6, b7, b8⟩, _⟩ := hx
  have hs0 : SlE Z w b (.slice q0 k0.len p0) k0 := ⟨q0, p0, rfl, a7, a8⟩
  have hs1 : SlE Z w b (.slice q1 k1.len p1) k1 := ⟨q1, p1, rfl, b7, b8⟩
  obtain ⟨HX, hxb, hxc⟩ := boxedT w #[.int .i64 op, .int .i64 n, str s, .slice (some ⟨b, off, none⟩) 2 cap] 54
  have c3 := hxc 3 (.slice (some ⟨b, off, none⟩) 2 cap) rfl
  have f3 := ((unhide HX).cell a1 id).trans a3
  have f4 := ((unhide HX).cell a1 id).trans a4
  have f5 := ((unhide HX).cell a1 id).trans a5
  have f6 := ((unhide HX).cell a1 id).trans a6
  have ht0 : TextAt w o0 n0 s0 (.slice q0 k0.len p0) (textE o0 n0 s0 k0) := fun w' hk => hT.1 b _ w' hk (hs0.keepF hk)
  have ht1 : TextAt w o1 n1 s1 (.slice q1 k1.len p1) (textE o1 n1 s1 k1) := fun w' hk => hT.2.1 b _ w' hk (hs1.keepF hk)
  simp only [tl] at hl
  have HA0 := hide (at_v o0 n0 l s0 _ q0 k0.len p0 _ (ht0.keepF (unhide HX)) (by omega))
  have HA1 := fun w' (hk : Keeps (fun _ => False) w w') => hide (at_v o1 n1 r s1 _ q1 k1.len p1 w' (ht1.keepF hk) (by omega))
  have g3 := b3
  have hL0 : (atT (o0, n0, textE o0 n0 s0 k0) l).length ≤ 20000000000000 := at_len _ _ _ _ (by omega)
  have hL1 : (atT (o1, n1, textE o1 n1 s1 k1) r).length ≤ 20000000000000 := at_len _ _ _ _ (by omega)
  generalize atT (o0, n0, textE o0 n0 s0 k0) l = T0 at HA0 hL0 ⊢
  generalize atT (o1, n1, textE o1 n1 s1 k1) r = T1 at HA1 hL1 ⊢
  clear hS hT ha hs0 hs1 ht0 ht1 a2 a8 b2 b8 hxc hl a3 a4 a5 a6
  go_enter Tryz.func51, Tryz.ntmps51
  go_wp2_with fail
  refine (unhide HA0).mono ?_
  rintro e w1 ⟨rfl, hk1⟩
  have HK1 := hide ((unhide HX).trans hk1)
  have r3 := (hk1.cell (o := 3) hxb id).trans c3
  have u3 := ((unhide HK1).cell b1 id).trans b3
  have u4 := ((unhide HK1).cell b1 id).trans b4
  have u5 := ((unhide HK1).cell b1 id).trans b5
  have u6 := ((unhide HK1).cell b1 id).trans b6
  clear hk1 f3 f4 f5 f6 b3 b4 b5 b6
  go_wp2_with fail
  refine (unhide (HA1 _ (unhide HK1))).mono ?_
  rintro e w2 ⟨rfl, hk2⟩
  have HK2 := hide ((unhide HK1).trans hk2)
  clear hk2 HA0 HA1 u3 u4 u5 u6 r3
  go_wp2_with fail
  go_ret
  refine ⟨congrArg Ending.returned ?_, unhide HK2⟩
  simp only [cat2]
  rfl

set_option maxRecDepth 100000 in
set_option maxHeartbeats 1600000 in
theorem negated_v {E : World → Prop} (hL : RLib E) (op n : Int) (s T : Txt) (ao : Option Addr) (k cap : Nat) (w : World) (hE : E w) (h0 : -9223372036854775808 ≤ n) (h1 : n ≤ 9223372036854775807) (hs : s.length ≤ 1099511627776) (hT : TextAt w op n s (.slice ao k cap) T) (h1T : op = 1 → T = simpleT op n s) (hl : T.length ≤ 10000000000000) :
    Calls Tryz.prog 54 #[exV op n s (.slice ao k cap)] w fun e w' => e = .returned (str (if op = 1 ∧ 0 ≤ n then [45, 40] ++ T ++ [41] else [45] ++ atT (op, n, T) 8)) ∧ Keeps (fun _ => False) w w' := by
  obtain ⟨HX, hxb, hxc⟩ := boxedT w #[.int .i64 op, .int .i64 n, str s, .slice ao k cap] 54
  have c0 := hxc 0 (.int .i64 op) rfl
  have c1 := hxc 1 (.int .i64 n) rfl
  have c2 := hxc 2 (str s) rfl
  have c3 := hxc 3 (.slice ao k cap) rfl
  have HS := hide (simple_v hL op n s ao k cap _ (hL.keep hE (unhide HX)) h0 h1 hs)
  have HA := hide (at_v op n 8 s T ao k cap _ (hT.keepF (unhide HX)) (by omega))
  have hL8 := at_len op n 8 T hl
  by_cases ho : op = 1
  · rw [← h1T ho] at HS
    subst ho
    clear hxc hE h0 h1 hs hT h1T
    by_cases hn : 0 ≤ n
    · rw [if_pos ⟨rfl, hn⟩]
      go_enter Tryz.func54, Tryz.ntmps54
      go_wp2_with fail
      refine (unhide HS).mono ?_
      rintro e w1 ⟨rfl, hk1⟩
      go_wp2_with fail
      go_ret
      refine ⟨congrArg Ending.returned ?_, (unhide HX).trans hk1⟩
      simp only [cat2]
      rfl
    · rw [if_neg (fun h => hn h.2)]
      generalize atT (1, n, T) 8 = T8 at HA hL8 ⊢
      go_enter Tryz.func54, Tryz.ntmps54
      go_wp2_with fail
      refine (unhide HA).mono ?_
      rintro e w1 ⟨rfl, hk1⟩
      go_wp2_with fail
      go_ret
      refine ⟨congrArg Ending.returned ?_, (unhide HX).trans hk1⟩
      simp only [cat2]
      rfl
  · rw [if_neg (fun h => ho h.1)]
    have d1 : (op == 1) = false := by simpa using ho
    generalize atT (op, n, T) 8 = T8 at HA hL8 ⊢
    clear hxc hE h0 h1 hs hT h1T ho
    go_enter Tryz.func54, Tryz.ntmps54
    go_wp2_with fail
    refine (unhide HA).mono ?_
    rintro e w1 ⟨rfl, hk1⟩
    go_wp2_with fail
    go_ret
    refine ⟨congrArg Ending.returned ?_, (unhide HX).trans hk1⟩
    simp only [cat2]
    rfl

/-- What comes behind so many texts of a call. -/
def tailT : Nat → List Txt → Txt
  | _, [] => []
  | k, t :: r => (if k = 0 then t else [44, 32] ++ t) ++ tailT (k + 1) r
theorem tail_commas : ∀ (l : List Txt) (k : Nat), tailT (k + 1) l = (match l with
    | [] => []
    | l => [44, 32] ++ commas l)
  | [], _ => rfl
  | [t], k => by simp [tailT, commas]
  | t :: u :: r, k => by
    rw [tailT, tail_commas (u :: r) (k + 1)]
    simp [commas]
theorem commas_tail : ∀ l : List Txt, tailT 0 l = commas l
  | [] => rfl
  | [t] => by simp [tailT, commas]
  | t :: u :: r => by
    rw [tailT, tail_commas (u :: r) 0]
    simp [commas]
def kidTs (l : EL) : List Txt := (txs l).map fun k => k.2.2

set_option maxRecDepth 100000 in
set_option maxHeartbeats 1600000 in
theorem called_v (Z : Zone) (op n : Int) (s wd : Txt) (l : EL) (up : Nat) (kv : Value) (w : World) (hS : SlE Z w up kv l) (hT : KidsT Z w l) (hl : tl l ≤ 10000000000000) (hm : wd.length ≤ 100) (hlen : l.len ≤ 2147483647) :
    Calls Tryz.prog 52 #[exV op n s kv, str wd] w fun e w' => e = .returned (str (wd ++ [40] ++ commas (kidTs l) ++ [41])) ∧ Keeps (fun _ => False) w w' := by
  rw [← commas_tail]
  obtain ⟨ao, cap, b, off, rfl, hcap, ha, hx⟩ := hS.open
  obtain ⟨HB, hxb, hxc⟩ := boxedT w #[.int .i64 op, .int .i64 n, str s, .slice ao l.len cap] 54
  have c3 := hxc 3 (.slice ao l.len cap) rfl
  have HX := hide hx
  have HA := hide ha
  have HT := hide hT
  clear hS hx ha hxc hT
  go_enter Tryz.func52, Tryz.ntmps52
  go_wp2_with fail
  go_loopw [5, 6] (fun sv i wr => ∃ (rest : EL) (k : Nat) (S : Txt), sv = str S ∧ i = .int .i64 k ∧ k + rest.len = l.len ∧ S ++ tailT k (kidTs rest) = wd ++ [40] ++ tailT 0 (kidTs l) ∧ S.length + tl rest ≤ tl l + 200 ∧ Keeps (fun _ => False) (w.alloc (.cells #[.int .i64 op, .int .i64 n, str s, .slice ao l.len cap] 54)) wr ∧ ExIn Z wr rest b (off + k * 4) ∧ KidsT Z wr rest) (fun _ i _ => l.len - (intOf i).toNat)
  case atStart => exact ⟨l, 0, wd ++ [40], congrArg Value.string (cat2 wd [40]), rfl, by omega, rfl, by simp; omega, Keeps.refl _ _, by simpa using (unhide HX).keepF (unhide HB), (unhide HT).keepF (unhide HB)⟩
  case round =>
    obtain ⟨rest, k, S, rfl, rfl, hkl, hS, hSl, hkeep, hr, hkt⟩ := hrel
    have q3 := (hkeep.cell (o := 3) hxb id).trans c3
    have HK := hide hkeep
    have HSS := hide hS
    clear hkeep hS
    cases rest with
    | nil =>
      simp only [EL.len, tl] at hkl hSl
      clear hr hkt
      have i1 : ¬ (k : Int) < (l.len : Int) := by omega
      go_wp2_with fail
      go_ret
      refine ⟨congrArg Ending.returned ?_, (unhide HB).trans (unhide HK)⟩
      have h : S ++ [] = wd ++ [40] ++ tailT 0 (kidTs l) := unhide HSS
      rw [List.append_nil] at h
      show Value.string (ByteArray.mk S.toArray ++ ByteArray.mk [41].toArray) = _
      rw [cat2, h]
      simp
    | cons op' n' s' kids rest =>
      obtain ⟨h1, h2, h3, h4, h5, ⟨kao, kcap, h6, h7, h8⟩, h9⟩ := hr
      simp only [EL.len, tl] at hkl hSl
      obtain ⟨rfl, hp⟩ := (unhide HA) (by omega)
      have HKD := fun (w' : World) (hk : Keeps (fun _ => False) wr w') => hide (hkt.1 b (.slice kao kids.len kcap) w' hk (SlE.keepF ⟨kao, kcap, rfl, h7, h8⟩ hk))
      have HKT := hide hkt.2
      have HR := hide h9
      have i1 : (k : Int) < (l.len : Int) := by omega
      have i0 : (0 : Int) ≤ (k : Int) := by omega
      have hc : tailT k (kidTs (.cons op' n' s' kids rest)) = (if k = 0 then textE op' n' s' kids else [44, 32] ++ textE op' n' s' kids) ++ tailT (k + 1) (kidTs rest) := rfl
      rw [hc] at HSS
      generalize textE op' n' s' kids = T at HKD HSS hSl hc
      clear h2 h8 h9 hkt hc
      by_cases hk0 : k = 0
      · rw [if_pos hk0] at HSS
        have hk1' : ¬ (0 : Int) < (k : Int) := by omega
        clear hk0
        go_wp2_with fail
        refine (unhide (HKD _ (Keeps.refl _ wr))).mono ?_
        rintro e w1 ⟨rfl, hk1⟩
        go_wp2_with fail
        go_roundw
        case rel =>
          refine ⟨rest, k + 1, S ++ T, congrArg Value.string (cat2 S T), by go_num, by omega, ?_, by simp; omega, (unhide HK).trans hk1, ?_, (unhide HKT).keepF hk1⟩
          · rw [List.append_assoc]
            exact unhide HSS
          · rw [show off + (k + 1) * 4 = off + k * 4 + 4 by omega]
            exact (unhide HR).keepF hk1
        case measure => simp [intOf]; omega
      · rw [if_neg hk0] at HSS
        have hk1' : (0 : Int) < (k : Int) := by omega
        go_wp2_with fail
        refine (unhide (HKD _ (Keeps.refl _ wr))).mono ?_
        rintro e w1 ⟨rfl, hk1⟩
        go_wp2_with fail
        go_roundw
        case rel =>
          refine ⟨rest, k + 1, S ++ [44, 32] ++ T, ?_, by go_num, by omega, ?_, by simp; omega, (unhide HK).trans hk1, ?_, (unhide HKT).keepF hk1⟩
          · simp only [cat2]
          · have h := unhide HSS
            rw [← h]
            simp
          · rw [show off + (k + 1) * 4 = off + k * 4 + 4 by omega]
            exact (unhide HR).keepF hk1
        case measure => simp [intOf]; omega
end Go.Proofs.YtgdabnkjipcbhaaGreatDoor
namespace Go.Proofs.YtgdabnkjipcbhaaGreatDoor
open Go.RowKit Go.Maps

theorem decN_len : ∀ (k u : Nat), u < 10 ^ k → (decN u).length ≤ k
  | 0, u, h => by
    obtain rfl : u = 0 := by simpa using h
    unfold decN
    simp
  | k + 1, u, h => by
    unfold decN
    by_cases h0 : u = 0
    · rw [dif_pos h0]; simp
    · rw [dif_neg h0]
      have := decN_len k (u / 10) (by rw [Nat.pow_succ] at h; omega)
      simp
      omega
theorem decimal_len (n : Int) (h0 : -9223372036854775808 ≤ n) (h1 : n ≤ 9223372036854775807) : (decimal n).length ≤ 21 := by
  have h := decN_len 19 n.natAbs (by have : (10 : Nat) ^ 19 = 10000000000000000000 := by decide
                                     omega)
  unfold decimal
  split
  · simp
  · split
    · simp; omega
    · omega
theorem quote1_le (c : UInt8) : (quote1 c).length ≤ 4 := by
  unfold quote1
  (repeat' split) <;> simp
theorem quote_len (t : Txt) : (quoteB t).length ≤ 2 + 4 * t.length := by
  have h : ∀ l : Txt, (l.flatMap quote1).length ≤ 4 * l.length := by
    intro l
    induction l with
    | nil => simp
    | cons c r ih => have := quote1_le c; simp at ih ⊢; omega
  have := h t
  unfold quoteB
  simp at this ⊢
  omega
theorem nameB_len (s : Txt) (h : nameB s = true) : s.length ≤ 8 := by
  rcases Nat.lt_or_ge 8 s.length with h8 | h8
  · rw [nameB_no s (Or.inr (Or.inl h8))] at h; cases h
  · exact h8
theorem leaf_len (op n : Int) (s : Txt) (h : leafB op n s = true) : s.length ≤ 20 := by
  unfold leafB at h
  split at h
  · simp at h; simp [h]
  · split at h
    · simp at h; simp [h.1]
    · split at h
      · simp at h; exact h.2
      · split at h
        · simp at h; have := nameB_len s h.2; omega
        · simp at h; simp [h.2]
theorem root_parts {op n : Int} {s : Txt} {k : Nat} (h : rootB op n s k = true) : 0 ≤ kidsB op ∧ (k : Int) = kidsB op ∧ leafB op n s = true := by
  unfold rootB at h
  simp at h
  exact ⟨h.1, h.2.1, h.2.2⟩
theorem simple_len (op n : Int) (s : Txt) (h0 : -9223372036854775808 ≤ n) (h1 : n ≤ 9223372036854775807) (hs : s.length ≤ 20) : (simpleT op n s).length ≤ 100 := by
  have hd := decimal_len n h0 h1
  have hq := quote_len s
  unfold simpleT
  (repeat' split) <;> simp <;> omega
theorem at_le (k : Kid) (want : Int) : (atT k want).length ≤ k.2.2.length + 2 := by
  unfold atT
  split <;> simp
theorem commas_le : ∀ l : List Kid, (commas (l.map fun k => k.2.2)).length ≤ (l.map fun k => k.2.2.length + 2).sum
  | [] => by simp [commas]
  | [k] => by simp [commas]
  | k :: u :: r => by
    have := commas_le (u :: r)
    simp only [List.map_cons, commas, List.length_append, List.sum_cons, List.length_cons, List.length_nil] at this ⊢
    omega
theorem between_marks : ∀ b ∈ betweens, b.2.1.length ≤ 3 := by decide
theorem call_marks : ∀ c ∈ callsT, c.2.length ≤ 4 := by decide
theorem call_len (l : List Kid) (wd : Txt) (h : wd.length ≤ 4) : (wd ++ ([40] : Txt) ++ commas (l.map fun (k : Kid) => k.2.2) ++ ([41] : Txt)).length ≤ 150 + (l.map fun (k : Kid) => k.2.2.length + 2).sum := by
  have := commas_le l
  simp only [List.length_append, List.length_cons, List.length_nil]
  omega
theorem node_len (op n : Int) (s : Txt) (ks : List Kid) (h0 : -9223372036854775808 ≤ n) (h1 : n ≤ 9223372036854775807) (hs : s.length ≤ 20) : (nodeT op n s ks).length ≤ 150 + (ks.map fun k => k.2.2.length + 2).sum := by
  unfold nodeT
  split
  · rename_i m l r k0 k1 tl heq
    have hm := between_marks _ (List.mem_of_find?_eq_some heq)
    have a0 := at_le k0 l
    have a1 := at_le k1 r
    simp only [List.length_append, List.map_cons, List.sum_cons, List.length_cons, List.length_nil] at hm ⊢
    omega
  · simp
  · rename_i wd heq
    have hm := call_marks _ (List.mem_of_find?_eq_some heq)
    exact call_len _ _ hm
  · have hsim := simple_len op n s h0 h1 hs
    split
    · split
      · rename_i k0 _
        have a0 := at_le k0 3
        simp only [List.length_append, List.map_cons, List.sum_cons, List.length_cons, List.length_nil]
        omega
      · simp
    · split
      · split
        · rename_i k0 _
          have a0 := at_le k0 8
          split
          · simp only [List.length_append, List.map_cons, List.sum_cons, List.length_cons, List.length_nil]
            omega
          · simp only [List.length_append, List.map_cons, List.sum_cons, List.length_cons, List.length_nil]
            omega
        · simp
      · omega
theorem sum_tl : ∀ l : EL, ((txs l).map fun k => k.2.2.length + 2).sum ≤ tl l
  | .nil => by simp [txs, tl]
  | .cons op n s k r => by
    have := sum_tl r
    simp only [txs, List.map_cons, List.sum_cons, tl, textE]
    omega
theorem tl_le : ∀ l : EL, wellE l = true → intE l → tl l ≤ 300 * l.size
  | .nil, _, _ => by simp [tl]
  | .cons op n s k r, h, hi => by
    simp only [wellE, Bool.and_eq_true] at h
    obtain ⟨h1, h2, h3⟩ := h
    obtain ⟨⟨i0, i1⟩, i2, i3⟩ := hi
    have a := tl_le k h2 i2
    have b := tl_le r h3 i3
    have c := node_len op n s (txs k) i0 i1 (leaf_len op n s (root_parts h1).2.2)
    have d := sum_tl k
    simp only [tl, textE, EL.size]
    omega
end Go.Proofs.YtgdabnkjipcbhaaGreatDoor
